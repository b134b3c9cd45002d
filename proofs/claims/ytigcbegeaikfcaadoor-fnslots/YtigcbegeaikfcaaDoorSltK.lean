/- The laws' own marks in slots, and whether they are held there. No conditions but those typed. -/
import Derived.Test.YtigcbegeaikfcaaDoorSltO
namespace Go.Proofs.YtigcbegeaikfcaaDoor
open Go.RowKit
set_option linter.unusedVariables false

/-- Slots with marks in them, from s on. -/
def mkSS (s : Nat) (ss : List (List Int)) : List (List Int) := (List.range ss.length).map fun k => marks (s + nSS (ss.take k)) (ss.getD k []).length
theorem mkSS_len (s : Nat) (ss : List (List Int)) : (mkSS s ss).length = ss.length := by simp [mkSS]
theorem mkSS_at {s : Nat} {ss : List (List Int)} {k : Nat} {q : List Int} (h : ss[k]? = some q) : (mkSS s ss)[k]? = some (marks (s + nSS (ss.take k)) q.length) := by
  have hk := (List.getElem?_eq_some_iff.1 h).1
  unfold mkSS
  rw [List.getElem?_map, List.getElem?_range hk]
  simp [h]

set_option maxHeartbeats 4000000 in
theorem markSS_any (B : Nat) (v : Value) (us : List Value) (ss : List (List Int)) (s : Nat) (w : World) (h : OwnSS w B v us ss) (hs : s + nSS ss ≤ 4611686018427387904) :
    Calls Tryd.prog 17 #[v, .int .i64 s] w fun r w' => r = .returned (.int .i64 ((s + nSS ss : Nat) : Int)) ∧ OwnSS w' B v us (mkSS s ss) ∧ Only (rowsSS us) w w' := by
  have hsee := OwnV.see (show OwnV w B 40 v us from h.row)
  have HO := Lib.hid h
  have hlen := h.len
  obtain ⟨A, c, rfl⟩ := hsee.shape
  have hul : us.length ≤ maxLen := hsee.1
  unfold maxLen at hul
  have HLE := Lib.hid hlen
  clear hlen h hsee
  go_enter Tryd.func17, Tryd.ntmps17
  go_wp2_with fail
  go_loopw [1, 5] (fun m i wr => ∃ k : Nat, k ≤ us.length ∧ i = .int .i64 k ∧ m = .int .i64 ((s + nSS (ss.take k) : Nat) : Int) ∧ Only (fun g => ∃ (j : Nat) (u : Value), j < k ∧ us[j]? = some u ∧ u.ownBlock = some g) w wr ∧
      (∀ (j : Nat) (u : Value) (q : List Int), j < k → us[j]? = some u → ss[j]? = some q → OwnI wr B 2 u (marks (s + nSS (ss.take j)) q.length))) (fun _ i _ => us.length - (intOf i).toNat)
  case atStart => exact ⟨0, Nat.zero_le _, rfl, by simp [nSS], Only.refl _ _, fun j u q hj => absurd hj (by omega)⟩
  case round =>
    obtain ⟨k, hk, rfl, rfl, hon, hin⟩ := hrel
    have HIN := Lib.hid hin
    clear hin
    by_cases hlt : k < us.length
    · have hu := List.getElem?_eq_getElem hlt
      generalize us[k] = u at hu
      have hsk : ∃ q, ss[k]? = some q := ⟨_, List.getElem?_eq_getElem (by have := HLE.out; omega)⟩
      obtain ⟨q, hq⟩ := hsk
      have HQ := Lib.hid hq
      have HU := Lib.hid hu
      have o0 := HO.out.inn k u q hu hq
      have o1 : OwnI wr B 2 u q := own_only o0 hon (fun g hg ⟨j, u', hj, hu', hg'⟩ => HO.out.ap j k u' u (by omega) hu' hu g hg' hg)
      have hrw : OwnV wr B 40 (.slice A us.length c) us := own_only HO.out.row hon (fun g hg ⟨j, u', hj, hu', hg'⟩ => HO.out.out j u' hu' g hg hg')
      obtain ⟨gA, oA, rfl, -, hcc⟩ := hrw.see.at_ hu
      have hle := nSS_le (ss := ss) (k + 1)
      rw [nSS_take hq] at hle
      have HM := Lib.hid (markInts_any B _ u q (s + nSS (ss.take k)) wr o1 (by omega))
      have HT := Lib.hid (nSS_take hq)
      have HON := Lib.hid hon
      obtain ⟨A2, c2, rfl⟩ := o1.see.shape
      clear hq hu o0 o1 hon hrw
      go_wp2_with fail
      refine HM.out.mono ?_
      rintro e w2 ⟨rfl, om, gr⟩
      have hon2 : Only (fun g => ∃ (j : Nat) (u' : Value), j < k + 1 ∧ us[j]? = some u' ∧ u'.ownBlock = some g) w w2 :=
        (HON.out.more (fun g ⟨j, u', hj, hu', hg'⟩ => ⟨j, u', by omega, hu', hg'⟩)).trans (Only.of_grown gr (fun g hg => ⟨k, _, by omega, HU.out, hg⟩))
      have HIN2 : Hid (∀ (j : Nat) (u : Value) (q : List Int), j < k + 1 → us[j]? = some u → ss[j]? = some q → OwnI w2 B 2 u (marks (s + nSS (ss.take j)) q.length)) := Lib.hid (fun j u' q' hj hu' hq' => by
        by_cases e : j = k
        · subst e
          have e1 := HU.out.symm.trans hu'
          have e2 := HQ.out.symm.trans hq'
          injection e1 with e1
          injection e2 with e2
          subst e1 e2
          exact om
        · refine own_only (HIN.out j u' q' (by omega) hu' hq') (Only.of_grown (S := fun g => (Value.slice A2 q.length c2).ownBlock = some g) gr (fun g hg => hg)) (fun g hg hg2 => HO.out.ap j k u' _ e hu' HU.out g hg hg2))
      clear om gr
      go_wp2_with fail
      go_roundw
      case rel => exact ⟨k + 1, by omega, by go_num, by rw [HT.out]; go_num, hon2, HIN2.out⟩
      case measure => simp [intOf]; omega
    · obtain rfl : k = us.length := by omega
      have HE : Hid (nSS (ss.take us.length) = nSS ss) := Lib.hid (by rw [HLE.out, List.take_length])
      have hfin : Only (rowsSS us) w wr := hon.more (fun g ⟨j, u', hj, hu', hg'⟩ => ⟨j, u', hu', hg'⟩)
      have HX : Hid (OwnSS wr B (.slice A us.length c) us (mkSS s ss)) := Lib.hid
        ⟨own_only HO.out.row hfin (fun g hg ⟨j, u', hu', hg'⟩ => HO.out.out j u' hu' g hg hg'), by rw [mkSS_len]; exact HLE.out, fun j u q hu hq => (by
          have hj := (List.getElem?_eq_some_iff.1 hu).1
          have hsj : ∃ q, ss[j]? = some q := ⟨_, List.getElem?_eq_getElem (by have := HLE.out; omega)⟩
          obtain ⟨q', hq'⟩ := hsj
          rw [mkSS_at hq'] at hq
          injection hq with hq
          subst hq
          exact HIN.out j u q' hj hu hq'), HO.out.ap, HO.out.out⟩
      go_wp2_with fail
      go_ret
      exact ⟨ret_num (by rw [HE.out]), HX.out, hfin⟩

set_option maxHeartbeats 4000000 in
theorem heldSS_any (B : Nat) (v : Value) (ss : List (List Int)) (s : Nat) (w : World) (h : SeeSS w B v (mkSS s ss)) (hs : s + nSS ss ≤ 4611686018427387904) :
    Calls Tryd.prog 18 #[v, .int .i64 s] w fun r w' => r = .returned (.int .i64 ((s + nSS ss : Nat) : Int)) ∧ w = w' := by
  have hm := h.len
  have HL := Lib.hid (mkSS_len s ss)
  rw [HL.out] at hm
  obtain ⟨A, c, e⟩ := h.shape
  rw [HL.out] at e
  subst e
  unfold maxLen at hm
  go_enter Tryd.func18, Tryd.ntmps18
  go_wp2_with fail
  go_loop [1, 5] (fun m i => ∃ k : Nat, k ≤ ss.length ∧ i = .int .i64 k ∧ m = .int .i64 ((s + nSS (ss.take k) : Nat) : Int)) (fun _ i => ss.length - (intOf i).toNat)
  case atStart => exact ⟨0, Nat.zero_le _, rfl, by simp [nSS]⟩
  case round =>
    obtain ⟨k, hk, rfl, rfl⟩ := hrel
    by_cases hlt : k < ss.length
    · have hsk : ∃ q, ss[k]? = some q := ⟨_, List.getElem?_eq_getElem hlt⟩
      obtain ⟨q, hq⟩ := hsk
      obtain ⟨g, o, D, c2, rfl, hc, hi⟩ := h.at_ (mkSS_at hq)
      rw [marks_length] at hc hi
      have hle := nSS_le (ss := ss) (k + 1)
      rw [nSS_take hq] at hle
      have HH := Lib.hid (heldInts_any B _ (s + nSS (ss.take k)) q.length w hi (by omega))
      have HT := Lib.hid (nSS_take hq)
      obtain ⟨kz, HK⟩ : ∃ z : Int, Hid (((s + nSS (ss.take k) + q.length : Nat) : Int) = z) := ⟨_, Lib.hid rfl⟩
      have hkz : ¬ kz < 0 := by have := HK.out; omega
      rw [HK.out] at HH
      clear hq hi h
      go_wp2_with fail
      refine HH.out.mono ?_
      rintro e w2 ⟨rfl, rfl⟩
      go_wp2_with fail
      go_round
      case rel => exact ⟨k + 1, by omega, by go_num, by rw [HT.out, ← HK.out]; go_num⟩
      case measure => simp [intOf]; omega
    · obtain rfl : k = ss.length := by omega
      have HE : Hid (nSS (ss.take ss.length) = nSS ss) := Lib.hid (by rw [List.take_length])
      go_wp2_with fail
      go_ret
      exact ⟨ret_num (by first | rfl | rw [HE.out]), rfl⟩

end Go.Proofs.YtigcbegeaikfcaaDoor
