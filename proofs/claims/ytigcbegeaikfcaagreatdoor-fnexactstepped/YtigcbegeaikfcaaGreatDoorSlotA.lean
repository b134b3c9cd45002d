/- The laws' own helpers on [][]int64: their size, a copy, whether two are equal, marks in them. No conditions but those typed. -/
import Derived.Test.YtigcbegeaikfcaaGreatDoorSltM
namespace Go.Proofs.YtigcbegeaikfcaaGreatDoor
open Go.RowKit
set_option linter.unusedVariables false

def lensSS (ss : List (List Int)) : List Nat := ss.map List.length

set_option maxHeartbeats 1000000 in
theorem szSlots_any (B : Nat) (v : Value) (ss : List (List Int)) (left : Int) (h0 : 0 ≤ left) (h1 : left ≤ 1048576) (w : World) (h : SeeSS w B v ss) : Calls Tryz.prog 28 #[v, .int .i64 left] w fun e w' => e = .returned (.int .i64 (szL left (lensSS ss))) ∧ w = w' := by
  have hm := h.len
  unfold maxLen at hm
  obtain ⟨A, c, rfl⟩ := h.shape
  have HL : Hid ((lensSS ss).length = ss.length) := Lib.hid (by simp [lensSS])
  by_cases hl : left < ss.length
  · have HE : Hid (szL left (lensSS ss) = -1) := Lib.hid (szL_long (by rw [HL.out]; exact hl))
    have h2 : left - (ss.length : Int) < 0 := by omega
    go_enter Tryz.func28, Tryz.ntmps28
    go_wp2_with fail
    go_ret
    exact ⟨ret_int HE.out.symm, rfl⟩
  have HE : Hid (szL left (lensSS ss) = szGo (left - ss.length) (lensSS ss)) := Lib.hid (by rw [szL_short (by rw [HL.out]; exact hl), HL.out])
  have h2 : ¬ left - (ss.length : Int) < 0 := by omega
  go_enter Tryz.func28, Tryz.ntmps28
  go_wp2_with fail
  go_loop [1, 5] (fun q i => ∃ (k : Nat) (x : Int), k ≤ ss.length ∧ i = .int .i64 k ∧ q = .int .i64 x ∧ 0 ≤ x ∧ x ≤ 1048576 ∧ szGo x ((lensSS ss).drop k) = szL left (lensSS ss)) (fun _ i => ss.length - (intOf i).toNat)
  case atStart => exact ⟨0, _, Nat.zero_le _, rfl, rfl, by omega, by omega, HE.out.symm⟩
  case round =>
    obtain ⟨k, x, hk, rfl, rfl, x0, x1, hv⟩ := hrel
    have HV := Lib.hid hv
    clear hv HE h2
    by_cases hlt : k < ss.length
    · have hb := List.getElem?_eq_getElem hlt
      generalize ss[k] = s at hb
      obtain ⟨g, o, D, q, rfl, hc, hi⟩ := h.at_ hb
      have hms := hi.1
      have HK : Hid ((lensSS ss)[k]? = some s.length) := Lib.hid (by simp [lensSS, hb])
      have HC := Lib.hid (fun w => szInts_any D s.length q x hms x0 x1 w)
      have HX : Hid (szB x s.length = if x < s.length then -1 else x - s.length) := Lib.hid rfl
      clear hb h hi
      by_cases hq : x < s.length
      · have HB : Hid (szB x s.length = -1) := Lib.hid (by rw [HX.out, if_pos hq])
        have HE := Lib.hid (szGo_no HV.out HK.out hq)
        go_wp2_with fail
        refine (HC.out _).mono ?_
        rintro e w2 ⟨rfl, rfl⟩
        rw [HB.out]
        go_wp2_with fail
        go_ret
        exact ⟨ret_int HE.out.symm, rfl⟩
      · have HB : Hid (szB x s.length = x - s.length) := Lib.hid (by rw [HX.out, if_neg hq])
        have HE := Lib.hid (szGo_yes HV.out HK.out hq)
        have q1 : ¬ x - (s.length : Int) < 0 := by omega
        go_wp2_with fail
        refine (HC.out _).mono ?_
        rintro e w2 ⟨rfl, rfl⟩
        rw [HB.out]
        go_wp2_with fail
        go_round
        case rel => exact ⟨k + 1, _, by omega, by go_num, rfl, by omega, by omega, HE.out⟩
        case measure => simp [intOf]; omega
    · obtain rfl : k = ss.length := by omega
      have HE : Hid (szL left (lensSS ss) = x) := Lib.hid (by rw [← HV.out, List.drop_of_length_le (by rw [HL.out]; exact Nat.le_refl _)]; rfl)
      go_wp2_with fail
      go_ret
      exact ⟨ret_int HE.out.symm, rfl⟩

/-- Slots that a call made: a row of rows, no two of them one. -/
structure OwnSS (w : World) (B : Nat) (v : Value) (us : List Value) (ss : List (List Int)) : Prop where
  row : w.ownsRow B 24 1 v us.length us
  len : us.length = ss.length
  inn : ∀ (k : Nat) (u : Value) (s : List Int), us[k]? = some u → ss[k]? = some s → OwnI w B 2 u s
  ap : ∀ (i j : Nat) (u u' : Value), i ≠ j → us[i]? = some u → us[j]? = some u' → apartV u u'
  out : ∀ (k : Nat) (u : Value), us[k]? = some u → apartV v u
def rowsSS (us : List Value) (g : Nat) : Prop := ∃ (k : Nat) (u : Value), us[k]? = some u ∧ u.ownBlock = some g
theorem OwnSS.later {w w' : World} {B : Nat} {v : Value} {us : List Value} {ss : List (List Int)} (h : OwnSS w B v us ss) (b : Below w.heap.size w w') : OwnSS w' B v us ss :=
  ⟨own_later h.row b, h.len, fun k u s hu hs => (h.inn k u s hu hs).later b, h.ap, h.out⟩
theorem OwnSS.see {w : World} {B : Nat} {v : Value} {us : List Value} {ss : List (List Int)} (h : OwnSS w B v us ss) : SeeSS w w.heap.size v ss :=
  ⟨us, OwnV.see (h.row), h.len, fun k u s hu hs => (h.inn k u s hu hs).see⟩

theorem Tryz.infoSl : (Tryz.prog.info? 24).map (fun i => (i.zero, i.size, i.bytes)) = some (some (.slice none 0 0), 1, 24) := by kernel_rfl
theorem made_at {n k : Nat} (h : k < n) : (madeCells #[.slice none 0 0] n)[k]? = some (.slice none 0 0) := by
  simp [madeCells, h, Nat.mod_one]

set_option maxHeartbeats 4000000 in
theorem toSlots_any (B : Nat) (v : Value) (ss : List (List Int)) (hn : ss.length ≤ 1048576) (hl : ∀ s ∈ ss, s.length ≤ 1048576) (w : World) (hs : SeeSS w B v ss) (hB : B ≤ w.heap.size) : Calls Tryz.prog 31 #[v] w fun e w' =>
    ∃ v' us, e = .returned v' ∧ OwnSS w' w.heap.size v' us ss ∧ Below w.heap.size w w' := by
  obtain ⟨A, c, rfl⟩ := hs.shape
  have hmk := fun W => run_make_row' (P := Tryz.prog) 29 24 (.slice none 0 0) 24 Tryz.underlying29 Tryz.infoSl rfl .i64 .i64 ss.length (by omega) (by omega) W
  go_enter Tryz.func31, Tryz.ntmps31
  go_wp2_with fail
  clear hmk
  generalize hcur : madeCells _ ss.length = cur0
  have HS : Hid (cur0.size = ss.length) := Lib.hid (by rw [← hcur, size_madeCells])
  clear hcur
  have H0 : Hid ((w.alloc (.cells cur0 24)).heap[w.heap.size]? = some (.cells cur0 24 (0, 0))) := Lib.hid (heap_alloc_new _ _)
  have B0 : Below w.heap.size w (w.alloc (.cells cur0 24)) := below_new _ _
  generalize w.alloc _ = W0 at H0 B0 ⊢
  generalize hz : w.heap.size = z at H0 ⊢
  have HZ := Lib.hid hz
  clear hz
  go_loopw [4] (fun i wr => ∃ (k : Nat) (cur : Array Value) (us : List Value), k ≤ ss.length ∧ i = .int .i64 k ∧ wr.heap[z]? = some (.cells cur 24 (0, 0)) ∧ cur.size = ss.length ∧ us.length = k ∧ cur.toList.take k = us ∧
      (∀ (j : Nat) (u : Value) (s : List Int), us[j]? = some u → ss[j]? = some s → OwnI wr (z + 1) 2 u s) ∧ (∀ (i j : Nat) (u u' : Value), i < j → us[i]? = some u → us[j]? = some u' → apartV u u') ∧ Below w.heap.size w wr) (fun i _ => ss.length - (intOf i).toNat)
  case atStart => exact ⟨0, _, [], Nat.zero_le _, rfl, H0.out, HS.out, rfl, by simp, fun j u s h => by simp at h, fun i j u u' _ h => by simp at h, B0⟩
  case round =>
    obtain ⟨k, cur, us, hk, rfl, hh, hsz, hul, htk, hin, hap, hb⟩ := hrel
    have HH := Lib.hid hh
    have HZ2 := Lib.hid hsz
    have HT := Lib.hid htk
    have HU := Lib.hid hul
    have HI := Lib.hid hin
    have HA := Lib.hid hap
    clear hh hsz htk hul hin hap
    by_cases hlt : k < ss.length
    · have hx := List.getElem?_eq_getElem hlt
      generalize ss[k] = s at hx
      have hls := hl s (List.mem_of_getElem? hx)
      obtain ⟨g, o, D, q, rfl, hc, hi⟩ := (hs.below (hb.mono hB)).at_ hx
      have HX := Lib.hid hx
      have HC := Lib.hid (toInts_any B _ s hls wr hi (Nat.le_trans hB hb.size))
      clear hx hi
      go_wp2_with fail
      refine HC.out.mono ?_
      rintro e w2 ⟨u, rfl, ou, b2⟩
      have hzlt : z < wr.heap.size := heap_lt HH.out
      have HH2 : Hid (w2.heap[z]? = some (.cells cur 24 (0, 0))) := Lib.hid (row_later HH.out b2)
      have hk' : k < cur.size := by have := HZ2.out; omega
      have hcc : w2.cell? ⟨z, k, none⟩ = some cur[k] := by rw [cell_of_row w2 _ k cur _ (0, 0) HH2.out]; exact Array.getElem?_eq_getElem hk'
      have hfz : w2.frozen? ⟨z, k, none⟩ = false := frozen_row HH2.out
      generalize cur[k]'(_) = q0 at hcc
      have hb3 := below_then hb b2 (Nat.le_refl _)
      have OU := Lib.hid (ou.less (show z + 1 ≤ wr.heap.size by omega))
      have HLT := Lib.hid ou.lt
      have HB2 := Lib.hid b2
      obtain ⟨A2, c2, rfl⟩ := ou.see.shape
      clear hc ou b2 HC
      go_wp2_with fail
      go_roundw
      case rel =>
        refine ⟨k + 1, _, us ++ [.slice A2 s.length c2], by omega, by go_num, heap_set HH2.out _, by simp only [Array.size_setIfInBounds]; exact HZ2.out, by have := HU.out; simp; omega, take_set HT.out hk', ?_, ?_, hb3.setCell (by have := HZ.out; simp; omega) _⟩
        · intro j u' s' hu' hs'
          by_cases hj : j < k
          · rw [List.getElem?_append_left (by have := HU.out; omega)] at hu'
            exact ((HI.out j u' s' hu' hs').later HB2.out).far (p := ⟨z, k, none⟩) (by simp) _
          · have hjk : j = k := by
              have h1 := (List.getElem?_eq_some_iff.1 hu').1
              have := HU.out
              simp at h1
              omega
            subst hjk
            rw [List.getElem?_append_right (by have := HU.out; omega), show j - us.length = 0 by have := HU.out; omega] at hu'
            rw [HX.out] at hs'
            injection hs' with hs'
            simp at hu'
            subst hu' hs'
            exact OU.out.far (p := ⟨z, j, none⟩) (by simp) _
        · intro i j u1 u2 hij h1 h2
          have hul := HU.out
          by_cases hj : j < k
          · rw [List.getElem?_append_left (by omega)] at h1 h2
            exact HA.out i j u1 u2 hij h1 h2
          · have hjk : j = k := by
              have h3 := (List.getElem?_eq_some_iff.1 h2).1
              simp at h3
              omega
            subst hjk
            rw [List.getElem?_append_left (by omega)] at h1
            rw [List.getElem?_append_right (by omega), show j - us.length = 0 by omega] at h2
            simp at h2
            subst h2
            have hs0 : ∃ s0, ss[i]? = some s0 := ⟨_, List.getElem?_eq_getElem (by omega)⟩
            obtain ⟨s0, hs0⟩ := hs0
            have ho := (HI.out i u1 s0 h1 hs0).lt
            intro g q1 q2
            have := (ho g q1).2
            have := (HLT.out g q2).1
            omega
      case measure => simp [intOf]; omega
    · obtain rfl : ss.length = k := by omega
      have htake : cur.toList = us := by
        have := HT.out
        rwa [List.take_of_length_le (by have := HZ2.out; simp; omega)] at this
      go_wp2_with fail
      go_ret
      refine ⟨_, us, rfl, ⟨⟨by rw [Nat.mul_one], .inr ⟨z, ss.length, cur, by rw [HU.out]; rfl, by have := HZ.out; omega, HH.out, by rw [HU.out]; exact Nat.le_refl _, by unfold maxLen; omega, by have := HZ2.out; omega, ?_⟩⟩, HU.out, ?_, ?_, ?_⟩, hb⟩
      · rw [Nat.mul_one, HU.out]
        exact HT.out
      · intro k u s hu hs'
        exact (HI.out k u s hu hs').less (by have := HZ.out; omega)
      · intro i j u u' hij h1 h2
        by_cases hlt2 : i < j
        · exact HA.out i j u u' hlt2 h1 h2
        · intro g q1 q2
          exact HA.out j i u' u (by omega) h2 h1 g q2 q1
      · intro k u hu g q1 q2
        have hk2 : k < ss.length := by have := (List.getElem?_eq_some_iff.1 hu).1; have := HU.out; omega
        have := ((HI.out k u _ hu (List.getElem?_eq_getElem hk2)).lt g q2).1
        simp [Value.ownBlock] at q1
        omega

set_option maxHeartbeats 4000000 in
theorem eqSlots_same (B : Nat) (va vb : Value) (ss : List (List Int)) (w : World) (ha : SeeSS w B va ss) (hb : SeeSS w B vb ss) :
    Calls Tryz.prog 35 #[va, vb] w fun e w' => e = .returned (.bool true) ∧ ∃ n, w' = w.drewN n := by
  have hm := ha.len
  unfold maxLen at hm
  obtain ⟨A, ca, rfl⟩ := ha.shape
  obtain ⟨A', cb, rfl⟩ := hb.shape
  have hb1 : ((ss.length : Int) != (ss.length : Int)) = false := by simp
  go_enter Tryz.func35, Tryz.ntmps35
  go_wp2_with fail
  clear hb1
  go_loopw [5] (fun i wr => ∃ k m : Nat, k ≤ ss.length ∧ i = .int .i64 k ∧ wr = w.drewN m) (fun i _ => ss.length - (intOf i).toNat)
  case atStart => exact ⟨0, 0, Nat.zero_le _, rfl, rfl⟩
  case round =>
    obtain ⟨k, m, hk, rfl, hwr⟩ := hrel
    have HW := Lib.hid hwr
    have ha' : SeeSS wr B (.slice A ss.length ca) ss := by rw [hwr]; exact ha.below (below_drewN (Below.refl _ _) _)
    have hb' : SeeSS wr B (.slice A' ss.length cb) ss := by rw [hwr]; exact hb.below (below_drewN (Below.refl _ _) _)
    clear hwr ha hb
    by_cases hlt : k < ss.length
    · have hx := List.getElem?_eq_getElem hlt
      generalize ss[k] = s at hx
      obtain ⟨g, o, D, q, rfl, hc, hi⟩ := ha'.at_ hx
      obtain ⟨g', o', D', q', rfl, hc', hi'⟩ := hb'.at_ hx
      have T1 : Hid (∀ n, Calls Tryz.prog 78 #[.slice D s.length q, .slice D' s.length q'] (wr.drewN n) fun e w' => e = .returned (.bool true) ∧ ∃ j, w' = wr.drewN j) := Lib.hid fun n => by
        refine (eqInts_any B _ _ s s _ (hi.drewN n) (hi'.drewN n)).mono ?_
        rintro e w1 ⟨rfl, j, rfl⟩
        rw [eqI_same]
        exact ⟨rfl, _, World.drewN_drewN _ _ _⟩
      clear ha' hb' hx hi hi'
      go_wp2_with fail
      go_quiet (first | (go_at_call 78; exact T1.out _))
      go_wp2
      go_roundw
      case rel => exact ⟨k + 1, _, by omega, by go_num, by rw [HW.out]; exact World.drewN_drewN _ _ _⟩
      case measure => simp [intOf]; omega
    · obtain rfl : k = ss.length := by omega
      go_wp2_with fail
      go_ret
      exact ⟨rfl, _, HW.out⟩

/-- How many words there are in slots. -/
def nSS (ss : List (List Int)) : Nat := (ss.map List.length).foldl (· + ·) 0
theorem foldl_from (l : List Nat) (a : Nat) : l.foldl (· + ·) a = a + l.foldl (· + ·) 0 := by
  induction l generalizing a with
  | nil => simp
  | cons x r ih => rw [List.foldl_cons, List.foldl_cons, ih (a + x), ih (0 + x)]; omega
theorem nSS_take {ss : List (List Int)} {k : Nat} {s : List Int} (h : ss[k]? = some s) : nSS (ss.take (k + 1)) = nSS (ss.take k) + s.length := by
  unfold nSS
  rw [List.take_add_one, h]
  simp
theorem nSS_le {ss : List (List Int)} (k : Nat) : nSS (ss.take k) ≤ nSS ss := by
  have h : nSS (ss.take k ++ ss.drop k) = nSS (ss.take k) + nSS (ss.drop k) := by
    unfold nSS
    rw [List.map_append, List.foldl_append, foldl_from]
  rw [List.take_append_drop] at h
  omega

set_option maxHeartbeats 4000000 in
theorem markSlots_any (B : Nat) (v : Value) (us : List Value) (ss : List (List Int)) (s : Nat) (w : World) (h : OwnSS w B v us ss) (hs : s + nSS ss ≤ 4611686018427387904) :
    Calls Tryz.prog 38 #[v, .int .i64 s] w fun r w' => r = .returned (.int .i64 ((s + nSS ss : Nat) : Int)) ∧ Only (rowsSS us) w w' := by
  have hrow := h.row
  have hsee := OwnV.see (show OwnV w B 24 v us from h.row)
  have hlen := h.len
  have hml := h.row
  obtain ⟨A, c, rfl⟩ := hsee.shape
  have hul : us.length ≤ maxLen := hsee.1
  unfold maxLen at hul
  have HOUT := Lib.hid h.out
  have HAP := Lib.hid h.ap
  have HINN := Lib.hid h.inn
  have HLE := Lib.hid hlen
  clear hlen
  go_enter Tryz.func38, Tryz.ntmps38
  go_wp2_with fail
  go_loopw [1, 5] (fun m i wr => ∃ k : Nat, k ≤ us.length ∧ i = .int .i64 k ∧ m = .int .i64 ((s + nSS (ss.take k) : Nat) : Int) ∧ Only (fun g => ∃ (j : Nat) (u : Value), j < k ∧ us[j]? = some u ∧ u.ownBlock = some g) w wr) (fun _ i _ => us.length - (intOf i).toNat)
  case atStart => exact ⟨0, Nat.zero_le _, rfl, by simp [nSS], Only.refl _ _⟩
  case round =>
    obtain ⟨k, hk, rfl, rfl, hon⟩ := hrel
    by_cases hlt : k < us.length
    · have hu := List.getElem?_eq_getElem hlt
      generalize us[k] = u at hu
      have hsk : ∃ q, ss[k]? = some q := ⟨_, List.getElem?_eq_getElem (by have := HLE.out; omega)⟩
      obtain ⟨q, hq⟩ := hsk
      have HQ := Lib.hid hq
      have HU := Lib.hid hu
      have o0 := HINN.out k u q hu hq
      have o1 : OwnI wr B 2 u q := own_only o0 hon (fun g hg ⟨j, u', hj, hu', hg'⟩ => HAP.out j k u' u (by omega) hu' hu g hg' hg)
      have hrw : OwnV wr B 24 (.slice A us.length c) us := own_only h.row hon (fun g hg ⟨j, u', hj, hu', hg'⟩ => HOUT.out j u' hu' g hg hg')
      obtain ⟨gA, oA, rfl, -, hcc⟩ := hrw.see.at_ hu
      have hle := nSS_le (ss := ss) (k + 1)
      rw [nSS_take hq] at hle
      have HM := Lib.hid (markInts_any B _ u q (s + nSS (ss.take k)) wr o1 (by omega))
      have HT := Lib.hid (nSS_take hq)
      have HON := Lib.hid hon
      obtain ⟨A2, c2, rfl⟩ := o1.see.shape
      clear hq hu o0 o1 hon hrw h hrow hml hsee
      go_wp2_with fail
      refine HM.out.mono ?_
      rintro e w2 ⟨rfl, -, gr⟩
      have hon2 : Only (fun g => ∃ (j : Nat) (u' : Value), j < k + 1 ∧ us[j]? = some u' ∧ u'.ownBlock = some g) w w2 :=
        (HON.out.more (fun g ⟨j, u', hj, hu', hg'⟩ => ⟨j, u', by omega, hu', hg'⟩)).trans (Only.of_grown gr (fun g hg => ⟨k, _, by omega, HU.out, hg⟩))
      go_wp2_with fail
      go_roundw
      case rel => exact ⟨k + 1, by omega, by go_num, by rw [HT.out]; go_num, hon2⟩
      case measure => simp [intOf]; omega
    · obtain rfl : k = us.length := by omega
      have HE : Hid (nSS (ss.take us.length) = nSS ss) := Lib.hid (by rw [HLE.out, List.take_length])
      go_wp2_with fail
      go_ret
      exact ⟨ret_num (by rw [HE.out]), hon.more (fun g ⟨j, u', hj, hu', hg'⟩ => ⟨j, u', hu', hg'⟩)⟩

end Go.Proofs.YtigcbegeaikfcaaGreatDoor
