/- Layer 9 (the player): slots and code, of the model: l9Slots, l8Code, l9Item, l9Turn, l1Copy, l9Copy. No conditions but those typed. -/
import Derived.Test.YtpmdfogncoapjaaGreatDoorCoreM
import Derived.Laws.AppendOwn
namespace Go.Proofs.YtpmdfogncoapjaaGreatDoor
open Go.RowKit
set_option linter.unusedVariables false

/-- Slots read below block B: a row of rows. -/
def SeeSS (w : World) (B : Nat) (v : Value) (ss : List (List Int)) : Prop := ∃ vs : List Value, SeeV w B v vs ∧ vs.length = ss.length ∧ ∀ (k : Nat) (u : Value) (s : List Int), vs[k]? = some u → ss[k]? = some s → SeeI w B u s
theorem SeeSS.below {w w' : World} {B : Nat} {v : Value} {ss : List (List Int)} (h : SeeSS w B v ss) (hb : Below B w w') : SeeSS w' B v ss := by
  obtain ⟨vs, h1, h2, h3⟩ := h
  exact ⟨vs, h1.below hb, h2, fun k u s hu hs => (h3 k u s hu hs).below hb⟩
theorem SeeSS.more {w : World} {B B' : Nat} {v : Value} {ss : List (List Int)} (h : SeeSS w B v ss) (hb : B ≤ B') : SeeSS w B' v ss := by
  obtain ⟨vs, h1, h2, h3⟩ := h
  exact ⟨vs, h1.more hb, h2, fun k u s hu hs => (h3 k u s hu hs).more hb⟩
theorem SeeSS.shape {w : World} {B : Nat} {v : Value} {ss : List (List Int)} (h : SeeSS w B v ss) : ∃ A c, v = .slice A ss.length c := by
  obtain ⟨vs, h1, h2, h3⟩ := h
  rw [← h2]; exact h1.shape
theorem SeeSS.len {w : World} {B : Nat} {v : Value} {ss : List (List Int)} (h : SeeSS w B v ss) : ss.length ≤ maxLen := by
  obtain ⟨vs, h1, h2, h3⟩ := h
  rw [← h2]; exact h1.1
theorem SeeSS.at_ {w : World} {B : Nat} {A : Option Addr} {m c : Nat} {ss : List (List Int)} {k : Nat} {s : List Int} (h : SeeSS w B (.slice A m c) ss) (hs : ss[k]? = some s) :
    ∃ g o D q, A = some ⟨g, o, none⟩ ∧ w.cell? ⟨g, o + k, none⟩ = some (.slice D s.length q) ∧ SeeI w B (.slice D s.length q) s := by
  obtain ⟨vs, h1, h2, h3⟩ := h
  have hk : k < vs.length := by rw [h2]; exact (List.getElem?_eq_some_iff.1 hs).1
  obtain ⟨g, o, hA, -, hc⟩ := h1.at_ (List.getElem?_eq_getElem hk)
  have hu := h3 k _ s (List.getElem?_eq_getElem hk) hs
  obtain ⟨D, q, e⟩ := hu.shape
  rw [e] at hu hc
  exact ⟨g, o, D, q, hA, hc, hu⟩

theorem itemS_at {ss : List (List Int)} {g k : Nat} {s : List Int} (hs : ss[g]? = some s) : itemS ss g k = s.getD k 0 := by
  unfold itemS
  simp [List.getD_eq_getElem?_getD, hs]

set_option maxHeartbeats 2000000 in
theorem l9Item_any (B : Nat) (v : Value) (ss : List (List Int)) (g k : Nat) (w : World) (h : SeeSS w B v ss) (hg : g < ss.length) (hk : k ≤ 100000) :
    Calls Tryz.prog 147 #[v, .int .i64 g, .int .i64 k] w fun e w' => e = .returned (.int .i64 (itemS ss g k)) ∧ w = w' := by
  have hl := h.len
  unfold maxLen at hl
  obtain ⟨A, c, rfl⟩ := h.shape
  have hs := List.getElem?_eq_getElem hg
  generalize ss[g] = s at hs
  obtain ⟨b, o, D, q, rfl, hc, hi⟩ := h.at_ hs
  have hm := hi.1
  unfold maxLen at hm
  have HE : Hid (itemS ss g k = s.getD k 0) := Lib.hid (itemS_at hs)
  clear hs h
  by_cases hlt : k < s.length
  · obtain ⟨b2, o2, x, rfl, -, hx, hcx⟩ := hi.at_ hlt
    have HX : Hid (s.getD k 0 = x) := Lib.hid (by rw [List.getD_eq_getElem?_getD, hx]; rfl)
    clear hx hi
    go_enter Tryz.func147, Tryz.ntmps147
    go_wp2_with fail
    go_ret
    exact ⟨ret_int (by rw [HE.out, HX.out]), rfl⟩
  · have HX : Hid (s.getD k 0 = 0) := Lib.hid (by rw [List.getD_eq_getElem?_getD, List.getElem?_eq_none (by omega)]; rfl)
    clear hi
    go_enter Tryz.func147, Tryz.ntmps147
    go_wp2_with fail
    go_ret
    exact ⟨ret_int (by rw [HE.out, HX.out]), rfl⟩

set_option maxHeartbeats 2000000 in
theorem l9Slots_any (B : Nat) (v : Value) (ss : List (List Int)) (w : World) (h : SeeSS w B v ss) : Calls Tryz.prog 52 #[v] w (BoolIs (slotsB ss) w) := by
  have hl := h.len
  unfold maxLen at hl
  obtain ⟨A, c, rfl⟩ := h.shape
  go_enter Tryz.func52, Tryz.ntmps52
  go_wp2_with fail
  go_loop [3, 4] (fun i _ => ∃ k : Nat, k ≤ ss.length ∧ i = .int .i64 k ∧ (ss.take k).all slotB = true) (fun i _ => ss.length - (intOf i).toNat)
  case atStart => exact ⟨0, Nat.zero_le _, rfl, by simp⟩
  case round =>
    obtain ⟨k, hk, rfl, hv⟩ := hrel
    have HV := Lib.hid hv
    clear hv
    by_cases hlt : k < ss.length
    · have hs := List.getElem?_eq_getElem hlt
      generalize ss[k] = s at hs
      have HS := Lib.hid hs
      obtain ⟨b, o, D, q, rfl, hc, hi⟩ := h.at_ hs
      have hm := hi.1
      unfold maxLen at hm
      clear hs
      by_cases h40 : s.length ≤ 40
      · have h40' : ¬ (40 : Int) < (s.length : Int) := by omega
        have HB : Hid (slotB s = s.all wordB) := Lib.hid (by unfold slotB; rw [decide_eq_true h40, Bool.true_and])
        go_wp2_with fail
        clear h40 h40'
        go_loop [4] (fun i => ∃ j : Nat, j ≤ s.length ∧ i = .int .i64 j ∧ (s.take j).all wordB = true) (fun i => s.length - (intOf i).toNat)
        case atStart => exact ⟨0, Nat.zero_le _, rfl, by simp⟩
        case round =>
          obtain ⟨j, hj, rfl, hv⟩ := hrel
          have HW := Lib.hid hv
          clear hv
          by_cases hjt : j < s.length
          · obtain ⟨b2, o2, x, rfl, -, hx, hcx⟩ := hi.at_ hjt
            have HX := Lib.hid hx
            clear hx
            go_wp2_with fail
            refine (l5Word_any x _).mono ?_
            rintro e w' ⟨rfl, rfl⟩
            cases hp : wordB x
            · have HE : Hid (slotsB ss = false) := Lib.hid (by unfold slotsB; rw [all_out HS.out (by rw [HB.out]; exact all_out HX.out hp), Bool.and_false])
              go_wp2_with fail
              go_ret
              exact ⟨ret_bool HE.out.symm, rfl⟩
            · have HO := Lib.hid (all_more HW.out HX.out hp)
              go_wp2_with fail
              go_round
              case rel => exact ⟨j + 1, by omega, by go_num, HO.out⟩
              case measure => simp [intOf]; omega
          · obtain rfl : j = s.length := by omega
            have HO : Hid ((ss.take (k + 1)).all slotB = true) := Lib.hid (all_more HV.out HS.out (by rw [HB.out]; exact all_end HW.out))
            clear HW hi
            go_wp2_with fail
            go_round
            case rel => exact ⟨k + 1, by omega, by go_num, HO.out⟩
            case measure => simp [intOf]; omega
      · have h40' : (40 : Int) < (s.length : Int) := by omega
        have HE : Hid (slotsB ss = false) := Lib.hid (by unfold slotsB; rw [all_out HS.out (by unfold slotB; rw [decide_eq_false h40, Bool.false_and]), Bool.and_false])
        clear h40
        go_wp2_with fail
        go_ret
        exact ⟨ret_bool HE.out.symm, rfl⟩
    · obtain rfl : k = ss.length := by omega
      have HE : Hid (slotsB ss = inB ss.length 1 4) := Lib.hid (by
        unfold slotsB inB
        rw [all_end HV.out, Bool.and_true]
        exact decide_eq_decide.2 (by omega))
      clear HV h
      go_wp2_with fail
      refine (in_any _ 1 4 _).mono ?_
      rintro e w' ⟨rfl, rfl⟩
      go_wp2_with fail
      go_ret
      exact ⟨ret_bool HE.out.symm, rfl⟩

def shortOp (os : List Opv) : Prop := ∀ o ∈ os, o.2.2.length ≤ 1048576
set_option maxHeartbeats 2000000 in
theorem l8Code_any (B : Nat) (v : Value) (os : List Opv) (w : World) (h : SeeOp w B v os) (hB : B ≤ w.heap.size) (hS : shortOp os) : Calls Tryz.prog 51 #[v] w (BoolLt w (codeB os)) := by
  have hl := h.len
  unfold maxLen at hl
  obtain ⟨A, c, rfl⟩ := h.shape
  go_enter Tryz.func51, Tryz.ntmps51
  go_wp2_with fail
  go_loopw [3] (fun i wr => ∃ k : Nat, k ≤ os.length ∧ i = .int .i64 k ∧ (os.take k).all opB = true ∧ Below w.heap.size w wr) (fun i _ => os.length - (intOf i).toNat)
  case atStart => exact ⟨0, Nat.zero_le _, rfl, by simp, Below.refl _ _⟩
  case round =>
    obtain ⟨k, hk, rfl, hv, hbw⟩ := hrel
    have HV := Lib.hid hv
    clear hv
    by_cases hlt : k < os.length
    · have hx := List.getElem?_eq_getElem hlt
      generalize os[k] = x at hx
      have hsx := hS x (List.mem_of_getElem? hx)
      obtain ⟨g, o, rfl, -, e0, e1, e2⟩ := (h.below (hbw.mono hB)).at_ hx
      have HX := Lib.hid hx
      have HC := Lib.hid (fun W => sOpOk_any x hsx W)
      obtain ⟨a, n, s⟩ := x
      dsimp only at e0 e1 e2 HC
      clear hx hsx
      go_wp2_with fail
      refine (HC.out _).mono ?_
      rintro e w2 ⟨rfl, b2⟩
      have b3 := below_then hbw b2 (Nat.le_refl _)
      cases hp : opB (a, n, s)
      · have HE : Hid (codeB os = false) := Lib.hid (by unfold codeB; rw [all_out HX.out hp, Bool.and_false])
        go_wp2_with fail
        go_ret
        exact ⟨ret_bool HE.out.symm, b3⟩
      · have HO := Lib.hid (all_more HV.out HX.out hp)
        go_wp2_with fail
        go_roundw
        case rel => exact ⟨k + 1, by omega, by go_num, HO.out, b3⟩
        case measure => simp [intOf]; omega
    · obtain rfl : k = os.length := by omega
      have HE : Hid (codeB os = decide (os.length ≤ 300)) := Lib.hid (by unfold codeB; rw [all_end HV.out, Bool.and_true])
      go_wp2_with fail
      go_ret
      exact ⟨ret_bool (by rw [HE.out]; exact decide_eq_decide.2 (by omega)), hbw⟩

end Go.Proofs.YtpmdfogncoapjaaGreatDoor
