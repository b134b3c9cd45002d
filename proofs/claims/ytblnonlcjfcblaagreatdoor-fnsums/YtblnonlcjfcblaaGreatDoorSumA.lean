/- Layer 6 (sums): the model's l6Op and SumEnd. No conditions but those typed. -/
import Derived.Test.YtblnonlcjfcblaaGreatDoorSumM
import Derived.Test.YtblnonlcjfcblaaGreatDoorWordR
namespace Go.Proofs.YtblnonlcjfcblaaGreatDoor
open Go.RowKit
set_option linter.unusedVariables false

/-- The place of the first that is s, counted from k on; -1 when none is. -/
def idxS : List (List UInt8) → List UInt8 → Nat → Int
  | [], _, _ => -1
  | x :: r, s, k => if x = s then (k : Int) else idxS r s (k + 1)
theorem idx_yes {ss : List (List UInt8)} {k : Nat} {x s : List UInt8} (hv : idxS (ss.drop k) s k = idxS ss s 0) (hx : ss[k]? = some x) (h : x = s) : idxS ss s 0 = (k : Int) := by
  rw [← hv, fin_cons hx, idxS, if_pos h]
theorem idx_no {ss : List (List UInt8)} {k : Nat} {x s : List UInt8} (hv : idxS (ss.drop k) s k = idxS ss s 0) (hx : ss[k]? = some x) (h : ¬ x = s) : idxS (ss.drop (k + 1)) s (k + 1) = idxS ss s 0 := by
  rw [← hv, fin_cons hx, idxS, if_neg h]
theorem idx_end {ss : List (List UInt8)} {s : List UInt8} (hv : idxS (ss.drop ss.length) s ss.length = idxS ss s 0) : idxS ss s 0 = -1 := by
  rw [← hv, List.drop_of_length_le (Nat.le_refl _)]; rfl
theorem strs_at {w : World} {B : Nat} {A : Option Addr} {m c : Nat} {ss : List (List UInt8)} {k : Nat} {x : List UInt8} (h : SeeV w B (.slice A m c) (ss.map str)) (hx : ss[k]? = some x) :
    ∃ g o, A = some ⟨g, o, none⟩ ∧ g < B ∧ w.cell? ⟨g, o + k, none⟩ = some (str x) := h.at_ (by rw [List.getElem?_map, hx]; rfl)
theorem strs_shape {w : World} {B : Nat} {v : Value} {ss : List (List UInt8)} (h : SeeV w B v (ss.map str)) : ∃ A c, v = .slice A ss.length c := by
  obtain ⟨A, c, e⟩ := h.shape; exact ⟨A, c, by rw [e, List.length_map]⟩
theorem strs_len {w : World} {B : Nat} {v : Value} {ss : List (List UInt8)} (h : SeeV w B v (ss.map str)) : ss.length ≤ maxLen := by have := h.1; rwa [List.length_map] at this

set_option maxHeartbeats 1000000 in
theorem l1At_any (B : Nat) (v : Value) (ss : List (List UInt8)) (s : List UInt8) (w : World) (h : SeeV w B v (ss.map str)) :
    Calls Tryz.prog 112 #[v, str s] w fun e w' => e = .returned (.int .i64 (idxS ss s 0)) ∧ w = w' := by
  have hm := strs_len h
  unfold maxLen at hm
  obtain ⟨A, c, rfl⟩ := strs_shape h
  go_enter Tryz.func112, Tryz.ntmps112
  go_wp2_with fail
  go_loop [5] (fun i => ∃ k : Nat, k ≤ ss.length ∧ i = .int .i64 k ∧ idxS (ss.drop k) s k = idxS ss s 0) (fun i => ss.length - (intOf i).toNat)
  case atStart => exact ⟨0, Nat.zero_le _, rfl, rfl⟩
  case round =>
    obtain ⟨k, hk, rfl, hv⟩ := hrel
    have HV := Lib.hid hv
    clear hv
    by_cases hlt : k < ss.length
    · have hb := List.getElem?_eq_getElem hlt
      generalize ss[k] = x at hb
      obtain ⟨g, o, rfl, -, hn⟩ := strs_at h hb
      by_cases hs : x = s
      · subst hs
        have HE := Lib.hid (idx_yes HV.out hb rfl)
        clear hb h
        go_wp2_with fail
        go_ret
        exact ⟨ret_int HE.out.symm, rfl⟩
      · have HE := Lib.hid (idx_no HV.out hb hs)
        have hf : (x == s) = false := by simpa using hs
        clear hb h hs
        go_wp2_with fail
        go_round
        case rel => exact ⟨k + 1, by omega, by go_num, HE.out⟩
        case measure => simp [intOf]; omega
    · obtain rfl : k = ss.length := by omega
      have HE := Lib.hid (idx_end HV.out)
      go_wp2_with fail
      go_ret
      exact ⟨ret_int HE.out.symm, rfl⟩

def opsL : List (List UInt8) := [[43], [45], [42], [47], [60], [61]]
theorem opN_idx (s : List UInt8) : opN s = idxS opsL s 0 + 1 := by
  unfold opN opsL
  simp only [idxS, eq_comm (a := s)]
  repeat' split
  all_goals first | rfl | simp_all

set_option maxHeartbeats 1000000 in
theorem l6Ops_any (w : World) : Calls Tryz.prog 113 #[] w fun e w' => ∃ v, e = .returned v ∧ SeeV w' w'.heap.size v (opsL.map str) ∧ Below w.heap.size w w' := by
  go_enter Tryz.func113, Tryz.ntmps113
  go_wp2_with fail
  go_ret
  refine ⟨_, rfl, ⟨by decide, _, _, rfl, by simp [opsL], fun k x hx => ⟨_, _, rfl, by simp, ?_⟩⟩, (Below.refl _ _).alloc (Nat.le_refl _) _⟩
  rw [Nat.zero_add, cell_of_row _ _ k _ _ (0, 0) (heap_alloc_new _ _)]
  rw [← hx]
  simp [opsL]

set_option maxHeartbeats 1000000 in
theorem l6Op_any (s : List UInt8) (w : World) : Calls Tryz.prog 75 #[str s] w fun e w' => e = .returned (.int .i64 (opN s)) ∧ Below w.heap.size w w' := by
  have HO := Lib.hid (opN_idx s)
  obtain ⟨r0, r1⟩ := opN_range s
  rw [HO.out] at r0 r1
  go_enter Tryz.func75, Tryz.ntmps75
  go_wp2_with fail
  refine (l6Ops_any _).mono ?_
  rintro e w1 ⟨v, rfl, h1, b1⟩
  obtain ⟨A, c, rfl⟩ := h1.shape
  go_wp2_with fail
  refine (l1At_any _ _ opsL s _ h1).mono ?_
  rintro e w' ⟨rfl, rfl⟩
  generalize idxS opsL s 0 = z at HO r0 r1 ⊢
  go_wp2_with fail
  go_ret
  exact ⟨ret_int HO.out.symm, b1⟩

end Go.Proofs.YtblnonlcjfcblaaGreatDoor
