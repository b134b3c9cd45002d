/- The model's l1Words: texts with another one between. -/
import Derived.Test.YtigcbegeaikfcaaGreatDoorRows
import Derived.Test.YtigcbegeaikfcaaGreatDoorLowA
namespace Go.Proofs.YtigcbegeaikfcaaGreatDoor
open Go.RowKit
set_option linter.unusedVariables false

theorem join_first (ts : List (List UInt8)) (sep t : List UInt8) (h : ts[0]? = some t) : Lib.join (ts.take 1) sep = t := by
  rw [List.take_add_one, h]; exact Lib.join_one t sep
theorem join_succ (ts : List (List UInt8)) (sep t : List UInt8) (k : Nat) (hk : 0 < k) (h : ts[k]? = some t) : Lib.join (ts.take (k + 1)) sep = Lib.join (ts.take k) sep ++ sep ++ t := by
  match ts, k, hk, h with
  | x :: r, k + 1, _, h =>
    rw [List.take_succ_cons, List.take_succ_cons, Lib.join_cons, Lib.join_cons, Lib.joinTail_take_succ sep r k t (by simpa using h), List.append_assoc, List.append_assoc, List.append_assoc]
theorem join_take_le (ts : List (List UInt8)) (sep : List UInt8) (k : Nat) : (Lib.join (ts.take k) sep).length ≤ (Lib.join ts sep).length := by
  have step : ∀ k, (Lib.join (ts.take k) sep).length ≤ (Lib.join (ts.take (k + 1)) sep).length := fun k => by
    cases h : ts[k]? with
    | none => rw [List.take_add_one, h]; simp
    | some t =>
      rcases Nat.eq_zero_or_pos k with rfl | hk
      · simp [Lib.join]
      · rw [join_succ ts sep t k hk h]; simp
  have mono : ∀ d, (Lib.join (ts.take k) sep).length ≤ (Lib.join (ts.take (k + d)) sep).length := fun d => by
    induction d with
    | zero => exact Nat.le_refl _
    | succ d ih => exact Nat.le_trans ih (step (k + d))
  have := mono ts.length
  rwa [List.take_of_length_le (show ts.length ≤ k + ts.length from by omega)] at this

end Go.Proofs.YtigcbegeaikfcaaGreatDoor
