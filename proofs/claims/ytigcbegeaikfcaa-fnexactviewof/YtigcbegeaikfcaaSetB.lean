/- Contracts of layer 1's functions on single ranks (InSet and what it calls, in the program and in the model), and the law FnExactInSet's walk. -/
import Derived.Test.YtigcbegeaikfcaaLowA
namespace Go.Proofs.Ytigcbegeaikfcaa
open Go.RowKit
set_option linter.unusedVariables false

def bitB (s i : Int) : Bool := bits BinOp.and IntKind.i64 (s / 2 ^ i.toNat) 1 == 1
def hasB (s i : Int) : Bool := inB s 0 63 && inB i 0 5 && bitB s i

set_option maxHeartbeats 400000 in
theorem l1Has_any (s i : Int) (h0 : 0 ≤ i) (h1 : i ≤ 5) (w : World) : Calls Try.prog 70 #[.int .i64 s, .int .i64 i] w fun e w' => e = .returned (.bool (bitB s i)) ∧ w = w' := by
  go_enter Try.func70, Try.ntmps70
  go_wp2
  go_ret
  exact ⟨rfl, rfl⟩

set_option maxHeartbeats 400000 in
theorem has_any (s i : Int) (w : World) : Calls Try.prog 73 #[.int .i64 s, .int .i64 i] w fun e w' => e = .returned (.bool (hasB s i)) ∧ w = w' := by
  cases hs : inB s 0 63
  · have HB : Hid (hasB s i = false) := Lib.hid (by simp [hasB, hs])
    go_enter Try.func73, Try.ntmps73
    go_wp2_with fail
    refine (ok_any _ _).mono ?_
    rintro e w' ⟨rfl, rfl⟩
    go_wp2_with fail
    go_ret
    rw [HB.out]
    exact ⟨rfl, rfl⟩
  · cases hi : inB i 0 5
    · have HB : Hid (hasB s i = false) := Lib.hid (by simp [hasB, hi])
      go_enter Try.func73, Try.ntmps73
      go_wp2_with fail
      refine (ok_any _ _).mono ?_
      rintro e w' ⟨rfl, rfl⟩
      go_wp2_with fail
      refine (rankOk_any _ _).mono ?_
      rintro e w' ⟨rfl, rfl⟩
      go_wp2_with fail
      go_ret
      rw [HB.out]
      exact ⟨rfl, rfl⟩
    · have HB : Hid (hasB s i = bitB s i) := Lib.hid (by simp [hasB, hs, hi])
      have hj : 0 ≤ i ∧ i ≤ 5 := by simpa [inB] using hi
      obtain ⟨hj0, hj1⟩ := hj
      go_enter Try.func73, Try.ntmps73
      go_wp2_with fail
      refine (ok_any _ _).mono ?_
      rintro e w' ⟨rfl, rfl⟩
      go_wp2_with fail
      refine (rankOk_any _ _).mono ?_
      rintro e w' ⟨rfl, rfl⟩
      go_wp2_with fail
      go_ret
      rw [HB.out]
      exact ⟨rfl, rfl⟩

end Go.Proofs.Ytigcbegeaikfcaa
