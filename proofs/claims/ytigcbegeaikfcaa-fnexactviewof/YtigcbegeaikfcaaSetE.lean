/- Contracts of SizeOf and what it calls (the library's OnesCount64 on a set among it), in the program and in the model, and the law FnExactSizeOf's walk. -/
import Derived.Test.YtigcbegeaikfcaaSetD
namespace Go.Proofs.Ytigcbegeaikfcaa
open Go.RowKit
set_option linter.unusedVariables false

theorem of_fin {P : Nat → Prop} {m : Nat} (h : ∀ i : Fin m, P i) (n : Nat) (hn : n < m) : P n := h ⟨n, hn⟩
def cntB (s : Int) : Int := if inB s 0 63 then (sel (bitB s) 6).length else -1

set_option maxHeartbeats 1000000 in
set_option maxRecDepth 100000 in
theorem ones_any (n : Nat) (hn : n < 64) (w : World) : Calls Try.prog 119 #[.int .u64 n] w fun e w' => e = .returned (.int .i64 (sel (bitB n) 6).length) ∧ w = w' := by
  go_enter Try.func119, Try.ntmps119
  go_wp2
  go_ret
  refine ⟨congrArg (fun z => Ending.returned (Value.int .i64 z)) ?_, rfl⟩
  clear w
  revert n
  exact of_fin (by decide +kernel)

set_option maxHeartbeats 1000000 in
theorem size_any (s : Int) (h : inB s 0 63 = true) (w : World) : Calls Try.prog 118 #[.int .i64 s] w fun e w' => e = .returned (.int .i64 (cntB s)) ∧ w = w' := by
  have HC : Hid (cntB s = (sel (bitB s) 6).length) := Lib.hid (by simp [cntB, h])
  have hs : 0 ≤ s ∧ s ≤ 63 := by simpa [inB] using h
  obtain ⟨h0, h1⟩ := hs
  clear h
  obtain ⟨n, rfl⟩ := Int.eq_ofNat_of_zero_le h0
  have hl := sel_le (bitB n) 6
  go_enter Try.func118, Try.ntmps118
  go_wp2_with fail
  refine (ones_any _ (by omega) _).mono ?_
  rintro e w' ⟨rfl, rfl⟩
  go_wp2_with fail
  go_ret
  rw [HC.out]
  exact ⟨rfl, rfl⟩

end Go.Proofs.Ytigcbegeaikfcaa
