/- Contracts of AllOf and what it calls, in the program and in the model, and the law FnExactAllOf's walk. -/
import Derived.Test.YtigcbegeaikfcaaSetB
namespace Go.Proofs.Ytigcbegeaikfcaa
open Go.RowKit
set_option linter.unusedVariables false

def allB (n : Int) : Int := if 0 ≤ n ∧ n ≤ 6 then 2 ^ n.toNat - 1 else -1
theorem or_step (k : Nat) (hk : k ≤ 5) : bits BinOp.or IntKind.i64 ((2 : Int) ^ k - 1) (wrap64 (2 ^ k)) = 2 ^ (k + 1) - 1 := by
  have h : k = 0 ∨ k = 1 ∨ k = 2 ∨ k = 3 ∨ k = 4 ∨ k = 5 := by omega
  rcases h with rfl | rfl | rfl | rfl | rfl | rfl <;> decide +kernel
theorem bit_small (n : Int) (h0 : 0 ≤ n) (h1 : n ≤ 6) : wrap64 (2 ^ n.toNat) = 2 ^ n.toNat ∧ (2 : Int) ^ n.toNat ≤ 64 ∧ 1 ≤ (2 : Int) ^ n.toNat := by
  have h : n = 0 ∨ n = 1 ∨ n = 2 ∨ n = 3 ∨ n = 4 ∨ n = 5 ∨ n = 6 := by omega
  rcases h with rfl | rfl | rfl | rfl | rfl | rfl | rfl <;> decide +kernel

set_option maxHeartbeats 400000 in
theorem with_any (s i : Int) (h0 : 0 ≤ i) (h1 : i ≤ 5) (w : World) : Calls Try.prog 88 #[.int .i64 s, .int .i64 i] w fun e w' => e = .returned (.int .i64 (bits BinOp.or IntKind.i64 s (wrap64 (2 ^ i.toNat)))) ∧ w = w' := by
  go_enter Try.func88, Try.ntmps88
  go_wp2
  go_ret
  exact ⟨rfl, rfl⟩

set_option maxHeartbeats 400000 in
theorem foldWith_any (n : Int) (h0 : 0 ≤ n) (h1 : n ≤ 6) (w : World) : Calls Try.prog 92 #[.int .i64 n, .func (.func 88) #[] #[]] w fun e w' => e = .returned (.int .i64 (2 ^ n.toNat - 1)) ∧ w = w' := by
  obtain ⟨m, rfl⟩ := Int.eq_ofNat_of_zero_le h0
  rw [Int.toNat_natCast]
  go_enter Try.func92, Try.ntmps92
  go_wp2
  go_loop [5, 8] (fun s i => ∃ k : Nat, k ≤ m ∧ i = .int .i64 k ∧ s = .int .i64 (2 ^ k - 1)) (fun _ i => m - (intOf i).toNat)
  case atStart => exact ⟨0, Nat.zero_le _, rfl, rfl⟩
  case round =>
    obtain ⟨k, hk, rfl, rfl⟩ := hrel
    by_cases hlt : k < m
    · go_wp2_with fail
      refine (with_any _ _ (by omega) (by omega) _).mono ?_
      rintro e w' ⟨rfl, rfl⟩
      rw [Int.toNat_natCast, or_step k (by omega)]
      go_wp2_with fail
      go_round
      case rel => exact ⟨k + 1, by omega, by go_num, rfl⟩
      case measure => simp [intOf]; omega
    · obtain rfl : m = k := by omega
      go_wp2_with fail
      go_ret
      exact ⟨rfl, rfl⟩

set_option maxHeartbeats 400000 in
theorem iAllOf_any (n : Int) (w : World) : Calls Try.prog 89 #[.int .i64 n] w fun e w' => e = .returned (.int .i64 (allB n)) ∧ w = w' := by
  by_cases h0 : 0 ≤ n <;> by_cases h1 : n ≤ 6
  · have HB : Hid (allB n = 2 ^ n.toNat - 1) := Lib.hid (by simp [allB, h0, h1])
    go_enter Try.func89, Try.ntmps89
    go_wp2_with fail
    refine (foldWith_any _ h0 h1 _).mono ?_
    rintro e w' ⟨rfl, rfl⟩
    go_wp2_with fail
    go_ret
    rw [HB.out]
    exact ⟨rfl, rfl⟩
  all_goals
    have HB : Hid (allB n = -1) := Lib.hid (by unfold allB; rw [if_neg (by omega)])
    go_enter Try.func89, Try.ntmps89
    go_wp2_with fail
    go_ret
    rw [HB.out]
    exact ⟨rfl, rfl⟩

set_option maxHeartbeats 400000 in
theorem l1Bit_any (i : Int) (h0 : 0 ≤ i) (h1 : i ≤ 6) (w : World) : Calls Try.prog 85 #[.int .i64 i] w fun e w' => e = .returned (.int .i64 (2 ^ i.toNat)) ∧ w = w' := by
  have HB := Lib.hid (bit_small i h0 h1).1
  go_enter Try.func85, Try.ntmps85
  go_wp2
  rw [HB.out]
  go_ret
  exact ⟨rfl, rfl⟩

end Go.Proofs.Ytigcbegeaikfcaa
