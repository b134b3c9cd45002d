/- Layer 5 (words): WordOk, Wrap and Did, of the program and of the model, by the same functions on numbers; the world stays as it was. No conditions but those typed. -/
import Derived.Test.YtblnonlcjfcblaaGreatDoorSetA
namespace Go.Proofs.YtblnonlcjfcblaaGreatDoor
open Go.RowKit
set_option linter.unusedVariables false

def wordB (n : Int) : Bool := inB n (-2147483648) 2147483647
/-- The word that a number is, modulo 2^32. -/
def wrapW (n : Int) : Int := if 2147483648 ≤ n % 4294967296 then n % 4294967296 - 4294967296 else n % 4294967296
theorem and_word (n : Int) : bits BinOp.and IntKind.i64 n 4294967295 = n % 4294967296 := by
  have h32 : (BitVec.ofInt 64 4294967295).toNat = 2 ^ 32 - 1 := by decide
  have key : (BitVec.ofInt 64 n &&& BitVec.ofInt 64 4294967295).toNat = (n % ((2 ^ 64 : Nat) : Int)).toNat % 2 ^ 32 := by
    rw [BitVec.toNat_and, BitVec.toNat_ofInt, h32, Nat.and_two_pow_sub_one_eq_mod]
  show IntKind.i64.wrap ((BitVec.ofInt 64 n &&& BitVec.ofInt 64 4294967295).toNat : Nat) = n % 4294967296
  rw [key, IntKind.wrap_i64]
  omega
theorem ret_int {k : IntKind} {a b : Int} (h : a = b) : Ending.returned (.int k a) = .returned (.int k b) := by rw [h]
def truthI (b : Bool) : Int := if b then 1 else 0

theorem wordB_iff {n : Int} : wordB n = true ↔ -2147483648 ≤ n ∧ n ≤ 2147483647 := by simp [wordB, inB]
theorem wrapW_word (n : Int) : wordB (wrapW n) = true := by
  rw [wordB_iff]; unfold wrapW; split <;> omega
theorem wrapW_same {n : Int} (h : wordB n = true) : wrapW n = n := by
  rw [wordB_iff] at h; unfold wrapW; split <;> omega
theorem wrapW_mod (n : Int) : ∃ k, wrapW n = n + 4294967296 * k := by
  unfold wrapW
  split
  · exact ⟨-(n / 4294967296) - 1, by omega⟩
  · exact ⟨-(n / 4294967296), by omega⟩

set_option maxHeartbeats 400000 in
theorem l5Word_any (n : Int) (w : World) : Calls Tryz.prog 80 #[.int .i64 n] w fun e w' => e = .returned (.bool (wordB n)) ∧ w = w' := by
  go_enter Tryz.func80, Tryz.ntmps80
  go_wp2_with fail
  refine (in_any _ _ _ _).mono ?_
  rintro e w' ⟨rfl, rfl⟩
  go_wp2_with fail
  go_ret
  exact ⟨rfl, rfl⟩

set_option maxHeartbeats 400000 in
theorem iWordOk_any (n : Int) (w : World) : Calls Tryz.prog 106 #[.int .i64 n] w fun e w' => e = .returned (.bool (wordB n)) ∧ w = w' := by
  by_cases h0 : -2147483648 ≤ n <;> by_cases h1 : n ≤ 2147483647
  all_goals
    have hb : wordB n = decide (-2147483648 ≤ n ∧ n ≤ 2147483647) := rfl
    simp only [h0, h1] at hb
    have HB := Lib.hid hb
    clear hb
    go_enter Tryz.func106, Tryz.ntmps106
    go_wp2
    go_ret
    rw [HB.out]
    exact ⟨rfl, rfl⟩

set_option maxHeartbeats 400000 in
theorem l5Truth_any (b : Bool) (w : World) : Calls Tryz.prog 82 #[.bool b] w fun e w' => e = .returned (.int .i64 (truthI b)) ∧ w = w' := by
  cases b
  all_goals
    go_enter Tryz.func82, Tryz.ntmps82
    go_wp2
    go_ret
    exact ⟨rfl, rfl⟩

set_option maxHeartbeats 400000 in
theorem oneWhere_any (b : Bool) (w : World) : Calls Tryz.prog 135 #[.bool b] w fun e w' => e = .returned (.int .i64 (truthI b)) ∧ w = w' := by
  cases b
  all_goals
    go_enter Tryz.func135, Tryz.ntmps135
    go_wp2
    go_ret
    exact ⟨rfl, rfl⟩

theorem wrap_conv (n : Int) : wrap64 (wrap32 n) = wrapW n := by
  unfold wrap64 wrap32 wrapW
  split <;> omega

set_option maxHeartbeats 400000 in
theorem iWrap_any (n : Int) (w : World) : Calls Tryz.prog 134 #[.int .i64 n] w fun e w' => e = .returned (.int .i64 (wrapW n)) ∧ w = w' := by
  have H := Lib.hid (wrap_conv n)
  go_enter Tryz.func134, Tryz.ntmps134
  go_wp2
  go_ret
  exact ⟨ret_int H.out, rfl⟩

set_option maxHeartbeats 400000 in
theorem sWrap_any (n : Int) (w : World) : Calls Tryz.prog 81 #[.int .i64 n] w fun e w' => e = .returned (.int .i64 (wrapW n)) ∧ w = w' := by
  have H := Lib.hid (and_word n)
  have HW : Hid (wrapW n = if 2147483648 ≤ n % 4294967296 then n % 4294967296 - 4294967296 else n % 4294967296) := Lib.hid rfl
  go_enter Tryz.func81, Tryz.ntmps81
  go_wp2
  · rename_i h
    rw [H.out] at h ⊢
    go_ret
    refine ⟨ret_int ?_, rfl⟩
    rw [HW.out, if_pos (by omega)]
    unfold wrap64
    omega
  · rename_i h
    rw [H.out] at h ⊢
    go_ret
    refine ⟨ret_int ?_, rfl⟩
    rw [HW.out, if_neg (by omega)]

end Go.Proofs.YtblnonlcjfcblaaGreatDoor
