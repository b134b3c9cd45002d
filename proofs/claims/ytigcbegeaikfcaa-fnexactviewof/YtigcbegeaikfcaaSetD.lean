/- Contracts of Members and what it calls, in the program and in the model. -/
import Derived.Test.YtigcbegeaikfcaaSetC
import Derived.Test.YtigcbegeaikfcaaListA
namespace Go.Proofs.Ytigcbegeaikfcaa
open Go.RowKit
set_option linter.unusedVariables false

theorem Try.infoInt64 : (Try.prog.info? 2).map (fun i => (i.zero, i.size, i.bytes)) = some (some (.int .i64 0), 1, 8) := by kernel_rfl

set_option maxHeartbeats 1000000 in
set_option maxRecDepth 100000 in
theorem ranksWhere_any (s : Int) (w : World) : Calls Try.prog 91 #[.func (.func 73) #[.int .i64 s] #[]] w fun e w' =>
    ∃ v, e = .returned v ∧ OwnI w' w.heap.size 2 v (sel (hasB s) 6) ∧ Below w.heap.size w w' := by
  obtain ⟨i0, hi, hz0, hz1, hz2⟩ := info_parts Try.infoInt64
  go_enter Try.func91, Try.ntmps91
  go_wp2
  go_loopw [3, 6] (fun v i wr => ∃ k : Nat, k ≤ 6 ∧ i = .int .i64 k ∧ OwnI wr w.heap.size 2 v (sel (hasB s) k) ∧ Below w.heap.size w wr) (fun _ i _ => 6 - (intOf i).toNat)
  case atStart => exact ⟨0, Nat.zero_le _, rfl, OwnI.empty _ _ _ (Nat.le_refl _), (Below.refl _ _).alloc (Nat.le_refl _) _⟩
  case round =>
    obtain ⟨k, hk, rfl, hown, hb⟩ := hrel
    have hl := sel_le (hasB s) k
    by_cases hlt : k < 6
    · cases hp : hasB s k
      · have R := Lib.hid (sel_no hp)
        go_wp2_with fail
        refine (has_any _ _ _).mono ?_
        rintro e w' ⟨rfl, rfl⟩
        go_wp2_with fail
        go_roundw
        case rel => exact ⟨k + 1, by omega, by go_num, by rw [R.out]; exact hown, hb⟩
        case measure => simp [intOf]; omega
      · have R := Lib.hid (sel_yes hp)
        have hs := hb.size
        go_wp2_with fail
        refine (has_any _ _ _).mono ?_
        rintro e w' ⟨rfl, rfl⟩
        go_wp2_with (at_builtin; refine wpList_append_own _ rfl _ _ 22 rfl w.heap.size 2 i0 (.int .i64 0) 1 8 Try.underlying22 hi hz0 hz1 hz2 rfl (by decide) _ _ _ rfl (hown.alloc _) ⟨wr.heap.size, 0, none⟩ 1 1 [.int .i64 k] rfl rfl ?c1 ?c2 ?c3 ?c4 ?c5 ?_)
        case c1 =>
          intro j u hj
          match j, hj with
          | 0, hj => simp at hj; subst hj; simp [Addr.add]
        case c2 => intro u hu; simp at hu; subst hu; rfl
        case c3 => unfold maxLen; omega
        case c4 => omega
        case c5 => simp; omega
        intro v' w1 hown' hgrow _
        obtain ⟨a1, a2⟩ := own_push hb (Nat.le_refl _) hown hown' hgrow
        clear hown' hgrow
        go_wp2
        go_roundw
        case rel => exact ⟨k + 1, by omega, by go_num, by rw [R.out]; exact a1, a2⟩
        case measure => simp [intOf]; omega
    · obtain rfl : k = 6 := by omega
      go_wp2_with fail
      go_ret
      exact ⟨_, rfl, hown, hb⟩

def memB (s : Int) : List Int := sel (hasB s) 6
theorem memB_yes {s : Int} (h : inB s 0 63 = true) : memB s = sel (bitB s) 6 := by
  refine sel_congr 6 fun j hj => ?_
  have h1 : inB (j : Int) 0 5 = true := inB_yes (by omega)
  simp only [hasB, h, h1, Bool.true_and]
theorem memB_no {s : Int} (h : inB s 0 63 = false) : memB s = [] := by
  have h1 : ∀ k, sel (hasB s) k = [] := by
    intro k
    induction k with
    | zero => rfl
    | succ k ih => rw [sel_no (by simp [hasB, h]), ih]
  exact h1 6

set_option maxHeartbeats 400000 in
theorem iMembers_any (s : Int) (w : World) : Calls Try.prog 87 #[.int .i64 s] w fun e w' =>
    ∃ v, e = .returned v ∧ OwnI w' w.heap.size 2 v (memB s) ∧ Below w.heap.size w w' := by
  go_enter Try.func87, Try.ntmps87
  go_wp2_with fail
  refine (ranksWhere_any _ _).mono ?_
  rintro e w' ⟨v, rfl, ho, hb⟩
  go_wp2_with fail
  go_ret
  exact ⟨_, rfl, ho, hb⟩

theorem memB_le (s : Int) : (memB s).length ≤ 6 := sel_le _ _

end Go.Proofs.Ytigcbegeaikfcaa
