/- Contracts of Members and what it calls, in the program and in the model. -/
import Derived.Test.YtbjoninaamijpaaSetC
import Derived.Test.YtbjoninaamijpaaListA
namespace Go.Proofs.Ytbjoninaamijpaa
open Go.RowKit
set_option linter.unusedVariables false

theorem Try.infoInt64 : (Try.prog.info? 2).map (fun i => (i.zero, i.size, i.bytes)) = some (some (.int .i64 0), 1, 8) := by kernel_rfl

set_option maxHeartbeats 1000000 in
set_option maxRecDepth 100000 in
theorem ranksWhere_any (s : Int) (w : World) : Calls Try.prog 32 #[.func (.func 33) #[.int .i64 s] #[]] w fun e w' =>
    ∃ v, e = .returned v ∧ OwnI w' w.heap.size 2 v (sel (hasB s) 6) ∧ Below w.heap.size w w' := by
  obtain ⟨i0, hi, hz0, hz1, hz2⟩ := info_parts Try.infoInt64
  go_enter Try.func32, Try.ntmps32
  go_wp2
  go_loopw [3, 6] (fun v i wr => ∃ k : Nat, k ≤ 6 ∧ i = .int .i64 k ∧ OwnI wr w.heap.size 2 v (sel (hasB s) k) ∧ Below w.heap.size w wr) (fun _ i _ => 6 - (intOf i).toNat)
  case atStart => exact ⟨0, Nat.zero_le _, rfl, OwnI.empty _ _ _ (Nat.le_refl _), (Below.refl _ _).alloc (Nat.le_refl _) _⟩
  case round =>
    obtain ⟨k, hk, rfl, hown, hb⟩ := hrel
    have hl := sel_le (hasB s) k
    by_cases hlt : k < 6
    · cases hp : hasB s k
      · have R := Lib.hid (sel_no hp)
        go_wp2_with fail
        refine (has_any _ _ _).mono ?_
        rintro e w' ⟨rfl, rfl⟩
        go_wp2_with fail
        go_roundw
        case rel => exact ⟨k + 1, by omega, by go_num, by rw [R.out]; exact hown, hb⟩
        case measure => simp [intOf]; omega
      · have R := Lib.hid (sel_yes hp)
        have hs := hb.size
        go_wp2_with fail
        refine (has_any _ _ _).mono ?_
        rintro e w' ⟨rfl, rfl⟩
        go_wp2_with (at_builtin; refine wpList_append_own _ rfl _ _ 26 rfl w.heap.size 2 i0 (.int .i64 0) 1 8 Try.underlying26 hi hz0 hz1 hz2 rfl (by decide) _ _ _ rfl (hown.alloc _) ⟨wr.heap.size, 0, none⟩ 1 1 [.int .i64 k] rfl rfl ?c1 ?c2 ?c3 ?c4 ?c5 ?_)
        case c1 =>
          intro j u hj
          match j, hj with
          | 0, hj => simp at hj; subst hj; simp [Addr.add]
        case c2 => intro u hu; simp at hu; subst hu; rfl
        case c3 => unfold maxLen; omega
        case c4 => omega
        case c5 => simp; omega
        intro v' w1 hown' hgrow _
        obtain ⟨a1, a2⟩ := own_push hb (Nat.le_refl _) hown hown' hgrow
        clear hown' hgrow
        go_wp2
        go_roundw
        case rel => exact ⟨k + 1, by omega, by go_num, by rw [R.out]; exact a1, a2⟩
        case measure => simp [intOf]; omega
    · obtain rfl : k = 6 := by omega
      go_wp2_with fail
      go_ret
      exact ⟨_, rfl, hown, hb⟩

set_option maxHeartbeats 1000000 in
set_option maxRecDepth 100000 in
theorem l1Members_any (s : Int) (w : World) : Calls Try.prog 37 #[.int .i64 s] w fun e w' =>
    ∃ v, e = .returned v ∧ OwnI w' w.heap.size 2 v (sel (bitB s) 6) ∧ Below w.heap.size w w' := by
  obtain ⟨i0, hi, hz0, hz1, hz2⟩ := info_parts Try.infoInt64
  go_enter Try.func37, Try.ntmps37
  go_wp2
  go_loopw [3, 4] (fun v i wr => ∃ k : Nat, k ≤ 6 ∧ i = .int .i64 k ∧ OwnI wr w.heap.size 2 v (sel (bitB s) k) ∧ Below w.heap.size w wr) (fun _ i _ => 6 - (intOf i).toNat)
  case atStart => exact ⟨0, Nat.zero_le _, rfl, OwnI.empty _ _ _ (Nat.le_refl _), (Below.refl _ _).alloc (Nat.le_refl _) _⟩
  case round =>
    obtain ⟨k, hk, rfl, hown, hb⟩ := hrel
    have hl := sel_le (bitB s) k
    by_cases hlt : k < 6
    · cases hp : bitB s k
      · have R := Lib.hid (sel_no hp)
        go_wp2_with fail
        refine (l1Has_any _ _ (by omega) (by omega) _).mono ?_
        rintro e w' ⟨rfl, rfl⟩
        go_wp2_with fail
        go_roundw
        case rel => exact ⟨k + 1, by omega, by go_num, by rw [R.out]; exact hown, hb⟩
        case measure => simp [intOf]; omega
      · have R := Lib.hid (sel_yes hp)
        have hs := hb.size
        go_wp2_with fail
        refine (l1Has_any _ _ (by omega) (by omega) _).mono ?_
        rintro e w' ⟨rfl, rfl⟩
        go_wp2_with (at_builtin; refine wpList_append_own _ rfl _ _ 26 rfl w.heap.size 2 i0 (.int .i64 0) 1 8 Try.underlying26 hi hz0 hz1 hz2 rfl (by decide) _ _ _ rfl (hown.alloc _) ⟨wr.heap.size, 0, none⟩ 1 1 [.int .i64 k] rfl rfl ?c1 ?c2 ?c3 ?c4 ?c5 ?_)
        case c1 =>
          intro j u hj
          match j, hj with
          | 0, hj => simp at hj; subst hj; simp [Addr.add]
        case c2 => intro u hu; simp at hu; subst hu; rfl
        case c3 => unfold maxLen; omega
        case c4 => omega
        case c5 => simp; omega
        intro v' w1 hown' hgrow _
        obtain ⟨a1, a2⟩ := own_push hb (Nat.le_refl _) hown hown' hgrow
        clear hown' hgrow
        go_wp2
        go_roundw
        case rel => exact ⟨k + 1, by omega, by go_num, by rw [R.out]; exact a1, a2⟩
        case measure => simp [intOf]; omega
    · obtain rfl : k = 6 := by omega
      go_wp2_with fail
      go_ret
      exact ⟨_, rfl, hown, hb⟩

def memB (s : Int) : List Int := sel (hasB s) 6
theorem memB_yes {s : Int} (h : inB s 0 63 = true) : memB s = sel (bitB s) 6 := by
  refine sel_congr 6 fun j hj => ?_
  have h1 : inB (j : Int) 0 5 = true := inB_yes (by omega)
  simp only [hasB, h, h1, Bool.true_and]
theorem memB_no {s : Int} (h : inB s 0 63 = false) : memB s = [] := by
  have h1 : ∀ k, sel (hasB s) k = [] := by
    intro k
    induction k with
    | zero => rfl
    | succ k ih => rw [sel_no (by simp [hasB, h]), ih]
  exact h1 6

set_option maxHeartbeats 400000 in
theorem iMembers_any (s : Int) (w : World) : Calls Try.prog 12 #[.int .i64 s] w fun e w' =>
    ∃ v, e = .returned v ∧ OwnI w' w.heap.size 2 v (memB s) ∧ Below w.heap.size w w' := by
  go_enter Try.func12, Try.ntmps12
  go_wp2_with fail
  refine (ranksWhere_any _ _).mono ?_
  rintro e w' ⟨v, rfl, ho, hb⟩
  go_wp2_with fail
  go_ret
  exact ⟨_, rfl, ho, hb⟩

set_option maxHeartbeats 400000 in
theorem sMembers_any (s : Int) (w : World) : Calls Try.prog 16 #[.int .i64 s] w fun e w' =>
    ∃ v, e = .returned v ∧ OwnI w' w.heap.size 2 v (memB s) ∧ Below w.heap.size w w' := by
  cases hs : inB s 0 63
  · have HM := Lib.hid (memB_no hs)
    go_enter Try.func16, Try.ntmps16
    go_wp2_with fail
    refine (l1SetOk_any _ _).mono ?_
    rintro e w' ⟨rfl, rfl⟩
    go_wp2_with fail
    go_ret
    exact ⟨_, rfl, by rw [HM.out]; exact OwnI.empty _ _ _ (Nat.le_refl _), (Below.refl _ _).alloc (Nat.le_refl _) _⟩
  · have HM := Lib.hid (memB_yes hs)
    go_enter Try.func16, Try.ntmps16
    go_wp2_with fail
    refine (l1SetOk_any _ _).mono ?_
    rintro e w' ⟨rfl, rfl⟩
    go_wp2_with fail
    refine (l1Members_any _ _).mono ?_
    rintro e w' ⟨v, rfl, ho, hb⟩
    go_wp2_with fail
    go_ret
    exact ⟨_, rfl, by rw [HM.out]; exact ho, hb⟩

theorem memB_le (s : Int) : (memB s).length ≤ 6 := sel_le _ _

set_option maxHeartbeats 1000000 in
theorem members_law (a0 : Int) (w : World) : Calls Try.prog 7 #[.int .i64 a0] w fun e w' => e = .returned (.bool true) ∧ Below w.heap.size w w' := by
  have hlen := memB_le a0
  have heq := eqI_same (memB a0)
  go_enter Try.func7, Try.ntmps7
  go_wp2_with fail
  refine (sMembers_any _ _).mono ?_
  rintro e w1 ⟨v1, rfl, o1, b1⟩
  have s1 := o1.see
  go_wp2_with fail
  refine (iMembers_any _ _).mono ?_
  rintro e w2 ⟨v2, rfl, o2, b2⟩
  have z2 := b2.size
  go_wp2_with fail
  refine (eqInts_any w2.heap.size _ _ _ _ _ o2.see ((s1.below b2).more z2)).mono ?_
  rintro e w' ⟨rfl, n, rfl⟩
  go_wp2_with fail
  refine (markInts_any w1.heap.size 2 _ _ 1 _ (o2.drewN n) (by omega)).mono ?_
  rintro e w3 ⟨rfl, o3, g3⟩
  have s3 := o3.see
  have z3 : w2.heap.size ≤ w3.heap.size := g3.size
  have s1' : SeeI w3 w1.heap.size v1 (memB a0) := ((s1.below b2).drewN n).grown g3 z2 (fun g hg => (o2.lt g hg).1)
  go_wp2_with fail
  refine (heldInts_any w3.heap.size _ 1 _ _ s3 (by omega)).mono ?_
  rintro e w' ⟨rfl, rfl⟩
  go_wp2_with fail
  refine (iMembers_any _ _).mono ?_
  rintro e w4 ⟨v4, rfl, o4, b4⟩
  have z4 := b4.size
  go_wp2_with fail
  refine (eqInts_any w4.heap.size _ _ _ _ _ o4.see (((s1'.more (by omega)).below b4).more z4)).mono ?_
  rintro e w' ⟨rfl, n', rfl⟩
  go_wp2_with fail
  refine (heldInts_any w3.heap.size _ 1 _ _ ((s3.below b4).drewN n') (by omega)).mono ?_
  rintro e w' ⟨rfl, rfl⟩
  go_wp2_with fail
  go_ret
  refine ⟨rfl, ?_⟩
  have z1 := b1.size
  have c2 := below_drewN (b1.trans (b2.mono z1)) n
  have c3 : Below w.heap.size w w3 := c2.grown g3 (by show w.heap.size ≤ w2.heap.size; omega) (fun g hg => by have := (o2.lt g hg).1; omega)
  exact below_drewN (c3.trans (b4.mono (by omega))) n'
end Go.Proofs.Ytbjoninaamijpaa
