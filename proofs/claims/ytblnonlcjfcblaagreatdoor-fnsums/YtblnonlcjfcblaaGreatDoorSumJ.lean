/- Layer 6 (sums): the program's SumOf. Condition: the listed variables hold what the program's text lays (Vars). -/
import Derived.Test.YtblnonlcjfcblaaGreatDoorSumI
import Derived.Test.YtblnonlcjfcblaaGreatDoorSumD
import Derived.Test.YtblnonlcjfcblaaGreatDoorBoxL
import Derived.Test.YtblnonlcjfcblaaGreatDoorTxtL
namespace Go.Proofs.YtblnonlcjfcblaaGreatDoor
open Go.RowKit
set_option linter.unusedVariables false

theorem pos_flat (t : Sum) : ∃ m, t.flat.length = m + 1 := ⟨t.flat.length - 1, by have := t.pos; omega⟩

set_option maxHeartbeats 2000000 in
theorem iSumOf_any (ss : List (List UInt8)) (bs : List Bx) (a : Int) (B : Nat) (v u : Value) (w : World) (V : Vars w) (h : SeeV w B v (ss.map str)) (hu : SeeBx w B u bs) (hB : B ≤ w.heap.size) (hS : shortS ss) (hn : ss.length ≤ 1048576) (hSb : shortB bs) :
    Calls Tryz.prog 42 #[v, .int .i64 a, u] w (RdLt (sumOfS ss a bs) w) := by
  obtain ⟨A, c, e⟩ := strs_shape h
  subst e
  obtain ⟨Au, cu, e⟩ := hu.shape
  subst e
  have HV := Lib.hid V
  clear V
  have HSA := Lib.hid (sumAt_any B _ ss a w HV.out h hB hS hn)
  rcases end_dec ss a with hq | hq
  · have HE := Lib.hid (sumOf_no (bs := bs) (.inl (show sumEndS ss a < 0 by omega)))
    have HG := Lib.hid (signs_no (show sumEndS ss a < 0 by omega))
    rw [HG.out] at HSA
    clear hq
    generalize sumOfS ss a bs = R at HE ⊢
    go_enter Tryz.func42, Tryz.ntmps42
    go_wp2_with fail
    refine HSA.out.mono ?_
    rintro e w1 ⟨v1, rfl, h1, b1⟩
    obtain ⟨A1, c1, e1⟩ := strs_shape h1
    subst e1
    go_wp2_with fail
    go_ret2
    exact ⟨rd_none HE.out, b1⟩
  · obtain ⟨k, t, rfl, ht⟩ := sum_of_end hq
    have hl := sum_len ht
    have HO := Lib.hid ht.1
    rw [signs_tree ht] at HSA
    have HSS : Hid (shortS t.flat) := Lib.hid (by rw [← signs_tree ht]; exact signs_short hS)
    obtain ⟨m, hm⟩ := pos_flat t
    cases hb : boxesB bs
    · have HE := Lib.hid (sumOf_no (ss := ss) (a := (k : Int)) (.inr hb))
      have HB := Lib.hid hb
      clear hb ht hq
      generalize sumOfS ss (k : Int) bs = R at HE ⊢
      go_enter Tryz.func42, Tryz.ntmps42
      go_wp2_with fail
      refine HSA.out.mono ?_
      rintro e w1 ⟨v1, rfl, h1, b1⟩
      obtain ⟨A1, c1, e1⟩ := strs_shape h1
      subst e1
      rw [hm]
      go_wp2_with fail
      refine (iBoxesOk_any B _ bs _ (hu.below (b1.mono hB)) (Nat.le_trans hB b1.size) hSb).mono ?_
      rintro e w2 ⟨rfl, b2⟩
      rw [HB.out]
      go_wp2_with fail
      go_ret2
      exact ⟨rd_none HE.out, below_then b1 b2 (Nat.le_refl _)⟩
    · have HE := Lib.hid (sumOf_tree ht hb)
      rw [HE.out]
      have HR0 := Lib.hid (fun A1 c1 W V h1 hu2 hBW => reckoned_any B A1 Au c1 cu bs t HO.out W V h1 hu2 hBW HSS.out (by omega))
      clear HE
      generalize evalT bs t = R at HR0 ⊢
      have HB := Lib.hid hb
      clear hb ht hq
      go_enter Tryz.func42, Tryz.ntmps42
      go_wp2_with fail
      refine HSA.out.mono ?_
      rintro e w1 ⟨v1, rfl, h1, b1⟩
      obtain ⟨A1, c1, e1⟩ := strs_shape h1
      subst e1
      have HRC := Lib.hid (fun W b => HR0.out A1 c1 W (HV.out.below (below_then b1 b (Nat.le_refl _))) (h1.below (b.mono (Nat.le_trans hB b1.size))) (hu.below ((below_then b1 b (Nat.le_refl _)).mono hB)) (Nat.le_trans hB (below_then b1 b (Nat.le_refl _)).size))
      rw [hm] at HRC ⊢
      go_wp2_with fail
      refine (iBoxesOk_any B _ bs _ (hu.below (b1.mono hB)) (Nat.le_trans hB b1.size) hSb).mono ?_
      rintro e w2 ⟨rfl, b2⟩
      rw [HB.out]
      go_wp2_with fail
      refine (HRC.out _ b2).mono ?_
      rintro e w3 ⟨rfl, b3⟩
      generalize hx : R.getD 0 = x
      generalize hy : R.isSome = y
      have HX := Lib.hid hx
      have HY := Lib.hid hy
      clear hx hy
      go_wp2_with fail
      go_ret2
      exact ⟨rd_ret HX.out.symm HY.out.symm, below_then (below_then b1 b2 (Nat.le_refl _)) b3 (Nat.le_refl _)⟩

end Go.Proofs.YtblnonlcjfcblaaGreatDoor
