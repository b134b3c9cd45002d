/- The walks of FnExactPlayOk. Condition: the listed variables hold what the program's text lays (Vars). -/
import Derived.Test.YtblnonlcjfcblaaGreatDoorDeedD
import Derived.Test.YtblnonlcjfcblaaGreatDoorTxtL
namespace Go.Proofs.YtblnonlcjfcblaaGreatDoor
open Go.RowKit
set_option linter.unusedVariables false

set_option maxHeartbeats 2000000 in
theorem playOk_law (v : Value) (ss : List (List UInt8)) (w : World) (V : Vars w) (s : SeeV w w.heap.size v (ss.map str)) (hF : fitS ss) :
    Calls Tryz.prog 3 #[v] w fun e w' => e = .returned (.bool true) ∧ Below w.heap.size w w' := by
  obtain ⟨A, c, e⟩ := strs_shape s
  subst e
  rcases (show szL 1048576 (txLens ss) < 0 ∨ 0 ≤ szL 1048576 (txLens ss) by omega) with hz | hz
  · go_enter Tryz.func3, Tryz.ntmps3
    go_wp2_with fail
    refine (szStrs_any _ _ ss 1048576 (by omega) (by omega) _ s hF).mono ?_
    rintro e w1 ⟨rfl, rfl⟩
    generalize szL 1048576 (txLens ss) = z at hz ⊢
    go_wp2_with fail
    go_ret
    exact ⟨rfl, Below.refl _ _⟩
  · obtain ⟨hlen, hS, -⟩ := sz_strs hz (by omega) (by omega)
    have HV := Lib.hid V
    clear V
    go_enter Tryz.func3, Tryz.ntmps3
    go_wp2_with fail
    refine (szStrs_any _ _ ss 1048576 (by omega) (by omega) _ s hF).mono ?_
    rintro e w1 ⟨rfl, rfl⟩
    generalize szL 1048576 (txLens ss) = z at hz ⊢
    go_wp2_with fail
    refine (toStrs_any _ _ ss hlen _ s (Nat.le_refl _)).mono ?_
    rintro e w2 ⟨v2, rfl, o2, b2⟩
    obtain ⟨A2, c2, e2⟩ := strs_shape o2.see
    subst e2
    have s2 := s.below b2
    go_wp2_with fail
    refine (sPlayOk_any _ _ ss _ o2.see (Nat.le_refl _) hS hlen).mono ?_
    rintro e w3 ⟨rfl, b3⟩
    replace b3 := below_then b2 b3 (Nat.le_refl _)
    have s3 := s.below b3
    clear b2 s2 o2
    go_wp2_with fail
    refine (toStrs_any _ _ ss hlen _ s3 b3.size).mono ?_
    rintro e w4 ⟨v4, rfl, o4, b4⟩
    obtain ⟨A4, c4, e4⟩ := strs_shape o4.see
    subst e4
    replace b4 := below_then b3 b4 (Nat.le_refl _)
    have s4 := s.below b4
    clear b3 s3
    go_wp2_with fail
    refine (iPlayOk_any _ _ ss _ (HV.out.below b4) o4.see (Nat.le_refl _) hS hlen).mono ?_
    rintro e w5 ⟨rfl, b5⟩
    have o5 := o4.later b5
    replace b5 := below_then b4 b5 (Nat.le_refl _)
    have s5 := s.below b5
    clear b4 s4 o4
    go_wp2_with fail
    refine (toStrs_any _ _ ss hlen _ s5 b5.size).mono ?_
    rintro e w6 ⟨v6, rfl, o6, b6⟩
    have o7 := o5.later b6
    obtain ⟨A6, c6, e6⟩ := strs_shape o6.see
    subst e6
    replace b6 := below_then b5 b6 (Nat.le_refl _)
    clear b5 s5 o5
    go_wp2_with fail
    refine (eqStrs_any _ _ _ ss ss _ o7.see o6.see).mono ?_
    rintro e w7 ⟨rfl, n7, rfl⟩
    rw [eqT_same]
    go_wp2_with fail
    go_ret
    exact ⟨rfl, below_drewN b6 _⟩

end Go.Proofs.YtblnonlcjfcblaaGreatDoor
