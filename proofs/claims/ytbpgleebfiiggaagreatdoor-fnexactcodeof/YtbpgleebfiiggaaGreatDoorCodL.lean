/- The walk of FnExactCodeOf. Condition: the listed variables hold what the program's text lays (Vars). -/
import Derived.Test.YtbpgleebfiiggaaGreatDoorCodP
import Derived.Test.YtbpgleebfiiggaaGreatDoorCodK
import Derived.Test.YtbpgleebfiiggaaGreatDoorOpL
namespace Go.Proofs.YtbpgleebfiiggaaGreatDoor
open Go.RowKit
set_option linter.unusedVariables false

theorem codeP_le (ss : List Txt) : (codeP ss).length ≤ 101 := by
  cases hp : playB ss with
  | false => rw [code_no hp]; simp
  | true =>
    obtain ⟨hT, hC, hl⟩ := code_yes hp
    have := hT.len
    rw [hC]
    simp
    omega

set_option maxHeartbeats 8000000 in
set_option maxRecDepth 100000 in
theorem codeOf_law (v : Value) (ss : List Txt) (w : World) (V : Vars w) (s : SeeV w w.heap.size v (ss.map str)) (hF : fitS ss) :
    Calls Tryz.prog 6 #[v] w fun e w' => e = .returned (.bool true) ∧ Below w.heap.size w w' := by
  obtain ⟨A, c, e⟩ := strs_shape s
  subst e
  rcases (show szL 1048576 (txLens ss) < 0 ∨ 0 ≤ szL 1048576 (txLens ss) by omega) with hz | hz
  · go_enter Tryz.func6, Tryz.ntmps6
    go_wp2_with fail
    refine (szStrs_any _ _ ss 1048576 (by omega) (by omega) _ s hF).mono ?_
    rintro e w1 ⟨rfl, rfl⟩
    generalize szL 1048576 (txLens ss) = z at hz ⊢
    go_wp2_with fail
    go_ret
    exact ⟨rfl, Below.refl _ _⟩
  obtain ⟨hlen, hS, -⟩ := sz_strs hz (by omega) (by omega)
  have HV := Lib.hid V
  clear V
  have hnl := codeP_le ss
  have HSN := Lib.hid (fun B v W h1 h2 => sCodeOf_any B v ss W h1 h2 hS hlen)
  have HIN := Lib.hid (fun B v W V h1 h2 => iCodeOf_any B v ss W h1 h2 hlen hS V)
  unfold OpsOut at HSN HIN
  generalize codeP ss = ns at hnl HSN HIN
  go_enter Tryz.func6, Tryz.ntmps6
  go_wp2_with fail
  refine (szStrs_any _ _ ss 1048576 (by omega) (by omega) _ s hF).mono ?_
  rintro e w1 ⟨rfl, rfl⟩
  generalize szL 1048576 (txLens ss) = z at hz ⊢
  go_wp2_with fail
  refine (toStrs_any _ _ ss hlen _ s (Nat.le_refl _)).mono ?_
  rintro e w2 ⟨v2, rfl, o2, b2⟩
  obtain ⟨A2, c2, e2⟩ := strs_shape o2.see
  subst e2
  go_wp2_with fail
  refine (HSN.out _ _ _ o2.see (Nat.le_refl _)).mono ?_
  rintro e w3 ⟨g3, c3, rfl, o3, b3⟩
  replace b3 := below_then b2 b3 (Nat.le_refl _)
  have s3 := s.below b3
  have r3 := o3.see
  have hN := b3.size
  clear b2 o2 o3
  go_wp2_with fail
  refine (toStrs_any _ _ ss hlen _ s3 hN).mono ?_
  rintro e w4 ⟨v4, rfl, o4, b4⟩
  obtain ⟨A4, c4, e4⟩ := strs_shape o4.see
  subst e4
  have HL4 := Lib.hid o4.lt
  have r4 := r3.below b4
  have hN4 := b4.size
  replace b4 := below_then b3 b4 (Nat.le_refl _)
  have s4 := s.below b4
  clear b3 s3 r3
  generalize w3.heap.size = N at o4 HL4 r4 hN hN4
  go_wp2_with fail
  refine (HIN.out _ _ _ (HV.out.below b4) o4.see (Nat.le_refl _)).mono ?_
  rintro e w5 ⟨g5, c5, rfl, o5, b5⟩
  have x5 := o4.later b5
  have r5 := r4.below (b5.mono hN4)
  have hM5 := b5.size
  replace b5 := below_then b4 b5 (Nat.le_refl _)
  have s5 := s.below b5
  clear o4 r4 b4 s4
  generalize w4.heap.size = M at o5 HL4 hN4 hM5
  go_wp2_with fail
  refine (eqOps_any _ _ _ ns ns _ (Nat.le_refl _) o5.see (r5.more (by omega))).mono ?_
  rintro e w6 ⟨rfl, b6⟩
  rw [eqOpl_same]
  have x6 := x5.later b6
  have o6 := o5.later b6
  have r6 := r5.below (b6.mono (by omega))
  have hM6 := Nat.le_trans hM5 b6.size
  replace b6 := below_then b5 b6 (Nat.le_refl _)
  have s6 := s.below b6
  clear b5 s5 r5 o5 x5 hM5
  go_wp2_with fail
  refine (toStrs_any _ _ ss hlen _ s6 b6.size).mono ?_
  rintro e w7 ⟨v7, rfl, o7, b7⟩
  obtain ⟨A7, c7, e7⟩ := strs_shape o7.see
  subst e7
  have x7 := x6.later b7
  have p7 := o6.later b7
  have r7 := r6.below (b7.mono (by omega))
  have hM7 := Nat.le_trans hM6 b7.size
  replace b7 := below_then b6 b7 (Nat.le_refl _)
  have s7 := s.below b7
  clear b6 s6 r6 o6 x6 hM6
  go_wp2_with fail
  refine (eqStrs_any _ _ _ ss ss _ x7.see o7.see).mono ?_
  rintro e w8 ⟨rfl, n8, rfl⟩
  rw [eqT_same]
  have b8 : Below w7.heap.size w7 (w7.drewN n8) := below_drewN (Below.refl _ _) _
  have x8 := x7.later b8
  have p8 := p7.later b8
  have r8 := r7.below (b8.mono (by omega))
  have hM8 := Nat.le_trans hM7 b8.size
  replace b8 := below_then b7 b8 (Nat.le_refl _)
  have s8 := s.below b8
  clear b7 s7 r7 p7 x7 hM7 o7
  generalize w7.drewN n8 = w8 at *
  go_wp2_with fail
  refine (markStrs_any _ _ ss 1 _ x8 (Nat.le_refl _) (by omega)).mono ?_
  rintro e w9 ⟨rfl, -, hg9⟩
  have p9 := p8.apart hg9 (fun j hj => (HL4.out j hj).2)
  have b9 : Below N w8 w9 := (Below.refl _ _).grown hg9 (by omega) (fun j hj => (HL4.out j hj).1)
  have r9 := r8.below b9
  have hM9 := Nat.le_trans hM8 b9.size
  replace b9 := b8.trans (b9.mono hN)
  have s9 := s.below b9
  clear b8 s8 r8 p8 x8 hM8 hg9
  generalize hk9 : ((1 + ss.length : Nat) : Int) = k9
  have hk0 : 0 ≤ k9 := by omega
  clear hk9
  go_wp2_with fail
  refine (eqOps_any _ _ _ ns ns _ (Nat.le_refl _) p9.see (r9.more (by omega))).mono ?_
  rintro e w10 ⟨rfl, b10⟩
  rw [eqOpl_same]
  have p10 := p9.later b10
  have r10 := r9.below (b10.mono (by omega))
  have hM10 := Nat.le_trans hM9 b10.size
  replace b10 := below_then b9 b10 (Nat.le_refl _)
  have s10 := s.below b10
  clear b9 s9 r9 p9 hM9
  go_wp2_with fail
  refine (markOps_any _ _ ns 1 _ p10 (Nat.le_refl _) (by omega)).mono ?_
  rintro e w11 ⟨rfl, p11, hg11⟩
  have b11 : Below M w10 w11 := (Below.refl _ _).grown hg11 (by omega) (fun j hj => (p10.lt j hj).1)
  have r11 := r10.below (b11.mono hN4)
  have hM11 := Nat.le_trans hM10 b11.size
  replace b11 := b10.trans (b11.mono (by omega))
  have s11 := s.below b11
  clear b10 s10 r10 p10 hM10 hg11
  have HH := Lib.hid (fun v W B h hB => heldOps_any B v ns.length 1 W h hB (Nat.le_refl _) (by omega))
  generalize hmm : ((1 + ns.length * 3 : Nat) : Int) = m at HH ⊢
  have hm0 : 0 ≤ m := by omega
  clear hmm
  have hne : (m != m) = false := by simp
  go_wp2_with fail
  refine (HH.out _ _ _ p11.see (Nat.le_refl _)).mono ?_
  rintro e w12 ⟨rfl, b12⟩
  have p12 := p11.later b12
  have r12 := r11.below (b12.mono (by omega))
  have hM12 := Nat.le_trans hM11 b12.size
  replace b12 := below_then b11 b12 (Nat.le_refl _)
  have s12 := s.below b12
  clear b11 s11 r11 p11 hM11
  go_wp2_with fail
  refine (toStrs_any _ _ ss hlen _ s12 b12.size).mono ?_
  rintro e w13 ⟨v13, rfl, o13, b13⟩
  obtain ⟨A13, c13, e13⟩ := strs_shape o13.see
  subst e13
  have p13 := p12.later b13
  have r13 := r12.below (b13.mono (by omega))
  have hM13 := Nat.le_trans hM12 b13.size
  replace b13 := below_then b12 b13 (Nat.le_refl _)
  clear b12 s12 r12 p12 hM12
  go_wp2_with fail
  refine (HIN.out _ _ _ (HV.out.below b13) o13.see (Nat.le_refl _)).mono ?_
  rintro e w14 ⟨g14, c14, rfl, o14, b14⟩
  have p14 := p13.later b14
  have r14 := r13.below (b14.mono (by omega))
  have hM14 := Nat.le_trans hM13 b14.size
  replace b14 := below_then b13 b14 (Nat.le_refl _)
  clear b13 r13 p13 hM13 o13
  go_wp2_with fail
  refine (eqOps_any _ _ _ ns ns _ (Nat.le_refl _) o14.see (r14.more (by omega))).mono ?_
  rintro e w15 ⟨rfl, b15⟩
  rw [eqOpl_same]
  have p15 := p14.later b15
  replace b15 := below_then b14 b15 (Nat.le_refl _)
  clear b14 r14 p14 hM14 o14
  go_wp2_with fail
  refine (HH.out _ _ _ p15.see (Nat.le_refl _)).mono ?_
  rintro e w16 ⟨rfl, b16⟩
  go_wp2_with fail
  go_ret
  exact ⟨rfl, below_then b15 b16 (Nat.le_refl _)⟩

end Go.Proofs.YtbpgleebfiiggaaGreatDoor
