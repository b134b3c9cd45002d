/- Layer 6 (sums): the program's SumOf. Condition: the listed variables hold what the program's text lays (Vars). -/
import Derived.Test.YtpembdiopmdhfaaDoorSumI
import Derived.Test.YtpembdiopmdhfaaDoorSumD
import Derived.Test.YtpembdiopmdhfaaDoorBoxL
import Derived.Test.YtpembdiopmdhfaaDoorTxtL
namespace Go.Proofs.YtpembdiopmdhfaaDoor
open Go.RowKit
set_option linter.unusedVariables false

theorem pos_flat (t : Sum) : ∃ m, t.flat.length = m + 1 := ⟨t.flat.length - 1, by have := t.pos; omega⟩

set_option maxHeartbeats 2000000 in
theorem iSumOf_any (ss : List (List UInt8)) (bs : List Bx) (a : Int) (B : Nat) (v u : Value) (w : World) (V : Vars w) (h : SeeV w B v (ss.map str)) (hu : SeeBx w B u bs) (hB : B ≤ w.heap.size) (hS : shortS ss) (hn : ss.length ≤ 1048576) (hSb : shortB bs) :
    Calls Tryd.prog 15 #[v, .int .i64 a, u] w (RdLt (sumOfS ss a bs) w) := by
  obtain ⟨A, c, e⟩ := strs_shape h
  subst e
  obtain ⟨Au, cu, e⟩ := hu.shape
  subst e
  have HV := Lib.hid V
  clear V
  have HSA := Lib.hid (sumAt_any B _ ss a w HV.out h hB hS hn)
  rcases end_dec ss a with hq | hq
  · have HE := Lib.hid (sumOf_no (bs := bs) (.inl (show sumEndS ss a < 0 by omega)))
    have HG := Lib.hid (signs_no (show sumEndS ss a < 0 by omega))
    rw [HG.out] at HSA
    clear hq
    generalize sumOfS ss a bs = R at HE ⊢
    go_enter Tryd.func15, Tryd.ntmps15
    go_wp2_with fail
    refine HSA.out.mono ?_
    rintro e w1 ⟨v1, rfl, h1, b1⟩
    obtain ⟨A1, c1, e1⟩ := strs_shape h1
    subst e1
    go_wp2_with fail
    go_ret2
    exact ⟨rd_none HE.out, b1⟩
  · obtain ⟨k, t, rfl, ht⟩ := sum_of_end hq
    have hl := sum_len ht
    have HO := Lib.hid ht.1
    rw [signs_tree ht] at HSA
    have HSS : Hid (shortS t.flat) := Lib.hid (by rw [← signs_tree ht]; exact signs_short hS)
    obtain ⟨m, hm⟩ := pos_flat t
    cases hb : boxesB bs
    · have HE := Lib.hid (sumOf_no (ss := ss) (a := (k : Int)) (.inr hb))
      have HB := Lib.hid hb
      clear hb ht hq
      generalize sumOfS ss (k : Int) bs = R at HE ⊢
      go_enter Tryd.func15, Tryd.ntmps15
      go_wp2_with fail
      refine HSA.out.mono ?_
      rintro e w1 ⟨v1, rfl, h1, b1⟩
      obtain ⟨A1, c1, e1⟩ := strs_shape h1
      subst e1
      rw [hm]
      go_wp2_with fail
      refine (iBoxesOk_any B _ bs _ (hu.below (b1.mono hB)) (Nat.le_trans hB b1.size) hSb).mono ?_
      rintro e w2 ⟨rfl, b2⟩
      rw [HB.out]
      go_wp2_with fail
      go_ret2
      exact ⟨rd_none HE.out, below_then b1 b2 (Nat.le_refl _)⟩
    · have HE := Lib.hid (sumOf_tree ht hb)
      rw [HE.out]
      have HR0 := Lib.hid (fun A1 c1 W V h1 hu2 hBW => reckoned_any B A1 Au c1 cu bs t HO.out W V h1 hu2 hBW HSS.out (by omega))
      clear HE
      generalize evalT bs t = R at HR0 ⊢
      have HB := Lib.hid hb
      clear hb ht hq
      go_enter Tryd.func15, Tryd.ntmps15
      go_wp2_with fail
      refine HSA.out.mono ?_
      rintro e w1 ⟨v1, rfl, h1, b1⟩
      obtain ⟨A1, c1, e1⟩ := strs_shape h1
      subst e1
      have HRC := Lib.hid (fun W b => HR0.out A1 c1 W (HV.out.below (below_then b1 b (Nat.le_refl _))) (h1.below (b.mono (Nat.le_trans hB b1.size))) (hu.below ((below_then b1 b (Nat.le_refl _)).mono hB)) (Nat.le_trans hB (below_then b1 b (Nat.le_refl _)).size))
      rw [hm] at HRC ⊢
      go_wp2_with fail
      refine (iBoxesOk_any B _ bs _ (hu.below (b1.mono hB)) (Nat.le_trans hB b1.size) hSb).mono ?_
      rintro e w2 ⟨rfl, b2⟩
      rw [HB.out]
      go_wp2_with fail
      refine (HRC.out _ b2).mono ?_
      rintro e w3 ⟨rfl, b3⟩
      generalize hx : R.getD 0 = x
      generalize hy : R.isSome = y
      have HX := Lib.hid hx
      have HY := Lib.hid hy
      clear hx hy
      go_wp2_with fail
      go_ret2
      exact ⟨rd_ret HX.out.symm HY.out.symm, below_then (below_then b1 b2 (Nat.le_refl _)) b3 (Nat.le_refl _)⟩

set_option maxHeartbeats 4000000 in
theorem sumOf_law (v u : Value) (ss : List (List UInt8)) (bs : List Bx) (a : Int) (w : World) (V : Vars w) (s : SeeV w w.heap.size v (ss.map str)) (hF : fitS ss) (q : SeeBx w w.heap.size u bs) (hFb : fitB bs) :
    Calls Tryd.prog 7 #[v, .int .i64 a, u] w fun e w' => e = .returned (.bool true) ∧ Below w.heap.size w w' := by
  obtain ⟨A, c, e⟩ := strs_shape s
  subst e
  obtain ⟨Au, cu, e⟩ := q.shape
  subst e
  rcases (show szL 1048576 (txLens ss) < 0 ∨ 0 ≤ szL 1048576 (txLens ss) by omega) with hz | hz
  · go_enter Tryd.func7, Tryd.ntmps7
    go_wp2_with fail
    refine (szStrs_any _ _ ss 1048576 (by omega) (by omega) _ s hF).mono ?_
    rintro e w1 ⟨rfl, rfl⟩
    generalize szL 1048576 (txLens ss) = z at hz ⊢
    go_wp2_with fail
    go_ret
    exact ⟨rfl, Below.refl _ _⟩
  obtain ⟨hlen, hS, hz2⟩ := sz_strs hz (by omega) (by omega)
  have HZ := Lib.hid (szStrs_any _ _ ss 1048576 (by omega) (by omega) _ s hF)
  generalize szL 1048576 (txLens ss) = z at hz hz2 HZ
  rcases (show szL z (nmLens bs) < 0 ∨ 0 ≤ szL z (nmLens bs) by omega) with hy | hy
  · go_enter Tryd.func7, Tryd.ntmps7
    go_wp2_with fail
    refine HZ.out.mono ?_
    rintro e w1 ⟨rfl, rfl⟩
    go_wp2_with fail
    refine (szBoxes_any _ _ bs z hz hz2 _ q (Nat.le_refl _) hFb).mono ?_
    rintro e w1 ⟨rfl, b1⟩
    generalize szL z (nmLens bs) = y at hy ⊢
    go_wp2_with fail
    go_ret
    exact ⟨rfl, b1⟩
  obtain ⟨hlb, hSb⟩ := sz_boxes hy hz hz2
  have HV := Lib.hid V
  clear V
  go_enter Tryd.func7, Tryd.ntmps7
  go_wp2_with fail
  refine HZ.out.mono ?_
  rintro e w1 ⟨rfl, rfl⟩
  go_wp2_with fail
  refine (szBoxes_any _ _ bs z hz hz2 _ q (Nat.le_refl _) hFb).mono ?_
  rintro e w1 ⟨rfl, b1⟩
  generalize szL z (nmLens bs) = y at hy ⊢
  have s1 := s.below b1
  have q1 := q.below b1
  go_wp2_with fail
  refine (toStrs_any _ _ ss hlen _ s1 b1.size).mono ?_
  rintro e w2 ⟨v2, rfl, o2, b2⟩
  obtain ⟨A2, c2, e2⟩ := strs_shape o2.see
  subst e2
  replace b2 := below_then b1 b2 (Nat.le_refl _)
  have q2 := q.below b2
  have s2 := s.below b2
  clear b1 s1 q1
  go_wp2_with fail
  refine (toBoxes_any _ _ bs hlb _ q2 b2.size).mono ?_
  rintro e w3 ⟨v3, rfl, o3, b3⟩
  obtain ⟨A3, c3, e3⟩ := o3.see.shape
  subst e3
  have o2' := o2.later b3
  replace b3 := below_then b2 b3 (Nat.le_refl _)
  have q3 := q.below b3
  have s3 := s.below b3
  clear b2 s2 q2 o2
  go_wp2_with fail
  refine (sSumOf_any ss bs a _ _ _ _ o2'.see o3.see (Nat.le_refl _) hS hlen hSb).mono ?_
  rintro e w4 ⟨rfl, b4⟩
  replace b4 := below_then b3 b4 (Nat.le_refl _)
  have q4 := q.below b4
  have s4 := s.below b4
  clear b3 s3 q3 o3 o2'
  have HI := Lib.hid (fun B v u W V h1 h2 h3 => iSumOf_any ss bs a B v u W V h1 h2 h3 hS hlen hSb)
  generalize sumOfS ss a bs = R at HI ⊢
  unfold RdLt at HI
  generalize hx : R.getD 0 = x at HI ⊢
  generalize hy : R.isSome = is at HI ⊢
  have HX := Lib.hid hx
  have HY := Lib.hid hy
  clear hx hy
  go_wp2_with fail
  refine (toStrs_any _ _ ss hlen _ s4 b4.size).mono ?_
  rintro e w5 ⟨v5, rfl, o5, b5⟩
  obtain ⟨A5, c5, e5⟩ := strs_shape o5.see
  subst e5
  replace b5 := below_then b4 b5 (Nat.le_refl _)
  have q5 := q.below b5
  have s5 := s.below b5
  clear b4 s4 q4
  go_wp2_with fail
  refine (toBoxes_any _ _ bs hlb _ q5 b5.size).mono ?_
  rintro e w6 ⟨v6, rfl, o6, b6⟩
  obtain ⟨A6, c6, e6⟩ := o6.see.shape
  subst e6
  have o5' := o5.later b6
  replace b6 := below_then b5 b6 (Nat.le_refl _)
  have q6 := q.below b6
  have s6 := s.below b6
  clear b5 s5 q5 o5
  go_wp2_with fail
  refine (HI.out _ _ _ _ (HV.out.below b6) o5'.see o6.see (Nat.le_refl _)).mono ?_
  rintro e w7 ⟨rfl, b7⟩
  have o5 := o5'.later b7
  have o7 := o6.later b7
  replace b7 := below_then b6 b7 (Nat.le_refl _)
  have q7 := q.below b7
  have s7 := s.below b7
  clear b6 s6 q6 o5' o6
  have hnx : (x != x) = false := by simp
  have hni : (is != is) = false := by simp
  go_wp2_with fail
  refine (toStrs_any _ _ ss hlen _ s7 b7.size).mono ?_
  rintro e w8 ⟨v8, rfl, o8, b8⟩
  obtain ⟨A8, c8, e8⟩ := strs_shape o8.see
  subst e8
  have o5' := o5.later b8
  have o7' := o7.later b8
  replace b8 := below_then b7 b8 (Nat.le_refl _)
  have q8 := q.below b8
  clear b7 s7 q7 o5 o7
  go_wp2_with fail
  refine (eqStrs_any _ _ _ ss ss _ o5'.see o8.see).mono ?_
  rintro e w9 ⟨rfl, n9, rfl⟩
  rw [eqT_same]
  have b9 : Below w8.heap.size w8 (w8.drewN n9) := below_drewN (Below.refl _ _) _
  have o9 := o7'.later b9
  replace b9 := below_then b8 b9 (Nat.le_refl _)
  have q9 := q.below b9
  clear b8 q8 o7' o5' o8
  generalize w8.drewN n9 = w9 at b9 q9 o9 ⊢
  go_wp2_with fail
  refine (toBoxes_any _ _ bs hlb _ q9 b9.size).mono ?_
  rintro e w10 ⟨v10, rfl, o10, b10⟩
  obtain ⟨A10, c10, e10⟩ := o10.see.shape
  subst e10
  have o11 := o9.later b10
  replace b10 := below_then b9 b10 (Nat.le_refl _)
  clear b9 q9 o9
  go_wp2_with fail
  refine (eqBoxes_any _ _ _ bs bs _ (Nat.le_refl _) o11.see o10.see).mono ?_
  rintro e w11 ⟨rfl, b11⟩
  rw [eqBx_same]
  go_wp2_with fail
  go_ret
  exact ⟨rfl, below_then b10 b11 (Nat.le_refl _)⟩

end Go.Proofs.YtpembdiopmdhfaaDoor
