/- Layer 10 (feeds): AlikeTo of the model; the walk of FnExactAlikeTo. No conditions but those typed. -/
import Derived.Test.YtigcbegeaikfcaaFeedF
import Derived.Test.YtigcbegeaikfcaaFeedB
import Derived.Deep.CutRange
namespace Go.Proofs.Ytigcbegeaikfcaa
open Go.RowKit
set_option linter.unusedVariables false

theorem same_order {us gs us' gs' : List Int} {ss ss' : List (List Int)} {r : Int} (h1 : rankB us gs ss r = true) (hb : hallB us' gs' ss' = true) (e : us = us') : rankB us' gs' ss' r = true := by
  subst e
  simp only [rankB, Bool.and_eq_true] at h1 ⊢
  exact ⟨hb, h1.2⟩
theorem alike_h {us gs us' gs' : List Int} {ss ss' : List (List Int)} {r : Int} (h : hallB us' gs' ss' = false) : alikeS us gs ss us' gs' ss' r = false := by simp [alikeS, rankB, h]

set_option maxHeartbeats 4000000 in
set_option maxRecDepth 100000 in
theorem sAlikeTo_any (B : Nat) (v u s v' u' s' : Value) (us gs : List Int) (ss : List (List Int)) (us' gs' : List Int) (ss' : List (List Int)) (r : Int) (w : World) (h1 : SeeI w B v us) (h2 : SeeI w B u gs) (h3 : SeeSN w B s ss) (k1 : SeeI w B v' us') (k2 : SeeI w B u' gs') (k3 : SeeSN w B s' ss') (hB : B ≤ w.heap.size) :
    Calls Try.prog 18 #[.agg #[v, u, s], .agg #[v', u', s'], .int .i64 r] w (BoolOf w (alikeS us gs ss us' gs' ss' r)) := by
  obtain ⟨S0, T0⟩ := two_halls h1 h2 h3 k1 k2 k3 hB 32 32
  obtain ⟨A, c, rfl⟩ := h1.shape
  obtain ⟨A', c', rfl⟩ := h2.shape
  obtain ⟨A2, c2, rfl⟩ := h3.weak.shape
  obtain ⟨A3, c3, rfl⟩ := k1.shape
  obtain ⟨A4, c4, rfl⟩ := k2.shape
  obtain ⟨A5, c5, rfl⟩ := k3.weak.shape
  clear h1 h2 h3 k1 k2 k3
  go_enter Try.func18, Try.ntmps18
  have p0 := S0.hg.c0
  have p1 := S0.hg.c1
  have p2 := S0.hg.c2
  go_wp2_with fail
  generalize World.alloc _ (.cells #[.slice A3 us'.length c3, .slice A4 gs'.length c4, .slice A5 ss'.length c5] _) = W at S0 T0 p0 p1 p2 ⊢
  generalize hoo : w.heap.size = o at S0 T0 p0 p1 p2 ⊢
  have HO := Lib.hid hoo
  clear hoo
  refine (l10Right_any o _ _ _ us gs ss r _ S0.hg.see S0.hg.gat S0.hg.slo S0.hg.le).mono ?_
  rintro e w1 ⟨rfl, b1⟩
  replace S0 := S0.next b1
  replace T0 := T0.next b1
  clear p0 p1 p2 b1
  cases ha : rankB us gs ss r
  · have HE := Lib.hid (alike_a (us' := us') (gs' := gs') (ss' := ss') ha)
    clear ha
    go_wp2_with fail
    go_ret
    exact ⟨ret_bool HE.out.symm, S0.hg.old⟩
  have p0 := T0.hg.c0
  have p1 := T0.hg.c1
  have p2 := T0.hg.c2
  go_wp2_with fail
  refine (sHallOk_any w1.heap.size _ _ _ us' gs' ss' _ (T0.hg.see.more T0.hg.le) (T0.hg.gat.more T0.hg.le) (T0.hg.slo.more T0.hg.le) (Nat.le_refl _)).mono ?_
  rintro e w2 ⟨rfl, b2⟩
  replace S0 := S0.next b2
  replace T0 := T0.next b2
  clear p0 p1 p2 b2
  cases hb : hallB us' gs' ss'
  · have HE := Lib.hid (alike_h (us := us) (gs := gs) (ss := ss) (r := r) hb)
    clear hb ha
    go_wp2_with fail
    go_ret
    exact ⟨ret_bool HE.out.symm, S0.hg.old⟩
  have p0 := T0.hg.c0
  have q0 := S0.hg.c0
  go_wp2_with fail
  refine (sameI_any w2.heap.size _ _ us us' _ (S0.hg.see.more S0.hg.le) (T0.hg.see.more T0.hg.le)).mono ?_
  rintro e w3 ⟨rfl, n3, hw3⟩
  have b3 : Below w2.heap.size w2 w3 := by rw [hw3]; exact below_drewN (Below.refl _ _) n3
  replace S0 := S0.next b3
  replace T0 := T0.next b3
  clear p0 q0 b3 hw3
  cases hu : eqI us us'
  · have HE := Lib.hid (alike_c (us := us) (us' := us') (gs := gs) (gs' := gs') (ss := ss) (ss' := ss') (r := r) (by rw [hu]; rfl))
    clear hb ha hu
    go_wp2_with fail
    go_ret
    exact ⟨ret_bool HE.out.symm, S0.hg.old⟩
  have p1 := T0.hg.c1
  have q1 := S0.hg.c1
  go_wp2_with fail
  refine (sameI_any w3.heap.size _ _ gs gs' _ (S0.hg.gat.more S0.hg.le) (T0.hg.gat.more T0.hg.le)).mono ?_
  rintro e w4 ⟨rfl, n4, hw4⟩
  have b4 : Below w3.heap.size w3 w4 := by rw [hw4]; exact below_drewN (Below.refl _ _) n4
  replace S0 := S0.next b4
  replace T0 := T0.next b4
  clear p1 q1 b4 hw4
  cases hgg : eqI gs gs'
  · have HE := Lib.hid (alike_c (us := us) (us' := us') (gs := gs) (gs' := gs') (ss := ss) (ss' := ss') (r := r) (by rw [hu, hgg]; rfl))
    clear hb ha hu hgg
    go_wp2_with fail
    go_ret
    exact ⟨ret_bool HE.out.symm, S0.hg.old⟩
  have hb2 := same_order ha hb (eqI_iff.1 hu)
  have HE := Lib.hid (alike_d ha hb2 (by rw [hu, hgg]; rfl))
  have HX : Hid (vwS us gs ss r = viewS us gs ss r gs.length) := Lib.hid (by simp [vwS, ha])
  have HY : Hid (vwS us' gs' ss' r = viewS us' gs' ss' r gs'.length) := Lib.hid (by simp [vwS, hb2])
  have HL : Hid (gs.length = gs'.length) := Lib.hid (by rw [eqI_iff.1 hgg])
  have HC1 := Lib.hid (l10View_any o _ _ _ us gs ss r _ S0.hg.see S0.hg.gat S0.sn S0.hg.le ha)
  have hl1 := Lib.hid (viewS_len us gs ss r gs.length)
  have hl2 := Lib.hid (viewS_len us' gs' ss' r gs'.length)
  have h4 := (rank_len ha).2.1
  have p0 := S0.hg.c0
  have p1 := S0.hg.c1
  have p2 := S0.hg.c2
  clear hb hu hgg
  go_wp2_with fail
  refine HC1.out.mono ?_
  clear HC1 p0 p1 p2 ha
  rintro e w5 ⟨va, la, rfl, oa, b5⟩
  replace S0 := S0.next b5
  replace T0 := T0.next b5
  have za := oa.see
  have HC2 := Lib.hid (l10View_any w5.heap.size _ _ _ us' gs' ss' r _ (T0.hg.see.more T0.hg.le) (T0.hg.gat.more T0.hg.le) (T0.sn.more T0.hg.le) (Nat.le_refl _) hb2)
  have p0 := T0.hg.c0
  have p1 := T0.hg.c1
  have p2 := T0.hg.c2
  clear b5 oa hb2
  go_wp2_with fail
  refine HC2.out.mono ?_
  clear HC2 p0 p1 p2
  rintro e w6 ⟨vb, lb, rfl, ob, b6⟩
  replace S0 := S0.next b6
  have zb := ob.see
  replace za := (za.below b6).more b6.size
  have hold := Lib.hid S0.hg.old
  clear S0 T0 b6 ob
  rw [HX.out, HY.out] at HE
  generalize viewS us gs ss r gs.length = xs at *
  generalize viewS us' gs' ss' r gs'.length = ys at *
  obtain ⟨Aa, ca, rfl⟩ := za.shape
  obtain ⟨Ab, cb, rfl⟩ := zb.shape
  have hx4 : xs.length ≤ 4 := by have := hl1.out; omega
  have HXY : Hid (xs.length = ys.length) := Lib.hid (by have := hl1.out; have := hl2.out; have := HL.out; omega)
  clear HX HY h4
  go_wp2_with fail
  go_loopw [9] (fun i wr => ∃ k m : Nat, k ≤ xs.length ∧ i = .int .i64 k ∧ xs.take k = ys.take k ∧ wr = w6.drewN m) (fun i _ => xs.length - (intOf i).toNat)
  case atStart => exact ⟨0, 0, Nat.zero_le _, by rfl, by rw [List.take_zero, List.take_zero], (World.drewN_zero _).symm⟩
  case round =>
    obtain ⟨k, m, hk, rfl, ht, hwr⟩ := hrel
    have HW := Lib.hid hwr
    have HT := Lib.hid ht
    have ha' : SeeSS wr w6.heap.size (.slice Aa xs.length ca) xs := by rw [hwr]; exact za.below (below_drewN (Below.refl _ _) _)
    have hb' : SeeSS wr w6.heap.size (.slice Ab ys.length cb) ys := by rw [hwr]; exact zb.below (below_drewN (Below.refl _ _) _)
    clear ht hwr za zb
    by_cases hlt : k < xs.length
    · have i1 : (k : Int) < xs.length := by omega
      have i2 : (k : Int) < ys.length := by have := HXY.out; omega
      have hlt' : k < ys.length := by have := HXY.out; omega
      have hx := List.getElem?_eq_getElem hlt
      generalize xs[k] = x at hx
      have hy := List.getElem?_eq_getElem hlt'
      generalize ys[k] = y at hy
      obtain ⟨g, o', D, q, rfl, hcx, hix⟩ := ha'.at_ hx
      obtain ⟨g', o'', D', q', rfl, hcy, hiy⟩ := hb'.at_ hy
      have HX := Lib.hid hx
      have HY := Lib.hid hy
      have T1 : Hid (∀ n, Calls Try.prog 42 #[.slice D x.length q, .slice D' y.length q'] (wr.drewN n) fun e w' => e = .returned (.bool (eqI x y)) ∧ ∃ j, w' = wr.drewN j) := Lib.hid fun n => by
        refine (sameI_any w6.heap.size _ _ x y _ (hix.drewN n) (hiy.drewN n)).mono ?_
        rintro e w1 ⟨rfl, j, rfl⟩
        exact ⟨rfl, _, World.drewN_drewN _ _ _⟩
      clear hx hy ha' hb' hix hiy
      cases hxy : eqI x y
      · have HQ : Hid (eqSS xs ys = false) := Lib.hid (by
          unfold eqSS
          rw [decide_eq_false_iff_not]
          intro h
          have h2 := HX.out
          rw [h, HY.out] at h2
          injection h2 with h2
          rw [eqI_iff.2 h2.symm] at hxy
          cases hxy)
        rw [hxy] at T1
        clear hxy
        go_wp2_with fail
        go_quiet (first | (go_at_call 42; exact T1.out _))
        go_wp2_with fail
        go_ret
        exact ⟨ret_bool (by rw [HE.out, HQ.out]), below_drewN (show Below w.heap.size w wr by rw [HW.out]; exact below_drewN hold.out m) _⟩
      · have HR := Lib.hid (takeS_more HT.out HX.out (by rw [eqI_iff.1 hxy]; exact HY.out))
        rw [hxy] at T1
        clear hxy
        go_wp2_with fail
        go_quiet (first | (go_at_call 42; exact T1.out _))
        go_wp2_with fail
        go_roundw
        case rel => exact ⟨k + 1, _, by omega, by go_num, HR.out, by rw [HW.out]; exact World.drewN_drewN _ _ _⟩
        case measure => simp [intOf]; omega
    · have HQ : Hid (eqSS xs ys = true) := Lib.hid (by
        have h := HT.out
        rw [List.take_of_length_le (by omega), List.take_of_length_le (by have := HXY.out; omega)] at h
        simp [eqSS, h])
      go_wp2_with fail
      go_ret
      exact ⟨ret_bool (by rw [HE.out, HQ.out]), (show Below w.heap.size w wr by rw [HW.out]; exact below_drewN hold.out m)⟩

end Go.Proofs.Ytigcbegeaikfcaa
