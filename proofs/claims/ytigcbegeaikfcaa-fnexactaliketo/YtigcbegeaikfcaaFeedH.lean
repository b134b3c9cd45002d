/- The walk of the law FnExactAlikeTo. No conditions but those typed. -/
import Derived.Test.YtigcbegeaikfcaaFeedG
namespace Go.Proofs.Ytigcbegeaikfcaa
open Go.RowKit
set_option linter.unusedVariables false

theorem two_hg {w : World} {B : Nat} {v u s v' u' s' : Value} {us gs us' gs' : List Int} {ss ss' : List (List Int)} (h1 : SeeI w B v us) (h2 : SeeI w B u gs) (h3 : SeeSS w B s ss) (k1 : SeeI w B v' us') (k2 : SeeI w B u' gs') (k3 : SeeSS w B s' ss') (hB : B ≤ w.heap.size) (t t' : TypeId) :
    Hg w w.heap.size v u s us gs ss ((w.alloc (.cells #[v, u, s] t)).alloc (.cells #[v', u', s'] t')) ∧ Hg w (w.heap.size + 1) v' u' s' us' gs' ss' ((w.alloc (.cells #[v, u, s] t)).alloc (.cells #[v', u', s'] t')) := by
  have b0 := below_new w (.cells #[v, u, s] t)
  have hz : (w.alloc (.cells #[v, u, s] t)).heap.size = w.heap.size + 1 := by simp
  have T0 := Hg.box (k1.below (b0.mono hB)) (k2.below (b0.mono hB)) (k3.below (b0.mono hB)) (Nat.le_trans hB b0.size) t'
  rw [hz] at T0
  exact ⟨(Hg.box h1 h2 h3 hB t).next (below_new _ _), ⟨T0.c0, T0.c1, T0.c2, T0.see, T0.gat, T0.slo, T0.lt, below_then b0 (below_new _ _) (Nat.le_refl _)⟩⟩
theorem OwnH.next {w w' : World} {B : Nat} {v u s : Value} {vs : List Value} {us gs : List Int} {ss : List (List Int)} (h : OwnH w B v u s vs us gs ss) (b : Below w.heap.size w w') : OwnH w' B v u s vs us gs ss :=
  ⟨own_later h.o1 b, own_later h.o2 b, h.o3.later b, h.a12, h.a13, h.a23⟩

set_option maxHeartbeats 8000000 in
set_option maxRecDepth 100000 in
theorem alikeTo_law (v u s v' u' s' : Value) (us gs : List Int) (ss : List (List Int)) (us' gs' : List Int) (ss' : List (List Int)) (r : Int) (w : World) (h1 : SeeI w w.heap.size v us) (h2 : SeeI w w.heap.size u gs) (h3 : SeeSS w w.heap.size s ss)
    (k1 : SeeI w w.heap.size v' us') (k2 : SeeI w w.heap.size u' gs') (k3 : SeeSS w w.heap.size s' ss') :
    Calls Try.prog 5 #[.agg #[v, u, s], .agg #[v', u', s'], .int .i64 r] w (BoolOf w true) := by
  obtain ⟨S0, T0⟩ := two_hg h1 h2 h3 k1 k2 k3 (Nat.le_refl _) 27 27
  obtain ⟨A, c, rfl⟩ := h1.shape
  obtain ⟨A', c', rfl⟩ := h2.shape
  obtain ⟨A2, c2, rfl⟩ := h3.shape
  obtain ⟨A3, c3, rfl⟩ := k1.shape
  obtain ⟨A4, c4, rfl⟩ := k2.shape
  obtain ⟨A5, c5, rfl⟩ := k3.shape
  clear h1 h2 h3 k1 k2 k3
  go_enter Try.func5, Try.ntmps5
  have p0 := S0.c0
  have p1 := S0.c1
  have p2 := S0.c2
  go_wp2_with fail
  generalize World.alloc _ (.cells #[.slice A3 us'.length c3, .slice A4 gs'.length c4, .slice A5 ss'.length c5] _) = W at S0 T0 p0 p1 p2 ⊢
  generalize w.heap.size = o at S0 T0 p0 p1 p2 ⊢
  refine (szHall_any o _ _ _ us gs ss 1048576 (by decide) (by decide) _ S0.see S0.gat S0.slo S0.le).mono ?_
  rintro e w1 ⟨z, rfl, hz1, hz, b1⟩
  replace S0 := S0.next b1
  replace T0 := T0.next b1
  clear p0 p1 p2 b1
  by_cases hn : z < 0
  · go_wp2_with fail
    go_ret
    exact ⟨rfl, S0.old⟩
  have F : FitH us gs ss := by rcases hz with q | q; exact absurd q hn; exact q
  clear hz
  have p0 := T0.c0
  have p1 := T0.c1
  have p2 := T0.c2
  have HSZ := Lib.hid (szHall_any (o + 1) _ _ _ us' gs' ss' z (by omega) hz1 _ T0.see T0.gat T0.slo T0.le)
  clear hz1
  go_wp2_with fail
  refine HSZ.out.mono ?_
  clear HSZ
  rintro e w2 ⟨z2, rfl, -, hz, b2⟩
  replace S0 := S0.next b2
  replace T0 := T0.next b2
  clear p0 p1 p2 b2 hn
  by_cases hn : z2 < 0
  · go_wp2_with fail
    go_ret
    exact ⟨rfl, S0.old⟩
  have G : FitH us' gs' ss' := by rcases hz with q | q; exact absurd q hn; exact q
  clear hz
  have p0 := S0.c0
  have p1 := S0.c1
  have p2 := S0.c2
  have q0 := T0.c0
  have q1 := T0.c1
  have q2 := T0.c2
  go_upto_region 8 with fail
  clear p0 p1 p2 q0 q1 q2 hn
  obtain ⟨bo, hbo⟩ : ∃ b, b = alikeS us gs ss us' gs' ss' r := ⟨_, rfl⟩
  have HBO := Lib.hid hbo
  clear hbo
  go_cut [8] from 12 (fun s8 wc => s8 = .bool bo ∧ Below w2.heap.size w2 wc)
  case first =>
    have k0 : Below w2.heap.size w2 w2.drew := (Below.refl _ _).drew
    go_region_held3 (fun w' => (w'.cell? ⟨o, 0, none⟩ = some (.slice A us.length c) ∧ w'.cell? ⟨o, 1, none⟩ = some (.slice A' gs.length c') ∧ w'.cell? ⟨o, 2, none⟩ = some (.slice A2 ss.length c2)) ∧ (w'.cell? ⟨o + 1, 0, none⟩ = some (.slice A3 us'.length c3) ∧ w'.cell? ⟨o + 1, 1, none⟩ = some (.slice A4 gs'.length c4) ∧ w'.cell? ⟨o + 1, 2, none⟩ = some (.slice A5 ss'.length c5)) ∧ Below w2.heap.size w2 w')
      (first | exact hold6 S0 T0 k0 | exact hold6 S0 T0 k9 | exact hold6 S0 T0 k2 | exact hold6 S0 T0 k1)
      (first | (go_at_call 9; refine (toHall_any (o + 1) _ _ _ us' gs' ss' _ (T0.next kA).see (T0.next kA).gat (T0.next kA).slo (T0.next kA).le G).mono ?_; rintro e wb ⟨vb, ub, sb, lb, rfl, ob, bb⟩; have k2 := below_then kA bb (Nat.le_refl _); replace oa := oa.next bb) |
        (go_at_call 9; refine (toHall_any o _ _ _ us gs ss _ (S0.next kB).see (S0.next kB).gat (S0.next kB).slo (S0.next kB).le F).mono ?_; rintro e wa ⟨va, ua, sa, la, rfl, oa, ba⟩; have k2 := below_then kB ba (Nat.le_refl _); replace ob := ob.next ba) |
        (go_at_call 9; refine (toHall_any o _ _ _ us gs ss _ (S0.next k0).see (S0.next k0).gat (S0.next k0).slo (S0.next k0).le F).mono ?_; rintro e wa ⟨va, ua, sa, la, rfl, oa, ba⟩; have kA := below_then k0 ba (Nat.le_refl _); have k1 := kA) |
        (go_at_call 9; refine (toHall_any (o + 1) _ _ _ us' gs' ss' _ (T0.next k0).see (T0.next k0).gat (T0.next k0).slo (T0.next k0).le G).mono ?_; rintro e wb ⟨vb, ub, sb, lb, rfl, ob, bb⟩; have kB := below_then k0 bb (Nat.le_refl _); have k1 := kB) |
        (go_at_call 18; refine (sAlikeTo_any _ _ _ _ _ _ _ us gs ss us' gs' ss' r _ oa.see.1 oa.see.2.1 oa.o3.seeN ob.see.1 ob.see.2.1 ob.o3.seeN (Nat.le_refl _)).mono ?_; rintro e wc ⟨rfl, bc⟩; rw [← HBO.out]; have k9 := below_then k2 bc (Nat.le_refl _)))
    all_goals (
      go_wp2_with fail
      go_meet
      case rel => exact ⟨rfl, k9⟩)
  case rest =>
  obtain ⟨rfl, b5⟩ := hcut
  replace S0 := S0.next b5
  replace T0 := T0.next b5
  clear b5
  have p0 := S0.c0
  have p1 := S0.c1
  have p2 := S0.c2
  go_wp2_with fail
  clear p0 p1 p2
  refine (toHall_any o _ _ _ us gs ss _ S0.see S0.gat S0.slo S0.le F).mono ?_
  rintro e w6 ⟨v6, u6, s6, l6, rfl, o6, b6⟩
  obtain ⟨m1, m2, m3⟩ := o6.see
  have X := Hn.box m1 m2 o6.o3.seeN (Nat.le_refl _) 32
  have bx := below_new w6 (.cells #[v6, u6, s6] 32)
  replace S0 := (S0.next b6).next bx
  replace T0 := (T0.next b6).next bx
  obtain ⟨B1, e1, rfl⟩ := m1.shape
  obtain ⟨B2, e2, rfl⟩ := m2.shape
  obtain ⟨B3, e3, rfl⟩ := m3.shape
  clear o6 b6 m1 m2 m3 bx
  have q0 := T0.c0
  have q1 := T0.c1
  have q2 := T0.c2
  go_wp2_with fail
  clear q0 q1 q2
  generalize w6.alloc _ = W6 at *
  generalize w6.heap.size = M at *
  refine (toHall_any (o + 1) _ _ _ us' gs' ss' _ T0.see T0.gat T0.slo T0.le G).mono ?_
  rintro e w7 ⟨v7, u7, s7, l7, rfl, o7, b7⟩
  obtain ⟨m1, m2, m3⟩ := o7.see
  have Y := Hn.box m1 m2 o7.o3.seeN (Nat.le_refl _) 32
  have bx := below_new w7 (.cells #[v7, u7, s7] 32)
  replace S0 := (S0.next b7).next bx
  replace T0 := (T0.next b7).next bx
  replace X := (X.next b7).next bx
  obtain ⟨E1, f1, rfl⟩ := m1.shape
  obtain ⟨E2, f2, rfl⟩ := m2.shape
  obtain ⟨E3, f3, rfl⟩ := m3.shape
  clear o7 b7 m1 m2 m3 bx
  have p0 := X.hg.c0
  have p1 := X.hg.c1
  have p2 := X.hg.c2
  have q0 := Y.hg.c0
  have q1 := Y.hg.c1
  have q2 := Y.hg.c2
  go_wp2_with fail
  clear p0 p1 p2 q0 q1 q2
  generalize w7.alloc _ = W7 at *
  generalize w7.heap.size = M1 at *
  have CI := Lib.hid (iAlikeTo_any W7.heap.size _ _ _ _ _ _ us gs ss us' gs' ss' r W7 (X.hg.see.more X.hg.le) (X.hg.gat.more X.hg.le) (X.sn.more X.hg.le) (Y.hg.see.more Y.hg.le) (Y.hg.gat.more Y.hg.le) (Y.sn.more Y.hg.le) (Nat.le_refl _))
  refine CI.out.mono ?_
  clear CI
  rintro e w8 ⟨rfl, b8⟩
  rw [← HBO.out]
  replace S0 := S0.next b8
  replace T0 := T0.next b8
  replace X := (X.next b8).hg
  replace Y := (Y.next b8).hg
  clear b8 HBO
  have hbb : (bo != bo) = false := by simp
  have k0 : Below w8.heap.size w8 w8.drew := (Below.refl _ _).drew
  go_wp2_with fail
  go_region_held3 (fun w' => (w'.cell? ⟨M, 0, none⟩ = some (.slice B1 us.length e1) ∧ w'.cell? ⟨M, 1, none⟩ = some (.slice B2 gs.length e2) ∧ w'.cell? ⟨M, 2, none⟩ = some (.slice B3 ss.length e3)) ∧
      (w'.cell? ⟨o, 0, none⟩ = some (.slice A us.length c) ∧ w'.cell? ⟨o, 1, none⟩ = some (.slice A' gs.length c') ∧ w'.cell? ⟨o, 2, none⟩ = some (.slice A2 ss.length c2)) ∧ Below w8.heap.size w8 w')
    (first | exact hold6 X S0 k0 | exact hold6 X S0 k7 | exact hold6 X S0 k8)
    (first | (go_at_call 9; refine (toHall_any o _ _ _ us gs ss _ (S0.next k0).see (S0.next k0).gat (S0.next k0).slo (S0.next k0).le F).mono ?_; rintro e wa ⟨va, ua, sa, la, rfl, oa, ba⟩; have k7 := below_then k0 ba (Nat.le_refl _)) |
      (go_at_call 11; refine (eqHall_same wa.heap.size _ _ _ _ _ _ us gs ss _ (Nat.le_refl _) ((X.next k7).see.more (X.next k7).le) ((X.next k7).gat.more (X.next k7).le) ((X.next k7).slo.more (X.next k7).le) oa.see.1 oa.see.2.1 oa.see.2.2).mono ?_; rintro e wb ⟨rfl, bb⟩; have k8 := below_then k7 bb (Nat.le_refl _)))
  replace S0 := S0.next k8
  replace T0 := T0.next k8
  replace Y := Y.next k8
  clear k0 k7 k8 X hbb
  have k0 : Below wb.heap.size wb wb.drew := (Below.refl _ _).drew
  go_wp2_with fail
  go_region_held3 (fun w' => (w'.cell? ⟨M1, 0, none⟩ = some (.slice E1 us'.length f1) ∧ w'.cell? ⟨M1, 1, none⟩ = some (.slice E2 gs'.length f2) ∧ w'.cell? ⟨M1, 2, none⟩ = some (.slice E3 ss'.length f3)) ∧
      (w'.cell? ⟨o + 1, 0, none⟩ = some (.slice A3 us'.length c3) ∧ w'.cell? ⟨o + 1, 1, none⟩ = some (.slice A4 gs'.length c4) ∧ w'.cell? ⟨o + 1, 2, none⟩ = some (.slice A5 ss'.length c5)) ∧ Below wb.heap.size wb w')
    (first | exact hold6 Y T0 k0 | exact hold6 Y T0 k7 | exact hold6 Y T0 k8)
    (first | (go_at_call 9; refine (toHall_any (o + 1) _ _ _ us' gs' ss' _ (T0.next k0).see (T0.next k0).gat (T0.next k0).slo (T0.next k0).le G).mono ?_; rintro e wc ⟨vc, uc, sc, lc, rfl, oc, bc⟩; have k7 := below_then k0 bc (Nat.le_refl _)) |
      (go_at_call 11; refine (eqHall_same wc.heap.size _ _ _ _ _ _ us' gs' ss' _ (Nat.le_refl _) ((Y.next k7).see.more (Y.next k7).le) ((Y.next k7).gat.more (Y.next k7).le) ((Y.next k7).slo.more (Y.next k7).le) oc.see.1 oc.see.2.1 oc.see.2.2).mono ?_; rintro e wd ⟨rfl, bd⟩; have k8 := below_then k7 bd (Nat.le_refl _)))
  go_wp2_with fail
  go_ret
  exact ⟨rfl, (S0.next k8).old⟩

end Go.Proofs.Ytigcbegeaikfcaa
