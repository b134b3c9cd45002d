/- Layer 10 (feeds): AlikeTo of the model and of the program, by the same function. No conditions but those typed. -/
import Derived.Test.YtigcbegeaikfcaaFeedD
import Derived.Test.YtigcbegeaikfcaaEqI
import Derived.Test.YtigcbegeaikfcaaTailQ
namespace Go.Proofs.Ytigcbegeaikfcaa
open Go.RowKit
set_option linter.unusedVariables false

def eqSS (xs ys : List (List Int)) : Bool := decide (xs = ys)
/-- Two halls of one order and gates, of which a rank sees the same. -/
def alikeS (us gs : List Int) (ss : List (List Int)) (us' gs' : List Int) (ss' : List (List Int)) (r : Int) : Bool :=
  rankB us gs ss r && rankB us' gs' ss' r && (eqI us us' && eqI gs gs') && eqSS (vwS us gs ss r) (vwS us' gs' ss' r)

theorem takeS_more {xs ys : List (List Int)} {k : Nat} {x : List Int} (h : xs.take k = ys.take k) (hx : xs[k]? = some x) (hy : ys[k]? = some x) : xs.take (k + 1) = ys.take (k + 1) := by
  rw [List.take_add_one, List.take_add_one, h, hx, hy]
theorem eqI_iff {xs ys : List Int} : eqI xs ys = true ↔ xs = ys := by unfold eqI; exact decide_eq_true_iff

set_option maxHeartbeats 2000000 in
theorem equalSS_any (B : Nat) (va vb : Value) (xs ys : List (List Int)) (w : World) (ha : SeeSS w B va xs) (hb : SeeSS w B vb ys) :
    Calls Try.prog 44 #[va, vb, .func (.func 45) #[] #[]] w fun e w' => e = .returned (.bool (eqSS xs ys)) ∧ ∃ n, w' = w.drewN n := by
  obtain ⟨A, ca, rfl⟩ := ha.shape
  obtain ⟨A', cb, rfl⟩ := hb.shape
  have hm := ha.len
  have hm' := hb.len
  unfold maxLen at hm hm'
  by_cases hl : xs.length = ys.length
  · have hb1 : ((xs.length : Int) != (ys.length : Int)) = false := by simp [hl]
    have Hl := Lib.hid hl
    clear hl
    go_enter Try.func44, Try.ntmps44
    go_wp2_with fail
    clear hb1
    go_loopw [7, 8, 9, 17] (fun _ _ _ i wr => ∃ k m : Nat, k ≤ xs.length ∧ i = .int .i64 k ∧ xs.take k = ys.take k ∧ wr = w.drewN m) (fun _ _ _ i _ => xs.length - (intOf i).toNat)
    case atStart => exact ⟨0, 0, Nat.zero_le _, rfl, rfl, rfl⟩
    case round =>
      obtain ⟨k, m, hk, rfl, ht, hwr⟩ := hrel
      have HW := Lib.hid hwr
      have HT := Lib.hid ht
      have ha' : SeeSS wr B (.slice A xs.length ca) xs := by rw [hwr]; exact ha.below (below_drewN (Below.refl _ _) _)
      have hb' : SeeSS wr B (.slice A' ys.length cb) ys := by rw [hwr]; exact hb.below (below_drewN (Below.refl _ _) _)
      clear ht hwr ha hb
      by_cases hlt : k < xs.length
      · have hlt' : k < ys.length := by have := Hl.out; omega
        have hx := List.getElem?_eq_getElem hlt
        generalize xs[k] = x at hx
        have hy := List.getElem?_eq_getElem hlt'
        generalize ys[k] = y at hy
        obtain ⟨g, o, D, q, rfl, hcx, hix⟩ := ha'.at_ hx
        obtain ⟨g', o', D', q', rfl, hcy, hiy⟩ := hb'.at_ hy
        have HX := Lib.hid hx
        have HY := Lib.hid hy
        have HC := Lib.hid (equalI_any B _ _ x y wr hix hiy)
        clear hx hy ha' hb' hix hiy
        go_wp2_with fail
        refine HC.out.mono ?_
        clear HC
        rintro e w2 ⟨rfl, j, hw2⟩
        have HW2 := Lib.hid hw2
        clear hw2
        cases hxy : eqI x y
        · have HE : Hid (eqSS xs ys = false) := Lib.hid (by
            unfold eqSS
            rw [decide_eq_false_iff_not]
            intro h
            have h2 := HX.out
            rw [h, HY.out] at h2
            injection h2 with h2
            rw [eqI_iff.2 h2.symm] at hxy
            cases hxy)
          go_wp2_with fail
          go_ret
          exact ⟨ret_bool HE.out.symm, _, by rw [HW2.out, HW.out]; exact World.drewN_drewN _ _ _⟩
        · have HR := Lib.hid (takeS_more HT.out HX.out (by rw [eqI_iff.1 hxy]; exact HY.out))
          go_wp2_with fail
          go_roundw
          case rel => exact ⟨k + 1, _, by omega, by go_num, HR.out, by rw [HW2.out, HW.out]; exact World.drewN_drewN _ _ _⟩
          case measure => simp [intOf]; omega
      · have HE : Hid (eqSS xs ys = true) := Lib.hid (by
          have h := HT.out
          rw [List.take_of_length_le (by omega), List.take_of_length_le (by have := Hl.out; omega)] at h
          simp [eqSS, h])
        go_wp2_with fail
        go_ret
        exact ⟨ret_bool HE.out.symm, _, HW.out⟩
  · have hb1 : ((xs.length : Int) != (ys.length : Int)) = true := by simp; omega
    have HE : Hid (eqSS xs ys = false) := Lib.hid (by
      unfold eqSS
      rw [decide_eq_false_iff_not]
      rintro rfl
      exact hl rfl)
    clear hl
    go_enter Try.func44, Try.ntmps44
    go_wp2_with fail
    go_ret
    exact ⟨ret_bool HE.out.symm, 0, rfl⟩

/-- Two halls in two variables, side by side. -/
theorem two_halls {w : World} {B : Nat} {v u s v' u' s' : Value} {us gs us' gs' : List Int} {ss ss' : List (List Int)} (h1 : SeeI w B v us) (h2 : SeeI w B u gs) (h3 : SeeSN w B s ss) (k1 : SeeI w B v' us') (k2 : SeeI w B u' gs') (k3 : SeeSN w B s' ss') (hB : B ≤ w.heap.size) (t t' : TypeId) :
    Hn w w.heap.size v u s us gs ss ((w.alloc (.cells #[v, u, s] t)).alloc (.cells #[v', u', s'] t')) ∧ Hn w (w.heap.size + 1) v' u' s' us' gs' ss' ((w.alloc (.cells #[v, u, s] t)).alloc (.cells #[v', u', s'] t')) := by
  have b0 := below_new w (.cells #[v, u, s] t)
  have hz : (w.alloc (.cells #[v, u, s] t)).heap.size = w.heap.size + 1 := by simp
  have T0 := Hn.box (k1.below (b0.mono hB)) (k2.below (b0.mono hB)) (k3.below (b0.mono hB)) (Nat.le_trans hB b0.size) t'
  rw [hz] at T0
  refine ⟨(Hn.box h1 h2 h3 hB t).next (below_new _ _), ⟨⟨T0.hg.c0, T0.hg.c1, T0.hg.c2, T0.hg.see, T0.hg.gat, T0.hg.slo, T0.hg.lt, below_then b0 (below_new _ _) (Nat.le_refl _)⟩, T0.sn⟩⟩

set_option maxHeartbeats 1000000 in
theorem sameGates_any (B : Nat) (v u s v' u' s' : Value) (us gs : List Int) (ss : List (List Int)) (us' gs' : List Int) (ss' : List (List Int)) (w : World) (h1 : SeeI w B v us) (h2 : SeeI w B u gs) (h3 : SeeSN w B s ss) (k1 : SeeI w B v' us') (k2 : SeeI w B u' gs') (k3 : SeeSN w B s' ss') (hB : B ≤ w.heap.size) :
    Calls Try.prog 43 #[.agg #[v, u, s], .agg #[v', u', s']] w (BoolOf w (eqI us us' && eqI gs gs')) := by
  obtain ⟨S0, T0⟩ := two_halls h1 h2 h3 k1 k2 k3 hB 32 32
  obtain ⟨A, c, rfl⟩ := h1.shape
  obtain ⟨A', c', rfl⟩ := h2.shape
  obtain ⟨A2, c2, rfl⟩ := h3.weak.shape
  obtain ⟨A3, c3, rfl⟩ := k1.shape
  obtain ⟨A4, c4, rfl⟩ := k2.shape
  obtain ⟨A5, c5, rfl⟩ := k3.weak.shape
  clear h1 h2 h3 k1 k2 k3
  go_enter Try.func43, Try.ntmps43
  have p0 := S0.hg.c0
  have p1 := S0.hg.c1
  have q0 := T0.hg.c0
  have q1 := T0.hg.c1
  go_wp2_with fail
  generalize World.alloc _ (.cells #[.slice A3 us'.length c3, .slice A4 gs'.length c4, .slice A5 ss'.length c5] _) = W at S0 T0 p0 p1 q0 q1 ⊢
  refine (equalI_any W.heap.size _ _ us us' _ (S0.hg.see.more S0.hg.le) (T0.hg.see.more T0.hg.le)).mono ?_
  rintro e w' ⟨rfl, n, hw'⟩
  have b1 : Below W.heap.size W w' := by rw [hw']; exact below_drewN (Below.refl _ _) n
  replace S0 := S0.next b1
  replace T0 := T0.next b1
  clear p0 p1 q0 q1 b1 hw'
  have p1 := S0.hg.c1
  have q1 := T0.hg.c1
  cases h : eqI us us'
  · go_wp2_with fail
    go_ret
    exact ⟨ret_bool (by rw [h]; rfl), S0.hg.old⟩
  · go_wp2_with fail
    refine (equalI_any w'.heap.size _ _ gs gs' _ (S0.hg.gat.more S0.hg.le) (T0.hg.gat.more T0.hg.le)).mono ?_
    rintro e w2 ⟨rfl, m, hw2⟩
    have b2 : Below w'.heap.size w' w2 := by rw [hw2]; exact below_drewN (Below.refl _ _) m
    clear hw2
    go_wp2_with fail
    go_ret
    exact ⟨ret_bool (by rw [h]; simp), (S0.next b2).hg.old⟩

theorem alike_a {us gs us' gs' : List Int} {ss ss' : List (List Int)} {r : Int} (h : rankB us gs ss r = false) : alikeS us gs ss us' gs' ss' r = false := by simp [alikeS, h]
theorem alike_b {us gs us' gs' : List Int} {ss ss' : List (List Int)} {r : Int} (h : rankB us' gs' ss' r = false) : alikeS us gs ss us' gs' ss' r = false := by simp [alikeS, h]
theorem alike_c {us gs us' gs' : List Int} {ss ss' : List (List Int)} {r : Int} (h : (eqI us us' && eqI gs gs') = false) : alikeS us gs ss us' gs' ss' r = false := by
  unfold alikeS; rw [h]; simp
theorem alike_d {us gs us' gs' : List Int} {ss ss' : List (List Int)} {r : Int} (h1 : rankB us gs ss r = true) (h2 : rankB us' gs' ss' r = true) (h3 : (eqI us us' && eqI gs gs') = true) : alikeS us gs ss us' gs' ss' r = eqSS (vwS us gs ss r) (vwS us' gs' ss' r) := by
  unfold alikeS; rw [h1, h2, h3]; simp

theorem hold6n {w0 w1 W W' : World} {o o' : Nat} {v u s v' u' s' : Value} {us gs us' gs' : List Int} {ss ss' : List (List Int)} (h : Hn w0 o v u s us gs ss W) (h' : Hn w1 o' v' u' s' us' gs' ss' W) (k : Below W.heap.size W W') :
    (W'.cell? ⟨o, 0, none⟩ = some v ∧ W'.cell? ⟨o, 1, none⟩ = some u ∧ W'.cell? ⟨o, 2, none⟩ = some s) ∧ (W'.cell? ⟨o', 0, none⟩ = some v' ∧ W'.cell? ⟨o', 1, none⟩ = some u' ∧ W'.cell? ⟨o', 2, none⟩ = some s') ∧ Below W.heap.size W W' :=
  ⟨⟨(h.next k).hg.c0, (h.next k).hg.c1, (h.next k).hg.c2⟩, ⟨(h'.next k).hg.c0, (h'.next k).hg.c1, (h'.next k).hg.c2⟩, k⟩

set_option maxHeartbeats 4000000 in
set_option maxRecDepth 100000 in
theorem iAlikeTo_any (B : Nat) (v u s v' u' s' : Value) (us gs : List Int) (ss : List (List Int)) (us' gs' : List Int) (ss' : List (List Int)) (r : Int) (w : World) (h1 : SeeI w B v us) (h2 : SeeI w B u gs) (h3 : SeeSN w B s ss) (k1 : SeeI w B v' us') (k2 : SeeI w B u' gs') (k3 : SeeSN w B s' ss') (hB : B ≤ w.heap.size) :
    Calls Try.prog 19 #[.agg #[v, u, s], .agg #[v', u', s'], .int .i64 r] w (BoolOf w (alikeS us gs ss us' gs' ss' r)) := by
  obtain ⟨S0, T0⟩ := two_halls h1 h2 h3 k1 k2 k3 hB 32 32
  obtain ⟨A, c, rfl⟩ := h1.shape
  obtain ⟨A', c', rfl⟩ := h2.shape
  obtain ⟨A2, c2, rfl⟩ := h3.weak.shape
  obtain ⟨A3, c3, rfl⟩ := k1.shape
  obtain ⟨A4, c4, rfl⟩ := k2.shape
  obtain ⟨A5, c5, rfl⟩ := k3.weak.shape
  clear h1 h2 h3 k1 k2 k3
  go_enter Try.func19, Try.ntmps19
  go_wp2_with fail
  generalize World.alloc _ (.cells #[.slice A3 us'.length c3, .slice A4 gs'.length c4, .slice A5 ss'.length c5] _) = W at S0 T0 ⊢
  generalize hoo : w.heap.size = o at S0 T0 ⊢
  have HO := Lib.hid hoo
  clear hoo
  have T1 : Hid (∀ i : Later W, Calls Try.prog 36 #[.agg #[.slice A us.length c, .slice A' gs.length c', .slice A2 ss.length c2], .int .i64 r] i.now (BoolOf i.now (rankB us gs ss r))) := Lib.hid fun i => by
    have q := S0.next i.old
    exact hasRank_any i.now.heap.size _ _ _ us gs ss r _ (q.hg.see.more q.hg.le) (q.hg.gat.more q.hg.le) (q.hg.slo.more q.hg.le) (Nat.le_refl _)
  have T2 : Hid (∀ i : Later W, Calls Try.prog 36 #[.agg #[.slice A3 us'.length c3, .slice A4 gs'.length c4, .slice A5 ss'.length c5], .int .i64 r] i.now (BoolOf i.now (rankB us' gs' ss' r))) := Lib.hid fun i => by
    have q := T0.next i.old
    exact hasRank_any i.now.heap.size _ _ _ us' gs' ss' r _ (q.hg.see.more q.hg.le) (q.hg.gat.more q.hg.le) (q.hg.slo.more q.hg.le) (Nat.le_refl _)
  have T3 : Hid (∀ i : Later W, Calls Try.prog 43 #[.agg #[.slice A us.length c, .slice A' gs.length c', .slice A2 ss.length c2], .agg #[.slice A3 us'.length c3, .slice A4 gs'.length c4, .slice A5 ss'.length c5]] i.now (BoolOf i.now (eqI us us' && eqI gs gs'))) := Lib.hid fun i => by
    have p := S0.next i.old
    have q := T0.next i.old
    exact sameGates_any i.now.heap.size _ _ _ _ _ _ us gs ss us' gs' ss' _ (p.hg.see.more p.hg.le) (p.hg.gat.more p.hg.le) (p.sn.more p.hg.le) (q.hg.see.more q.hg.le) (q.hg.gat.more q.hg.le) (q.sn.more q.hg.le) (Nat.le_refl _)
  have d0 := later_cell S0.hg.c0
  have d1 := later_cell S0.hg.c1
  have d2 := later_cell S0.hg.c2
  have e0 := later_cell T0.hg.c0
  have e1 := later_cell T0.hg.c1
  have e2 := later_cell T0.hg.c2
  cases ha : rankB us gs ss r
  · have HE := Lib.hid (alike_a (us' := us') (gs' := gs') (ss' := ss') ha)
    rw [ha] at T1
    refine region_later (by kernel_rfl) (by kernel_rfl) ?_
    repeat (go_big_quiet_step (first | (go_at_call 36; with_reducible exact later_call (T1.out _)) | (go_at_call 36; with_reducible exact later_call (T2.out _)) | (go_at_call 43; with_reducible exact later_call (T3.out _))))
    refine wpQuiet_nil ?_
    rintro w2 ⟨⟨_, hbk⟩, rfl⟩
    go_wp2_with fail
    go_ret
    exact ⟨ret_bool HE.out.symm, (S0.next hbk).hg.old⟩
  cases hb : rankB us' gs' ss' r
  · have HE := Lib.hid (alike_b (us := us) (gs := gs) (ss := ss) hb)
    rw [ha] at T1
    rw [hb] at T2
    refine region_later (by kernel_rfl) (by kernel_rfl) ?_
    repeat (go_big_quiet_step (first | (go_at_call 36; with_reducible exact later_call (T1.out _)) | (go_at_call 36; with_reducible exact later_call (T2.out _)) | (go_at_call 43; with_reducible exact later_call (T3.out _))))
    refine wpQuiet_nil ?_
    rintro w2 ⟨⟨_, hbk⟩, rfl⟩
    go_wp2_with fail
    go_ret
    exact ⟨ret_bool HE.out.symm, (S0.next hbk).hg.old⟩
  cases hc : (eqI us us' && eqI gs gs')
  · have HE := Lib.hid (alike_c (ss := ss) (ss' := ss') (r := r) hc)
    rw [ha] at T1
    rw [hb] at T2
    rw [hc] at T3
    refine region_later (by kernel_rfl) (by kernel_rfl) ?_
    repeat (go_big_quiet_step (first | (go_at_call 36; with_reducible exact later_call (T1.out _)) | (go_at_call 36; with_reducible exact later_call (T2.out _)) | (go_at_call 43; with_reducible exact later_call (T3.out _))))
    refine wpQuiet_nil ?_
    rintro w2 ⟨⟨_, hbk⟩, rfl⟩
    go_wp2_with fail
    go_ret
    exact ⟨ret_bool HE.out.symm, (S0.next hbk).hg.old⟩
  have HE := Lib.hid (alike_d ha hb hc)
  rw [ha] at T1
  rw [hb] at T2
  rw [hc] at T3
  have T4 := Lib.hid (fun (W' : World) (k : Below W.heap.size W W') => iViewOf_any W'.heap.size (.slice A us.length c) (.slice A' gs.length c') (.slice A2 ss.length c2) us gs ss r W' ((S0.next k).hg.see.more (S0.next k).hg.le) ((S0.next k).hg.gat.more (S0.next k).hg.le) ((S0.next k).sn.more (S0.next k).hg.le) (Nat.le_refl _))
  have T5 := Lib.hid (fun (W' : World) (k : Below W.heap.size W W') => iViewOf_any W'.heap.size (.slice A3 us'.length c3) (.slice A4 gs'.length c4) (.slice A5 ss'.length c5) us' gs' ss' r W' ((T0.next k).hg.see.more (T0.next k).hg.le) ((T0.next k).hg.gat.more (T0.next k).hg.le) ((T0.next k).sn.more (T0.next k).hg.le) (Nat.le_refl _))
  have k0 : Below W.heap.size W W.drew := (Below.refl _ _).drew
  have HU := Lib.hid (fun (W' : World) (k : Below W.heap.size W W') => T1.out ⟨W', k⟩)
  have HV := Lib.hid (fun (W' : World) (k : Below W.heap.size W W') => T2.out ⟨W', k⟩)
  have HX := Lib.hid (fun (W' : World) (k : Below W.heap.size W W') => T3.out ⟨W', k⟩)
  have HH := Lib.hid (fun (W' : World) (k : Below W.heap.size W W') => hold6n S0 T0 k)
  have HF := Lib.hid (fun (W' : World) (k : Below W.heap.size W W') => (S0.next k).hg.old)
  clear S0 T0 d0 d1 d2 e0 e1 e2 T1 T2 T3 ha hb hc
  generalize vwS us gs ss r = xs at *
  generalize vwS us' gs' ss' r = ys at *
  go_region_held3 (fun wq => (wq.cell? ⟨o, 0, none⟩ = some (.slice A us.length c) ∧ wq.cell? ⟨o, 1, none⟩ = some (.slice A' gs.length c') ∧ wq.cell? ⟨o, 2, none⟩ = some (.slice A2 ss.length c2)) ∧ (wq.cell? ⟨o + 1, 0, none⟩ = some (.slice A3 us'.length c3) ∧ wq.cell? ⟨o + 1, 1, none⟩ = some (.slice A4 gs'.length c4) ∧ wq.cell? ⟨o + 1, 2, none⟩ = some (.slice A5 ss'.length c5)) ∧ Below W.heap.size W wq)
    (first | exact HH.out _ (by assumption))
    (first | (go_at_call 36; refine (HV.out _ kx).mono ?_; rintro e wy ⟨rfl, by'⟩; have ky := below_then kx by' (Nat.le_refl _)) |
      (go_at_call 36; refine (HU.out _ k0).mono ?_; rintro e wx ⟨rfl, bx⟩; have kx := below_then k0 bx (Nat.le_refl _)) |
      (go_at_call 43; refine (HX.out _ ky).mono ?_; rintro e wz ⟨rfl, bz⟩; have kz := below_then ky bz (Nat.le_refl _)) |
      (go_at_call 13; refine (T5.out _ ka).mono ?_; rintro e wb ⟨vb, lb, rfl, ob, bb⟩; have kb := below_then ka bb (Nat.le_refl _)) |
      (go_at_call 13; refine (T4.out _ kz).mono ?_; rintro e wa ⟨va, la, rfl, oa, ba⟩; have ka := below_then kz ba (Nat.le_refl _)) |
      (go_at_call 44; refine (equalSS_any wb.heap.size _ _ xs ys _ ((oa.see.below bb).more bb.size) ob.see).mono ?_; rintro e wc ⟨rfl, n, rfl⟩; have kc := below_drewN kb n))
  go_wp2_with fail
  go_ret
  exact ⟨ret_bool HE.out.symm, HF.out _ kc⟩

end Go.Proofs.Ytigcbegeaikfcaa
