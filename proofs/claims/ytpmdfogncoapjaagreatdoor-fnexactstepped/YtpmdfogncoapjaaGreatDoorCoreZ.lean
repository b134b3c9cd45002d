/- Layer 9 (the player): the model's Stepped. No conditions but those typed. -/
import Derived.Test.YtpmdfogncoapjaaGreatDoorCoreY
import Derived.Test.YtpmdfogncoapjaaGreatDoorCoreC
namespace Go.Proofs.YtpmdfogncoapjaaGreatDoor
open Go.RowKit
set_option linter.unusedVariables false

def SteppedOut (st : St) (w : World) (e : Ending) (w' : World) : Prop :=
  ∃ u1 u2 u3, e = .returned (stepVal st.c.pl u1 u2 u3 st.c.cd st.says st.gate st.val) ∧ OwnC w' w.heap.size u1 u2 u3 st.c.pile st.c.bxs st.c.rds ∧ Below w.heap.size w w' ∧ nilOk u1 ∧ nilOk u2 ∧ nilOk u3
theorem SteppedOut.mk {st : St} {w w' : World} {u1 u2 u3 : Value} (o : OwnC w' w.heap.size u1 u2 u3 st.c.pile st.c.bxs st.c.rds) (b : Below w.heap.size w w') (n1 : nilOk u1) (n2 : nilOk u2) (n3 : nilOk u3) :
    SteppedOut st w (.returned (stepVal st.c.pl u1 u2 u3 st.c.cd st.says st.gate st.val)) w' := ⟨u1, u2, u3, rfl, o, b, n1, n2, n3⟩

set_option maxHeartbeats 8000000 in
set_option maxRecDepth 100000 in
theorem sStepped_any (B : Nat) (x y : Int) (v1 v2 v3 vo vs : Value) (zs : List Int) (bs : List Bx) (rs : List Int) (os : List Opv) (ss : List (List Int)) (w : World) (s1 : SeeI w B v1 zs) (s2 : SeeBx w B v2 bs) (s3 : SeeI w B v3 rs) (so : SeeOp w B vo os) (sv : SeeSS w B vs ss) (hB : B ≤ w.heap.size)
    (n1 : nilOk v1) (n2 : nilOk v2) (n3 : nilOk v3) (hS : shortB bs) (hO : shortOp os) :
    Calls Tryz.prog 10 #[.agg #[.int .i64 x, v1, v2, v3, .int .i64 y], vo, vs] w (SteppedOut (steppedS ⟨x, zs, bs, rs, y⟩ os ss) w) := by
  obtain ⟨A1, c1, rfl⟩ := s1.shape
  obtain ⟨A2, c2, rfl⟩ := s2.shape
  obtain ⟨A3, c3, rfl⟩ := s3.shape
  obtain ⟨Ao, co, rfl⟩ := so.shape
  obtain ⟨As, cs, rfl⟩ := sv.shape
  have H0 : Hid (∃ W, W = (w.alloc (.cells #[.int .i64 x, .slice A1 zs.length c1, .slice A2 bs.length c2, .slice A3 rs.length c3, .int .i64 y] 27)).alloc
      (.cells #[.int .i64 0, .slice none 0 0, .slice none 0 0, .slice none 0 0, .int .i64 0, .bool false, .int .i64 0, .int .i64 0] 33) ∧
      (W.heap[w.heap.size]? = some (.cells #[.int .i64 x, .slice A1 zs.length c1, .slice A2 bs.length c2, .slice A3 rs.length c3, .int .i64 y] 27 (0, 0)) ∧
      W.heap[w.heap.size + 1]? = some (.cells #[.int .i64 0, .slice none 0 0, .slice none 0 0, .slice none 0 0, .int .i64 0, .bool false, .int .i64 0, .int .i64 0] 33 (0, 0))) ∧ Below w.heap.size w W ∧ W.heap.size = w.heap.size + 2) :=
    Lib.hid ⟨_, rfl, ⟨alloc_old (heap_alloc_new _ _) _, alloc_at _ _ (by simp) rfl⟩, ((Below.refl _ _).alloc (Nat.le_refl _) _).alloc (by simp) _, by simp⟩
  obtain ⟨st, hst⟩ : ∃ st, st = steppedS ⟨x, zs, bs, rs, y⟩ os ss := ⟨_, rfl⟩
  rw [← hst]
  have HST := Lib.hid hst
  clear hst
  go_enter Tryz.func10, Tryz.ntmps10
  go_wp2_with fail
  obtain ⟨W, hW, hrow, bW, hsz⟩ := H0.out
  rw [← hW]
  clear hW H0
  have HN := Lib.hid hsz
  clear hsz
  have hBW := Nat.le_trans hB bW.size
  refine (sCoreOk_any B x y _ _ _ zs bs rs W (s1.below (bW.mono hB)) (s2.below (bW.mono hB)) (s3.below (bW.mono hB)) hBW hS).mono ?_
  rintro e w1 ⟨rfl, b1⟩
  replace hrow := two_later hrow b1
  replace bW := below_then bW b1 (Nat.le_refl _)
  have hV : w.heap.size + 2 ≤ w1.heap.size := by have := b1.size; have := HN.out; omega
  have s1' := s1.below (bW.mono hB)
  have s2' := s2.below (bW.mono hB)
  have s3' := s3.below (bW.mono hB)
  have so' := so.below (bW.mono hB)
  have sv' := sv.below (bW.mono hB)
  have RK := hrow.1
  have RR := hrow.2
  clear hrow s1 s2 s3 so sv b1
  have hB1 : B ≤ w1.heap.size := by omega
  obtain ⟨p0, p1, p2, p3, p4⟩ := cells5 RK
  cases hC : coreB x zs bs rs y
  · obtain rfl : st = ⟨⟨0, [], [], [], 4⟩, false, 0, 0⟩ := by rw [HST.out]; unfold steppedS crB; rw [hC]; rfl
    have OC : OwnC w1 (w.heap.size + 2) (.slice none 0 0) (.slice none 0 0) (.slice none 0 0) [] [] [] := ⟨OwnI.nil _ _ _, OwnN.nil _ _ _ _, OwnI.nil _ _ _, fun _ h => by simp [Value.ownBlock] at h, fun _ h => by simp [Value.ownBlock] at h, fun _ h => by simp [Value.ownBlock] at h⟩
    clear p0 p1 p2 p3 p4 RK s1' s2' s3' so' sv' hC
    obtain ⟨r0, r1, r2, r3, r4, r5, r6, r7⟩ := cells8 RR
    have f0 := frozen_row (k := 0) RR
    have f1 := frozen_row (k := 1) RR
    have f2 := frozen_row (k := 2) RR
    have f3 := frozen_row (k := 3) RR
    have f4 := frozen_row (k := 4) RR
    have f5 := frozen_row (k := 5) RR
    have f6 := frozen_row (k := 6) RR
    have f7 := frozen_row (k := 7) RR
    have ZB := Lib.hid (set8_blk RR (.int .i64 (0)) (.slice none 0 0) (.slice none 0 0) (.slice none 0 0) (.int .i64 (4)) (.bool false) (.int .i64 0) (.int .i64 0))
    have OZ := Lib.hid (OC.set8 (N := w.heap.size + 1) (fun q => by have := (OC.lt _ q).1; omega) (.int .i64 (0)) (.slice none 0 0) (.slice none 0 0) (.slice none 0 0) (.int .i64 (4)) (.bool false) (.int .i64 0) (.int .i64 0))
    have BZ := Lib.hid (set8_below bW (show w.heap.size ≤ w.heap.size + 1 by omega) (.int .i64 (0)) (.slice none 0 0) (.slice none 0 0) (.slice none 0 0) (.int .i64 (4)) (.bool false) (.int .i64 0) (.int .i64 0))
    unfold set8 at ZB OZ BZ
    clear RR OC bW
    go_wp2_with fail
    generalize World.setCell _ _ _ = Wc at *
    obtain ⟨y0, y1, y2, y3, y4, y5, y6, y7⟩ := cells8 ZB.out
    exact bodyPost_ret (v := .agg #[.int .i64 (0), .slice none 0 0, .slice none 0 0, .slice none 0 0, .int .i64 (4), .bool false, .int .i64 0, .int .i64 0]) (by simp [results, Tryz.results10, go_sem, y0, y1, y2, y3, y4, y5, y6, y7]) rfl (SteppedOut.mk (OZ.out.less (by omega)) BZ.out rfl rfl rfl)
  · have HRC := Lib.hid (coreB_right hC)
    by_cases hy : y = 0
    · subst hy
      have C1 := Lib.hid (l8Code_any B _ os w1 so' hB1 hO)
      go_wp2_with fail
      refine C1.out.mono ?_
      clear C1
      rintro e w2 ⟨rfl, b2⟩
      replace RK := row_later RK b2
      replace RR := row_later RR b2
      replace bW := below_then bW b2 (Nat.le_refl _)
      replace s1' := s1'.below (b2.mono hB1)
      replace s2' := s2'.below (b2.mono hB1)
      replace s3' := s3'.below (b2.mono hB1)
      replace so' := so'.below (b2.mono hB1)
      replace sv' := sv'.below (b2.mono hB1)
      replace hV := Nat.le_trans hV b2.size
      replace hB1 := Nat.le_trans hB1 b2.size
      clear b2 p0 p1 p2 p3 p4
      obtain ⟨p0, p1, p2, p3, p4⟩ := cells5 RK
      cases hco : codeB os
      · obtain rfl : st = endS ⟨x, zs, bs, rs, 0⟩ 4 := by rw [HST.out]; unfold steppedS crB; rw [hC, hco]; rfl
        clear hC hco
        go_wp2_with fail
        refine (l9Copy_any B x 0 _ _ _ zs bs rs _ s1' s2' s3' hB1 n1 n2 n3 (by have := HRC.out.zl; omega) (by have := HRC.out.b12; omega) (by have := HRC.out.r4; omega)).mono ?_
        rintro e w4 ⟨g1, g2, g3, d1, d2, d3, rfl, OC, b4⟩
        replace OC := OC.less hV
        replace RR := row_later RR b4
        replace bW := below_then bW b4 (Nat.le_refl _)
        clear b4 p0 p1 p2 p3 p4 RK s1' s2' s3' so' sv'
        go_wp2_with fail
        refine (l9Bad_any x 0 _ _ _ _ _ _ _ _ _ _).mono ?_
        rintro e w5 ⟨rfl, b5⟩
        replace OC := OC.later b5
        replace RR := row_later RR b5
        replace bW := below_then bW b5 (Nat.le_refl _)
        clear b5
        obtain ⟨r0, r1, r2, r3, r4, r5, r6, r7⟩ := cells8 RR
        have f0 := frozen_row (k := 0) RR
        have f1 := frozen_row (k := 1) RR
        have f2 := frozen_row (k := 2) RR
        have f3 := frozen_row (k := 3) RR
        have f4 := frozen_row (k := 4) RR
        have f5 := frozen_row (k := 5) RR
        have f6 := frozen_row (k := 6) RR
        have f7 := frozen_row (k := 7) RR
        have ZB := Lib.hid (set8_blk RR (.int .i64 (x)) (.slice (some ⟨g1, 0, none⟩) zs.length d1) (.slice (some ⟨g2, 0, none⟩) bs.length d2) (.slice (some ⟨g3, 0, none⟩) rs.length d3) (.int .i64 (4)) (.bool false) (.int .i64 0) (.int .i64 0))
        have OZ := Lib.hid (OC.set8 (N := w.heap.size + 1) (fun q => by have := (OC.lt _ q).1; omega) (.int .i64 (x)) (.slice (some ⟨g1, 0, none⟩) zs.length d1) (.slice (some ⟨g2, 0, none⟩) bs.length d2) (.slice (some ⟨g3, 0, none⟩) rs.length d3) (.int .i64 (4)) (.bool false) (.int .i64 0) (.int .i64 0))
        have BZ := Lib.hid (set8_below bW (show w.heap.size ≤ w.heap.size + 1 by omega) (.int .i64 (x)) (.slice (some ⟨g1, 0, none⟩) zs.length d1) (.slice (some ⟨g2, 0, none⟩) bs.length d2) (.slice (some ⟨g3, 0, none⟩) rs.length d3) (.int .i64 (4)) (.bool false) (.int .i64 0) (.int .i64 0))
        unfold set8 at ZB OZ BZ
        clear RR OC bW
        go_wp2_with fail
        generalize World.setCell _ _ _ = Wc at *
        obtain ⟨y0, y1, y2, y3, y4, y5, y6, y7⟩ := cells8 ZB.out
        exact bodyPost_ret (v := .agg #[.int .i64 (x), .slice (some ⟨g1, 0, none⟩) zs.length d1, .slice (some ⟨g2, 0, none⟩) bs.length d2, .slice (some ⟨g3, 0, none⟩) rs.length d3, .int .i64 (4), .bool false, .int .i64 0, .int .i64 0]) (by simp [results, Tryz.results10, go_sem, y0, y1, y2, y3, y4, y5, y6, y7]) rfl (SteppedOut.mk (OZ.out.less (by omega)) BZ.out trivial trivial trivial)
      · have C2 := Lib.hid (l9Slots_any B _ ss w2 sv')
        have HCO := Lib.hid hco
        go_wp2_with fail
        refine C2.out.mono ?_
        clear C2
        rintro e w3 ⟨rfl, rfl⟩
        cases hso : slotsB ss
        · obtain rfl : st = endS ⟨x, zs, bs, rs, 0⟩ 4 := by rw [HST.out]; unfold steppedS crB; rw [hC, hco, hso]; rfl
          clear hC hco hso
          go_wp2_with fail
          refine (l9Copy_any B x 0 _ _ _ zs bs rs _ s1' s2' s3' hB1 n1 n2 n3 (by have := HRC.out.zl; omega) (by have := HRC.out.b12; omega) (by have := HRC.out.r4; omega)).mono ?_
          rintro e w4 ⟨g1, g2, g3, d1, d2, d3, rfl, OC, b4⟩
          replace OC := OC.less hV
          replace RR := row_later RR b4
          replace bW := below_then bW b4 (Nat.le_refl _)
          clear b4 p0 p1 p2 p3 p4 RK s1' s2' s3' so' sv'
          go_wp2_with fail
          refine (l9Bad_any x 0 _ _ _ _ _ _ _ _ _ _).mono ?_
          rintro e w5 ⟨rfl, b5⟩
          replace OC := OC.later b5
          replace RR := row_later RR b5
          replace bW := below_then bW b5 (Nat.le_refl _)
          clear b5
          obtain ⟨r0, r1, r2, r3, r4, r5, r6, r7⟩ := cells8 RR
          have f0 := frozen_row (k := 0) RR
          have f1 := frozen_row (k := 1) RR
          have f2 := frozen_row (k := 2) RR
          have f3 := frozen_row (k := 3) RR
          have f4 := frozen_row (k := 4) RR
          have f5 := frozen_row (k := 5) RR
          have f6 := frozen_row (k := 6) RR
          have f7 := frozen_row (k := 7) RR
          have ZB := Lib.hid (set8_blk RR (.int .i64 (x)) (.slice (some ⟨g1, 0, none⟩) zs.length d1) (.slice (some ⟨g2, 0, none⟩) bs.length d2) (.slice (some ⟨g3, 0, none⟩) rs.length d3) (.int .i64 (4)) (.bool false) (.int .i64 0) (.int .i64 0))
          have OZ := Lib.hid (OC.set8 (N := w.heap.size + 1) (fun q => by have := (OC.lt _ q).1; omega) (.int .i64 (x)) (.slice (some ⟨g1, 0, none⟩) zs.length d1) (.slice (some ⟨g2, 0, none⟩) bs.length d2) (.slice (some ⟨g3, 0, none⟩) rs.length d3) (.int .i64 (4)) (.bool false) (.int .i64 0) (.int .i64 0))
          have BZ := Lib.hid (set8_below bW (show w.heap.size ≤ w.heap.size + 1 by omega) (.int .i64 (x)) (.slice (some ⟨g1, 0, none⟩) zs.length d1) (.slice (some ⟨g2, 0, none⟩) bs.length d2) (.slice (some ⟨g3, 0, none⟩) rs.length d3) (.int .i64 (4)) (.bool false) (.int .i64 0) (.int .i64 0))
          unfold set8 at ZB OZ BZ
          clear RR OC bW
          go_wp2_with fail
          generalize World.setCell _ _ _ = Wc at *
          obtain ⟨y0, y1, y2, y3, y4, y5, y6, y7⟩ := cells8 ZB.out
          exact bodyPost_ret (v := .agg #[.int .i64 (x), .slice (some ⟨g1, 0, none⟩) zs.length d1, .slice (some ⟨g2, 0, none⟩) bs.length d2, .slice (some ⟨g3, 0, none⟩) rs.length d3, .int .i64 (4), .bool false, .int .i64 0, .int .i64 0]) (by simp [results, Tryz.results10, go_sem, y0, y1, y2, y3, y4, y5, y6, y7]) rfl (SteppedOut.mk (OZ.out.less (by omega)) BZ.out trivial trivial trivial)
        · have HSS : Hid (st = stepS ⟨x, zs, bs, rs, 0⟩ os ss) := Lib.hid (by rw [HST.out]; unfold steppedS crB; rw [hC, hco, hso]; rfl)
          clear hC hco hso HST
          have CD := Lib.hid (fun W a1 a2 a3 a4 a5 a6 => l9Step_any B x 0 (.slice A1 zs.length c1) (.slice A2 bs.length c2) (.slice A3 rs.length c3) (.slice Ao os.length co) (.slice As ss.length cs) zs bs rs os ss W a1 a2 a3 a4 a5 a6 n1 n2 n3 HRC.out (fun _ => HCO.out))
          go_wp2_with fail
          refine (CD.out _ s1' s2' s3' so' sv' hB1).mono ?_
          rintro e w4 ⟨g1, g2, g3, d1, d2, d3, rfl, OC, b4⟩
          replace OC := OC.less hV
          replace RR := (b4.block (w.heap.size + 1) (by omega)).trans RR
          replace bW := below_then bW b4 (Nat.le_refl _)
          rw [← HSS.out] at OC ⊢
          clear b4 p0 p1 p2 p3 p4 RK s1' s2' s3' so' sv' CD HSS
          obtain ⟨r0, r1, r2, r3, r4, r5, r6, r7⟩ := cells8 RR
          have f0 := frozen_row (k := 0) RR
          have f1 := frozen_row (k := 1) RR
          have f2 := frozen_row (k := 2) RR
          have f3 := frozen_row (k := 3) RR
          have f4 := frozen_row (k := 4) RR
          have f5 := frozen_row (k := 5) RR
          have f6 := frozen_row (k := 6) RR
          have f7 := frozen_row (k := 7) RR
          have ZB := Lib.hid (set8_blk RR (.int .i64 (st.c.pl)) (.slice (some ⟨g1, 0, none⟩) st.c.pile.length d1) (.slice (some ⟨g2, 0, none⟩) st.c.bxs.length d2) (.slice (some ⟨g3, 0, none⟩) st.c.rds.length d3) (.int .i64 (st.c.cd)) (.bool st.says) (.int .i64 st.gate) (.int .i64 st.val))
          have OZ := Lib.hid (OC.set8 (N := w.heap.size + 1) (fun q => by have := (OC.lt _ q).1; omega) (.int .i64 (st.c.pl)) (.slice (some ⟨g1, 0, none⟩) st.c.pile.length d1) (.slice (some ⟨g2, 0, none⟩) st.c.bxs.length d2) (.slice (some ⟨g3, 0, none⟩) st.c.rds.length d3) (.int .i64 (st.c.cd)) (.bool st.says) (.int .i64 st.gate) (.int .i64 st.val))
          have BZ := Lib.hid (set8_below bW (show w.heap.size ≤ w.heap.size + 1 by omega) (.int .i64 (st.c.pl)) (.slice (some ⟨g1, 0, none⟩) st.c.pile.length d1) (.slice (some ⟨g2, 0, none⟩) st.c.bxs.length d2) (.slice (some ⟨g3, 0, none⟩) st.c.rds.length d3) (.int .i64 (st.c.cd)) (.bool st.says) (.int .i64 st.gate) (.int .i64 st.val))
          unfold set8 at ZB OZ BZ
          clear RR OC bW
          go_wp2_with fail
          generalize World.setCell _ _ _ = Wc at *
          obtain ⟨y0, y1, y2, y3, y4, y5, y6, y7⟩ := cells8 ZB.out
          exact bodyPost_ret (v := .agg #[.int .i64 (st.c.pl), .slice (some ⟨g1, 0, none⟩) st.c.pile.length d1, .slice (some ⟨g2, 0, none⟩) st.c.bxs.length d2, .slice (some ⟨g3, 0, none⟩) st.c.rds.length d3, .int .i64 (st.c.cd), .bool st.says, .int .i64 st.gate, .int .i64 st.val]) (by simp [results, Tryz.results10, go_sem, y0, y1, y2, y3, y4, y5, y6, y7]) rfl (SteppedOut.mk (OZ.out.less (by omega)) BZ.out trivial trivial trivial)
    · have hy' : (y == 0) = false := by simpa using hy
      have HSS : Hid (st = stepS ⟨x, zs, bs, rs, y⟩ os ss) := Lib.hid (by rw [HST.out]; unfold steppedS crB; rw [hC, if_neg (by simp), if_neg (fun q => hy q.1)])
      have HNY := Lib.hid hy
      clear hC HST hy
      have CD := Lib.hid (fun W a1 a2 a3 a4 a5 a6 => l9Step_any B x y (.slice A1 zs.length c1) (.slice A2 bs.length c2) (.slice A3 rs.length c3) (.slice Ao os.length co) (.slice As ss.length cs) zs bs rs os ss W a1 a2 a3 a4 a5 a6 n1 n2 n3 HRC.out (fun q => absurd q HNY.out))
      go_wp2_with fail
      refine (CD.out _ s1' s2' s3' so' sv' hB1).mono ?_
      rintro e w4 ⟨g1, g2, g3, d1, d2, d3, rfl, OC, b4⟩
      replace OC := OC.less hV
      replace RR := (b4.block (w.heap.size + 1) (by omega)).trans RR
      replace bW := below_then bW b4 (Nat.le_refl _)
      rw [← HSS.out] at OC ⊢
      clear b4 p0 p1 p2 p3 p4 RK s1' s2' s3' so' sv' CD HSS
      obtain ⟨r0, r1, r2, r3, r4, r5, r6, r7⟩ := cells8 RR
      have f0 := frozen_row (k := 0) RR
      have f1 := frozen_row (k := 1) RR
      have f2 := frozen_row (k := 2) RR
      have f3 := frozen_row (k := 3) RR
      have f4 := frozen_row (k := 4) RR
      have f5 := frozen_row (k := 5) RR
      have f6 := frozen_row (k := 6) RR
      have f7 := frozen_row (k := 7) RR
      have ZB := Lib.hid (set8_blk RR (.int .i64 (st.c.pl)) (.slice (some ⟨g1, 0, none⟩) st.c.pile.length d1) (.slice (some ⟨g2, 0, none⟩) st.c.bxs.length d2) (.slice (some ⟨g3, 0, none⟩) st.c.rds.length d3) (.int .i64 (st.c.cd)) (.bool st.says) (.int .i64 st.gate) (.int .i64 st.val))
      have OZ := Lib.hid (OC.set8 (N := w.heap.size + 1) (fun q => by have := (OC.lt _ q).1; omega) (.int .i64 (st.c.pl)) (.slice (some ⟨g1, 0, none⟩) st.c.pile.length d1) (.slice (some ⟨g2, 0, none⟩) st.c.bxs.length d2) (.slice (some ⟨g3, 0, none⟩) st.c.rds.length d3) (.int .i64 (st.c.cd)) (.bool st.says) (.int .i64 st.gate) (.int .i64 st.val))
      have BZ := Lib.hid (set8_below bW (show w.heap.size ≤ w.heap.size + 1 by omega) (.int .i64 (st.c.pl)) (.slice (some ⟨g1, 0, none⟩) st.c.pile.length d1) (.slice (some ⟨g2, 0, none⟩) st.c.bxs.length d2) (.slice (some ⟨g3, 0, none⟩) st.c.rds.length d3) (.int .i64 (st.c.cd)) (.bool st.says) (.int .i64 st.gate) (.int .i64 st.val))
      unfold set8 at ZB OZ BZ
      clear RR OC bW
      go_wp2_with fail
      generalize World.setCell _ _ _ = Wc at *
      obtain ⟨y0, y1, y2, y3, y4, y5, y6, y7⟩ := cells8 ZB.out
      exact bodyPost_ret (v := .agg #[.int .i64 (st.c.pl), .slice (some ⟨g1, 0, none⟩) st.c.pile.length d1, .slice (some ⟨g2, 0, none⟩) st.c.bxs.length d2, .slice (some ⟨g3, 0, none⟩) st.c.rds.length d3, .int .i64 (st.c.cd), .bool st.says, .int .i64 st.gate, .int .i64 st.val]) (by simp [results, Tryz.results10, go_sem, y0, y1, y2, y3, y4, y5, y6, y7]) rfl (SteppedOut.mk (OZ.out.less (by omega)) BZ.out trivial trivial trivial)

end Go.Proofs.YtpmdfogncoapjaaGreatDoor
