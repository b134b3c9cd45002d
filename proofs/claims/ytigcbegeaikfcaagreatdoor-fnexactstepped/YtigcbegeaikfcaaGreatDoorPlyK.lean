/- Layer 9 (the player): the program's ended and Stepped. Condition of Stepped: the listed variable impl.opForms holds what the program's text lays (Forms). Layer 9 (the player): the program's Stepped, whole; how long what it answers is; what the law's walk carries along. Condition of Stepped: the listed variable impl.opForms holds what the program's text lays (Forms). -/
import Derived.Test.YtigcbegeaikfcaaGreatDoorPlyH
import Derived.Test.YtigcbegeaikfcaaGreatDoorPlyD
import Derived.Test.YtigcbegeaikfcaaGreatDoorCoreX
import Derived.Test.YtigcbegeaikfcaaGreatDoorSlotA
import Derived.Test.YtigcbegeaikfcaaGreatDoorOpL
namespace Go.Proofs.YtigcbegeaikfcaaGreatDoor
open Go.RowKit
set_option linter.unusedVariables false

theorem own_nilOk {w : World} {B k n : Nat} {e : TypeId} {v : Value} {xs : List Value} (h : w.ownsRow B e k v n xs) : nilOk v := by
  rcases h.2 with ⟨rfl, _⟩ | ⟨g, c, cur, rfl, _⟩
  · rfl
  · trivial

set_option maxHeartbeats 4000000 in
set_option maxRecDepth 100000 in
theorem iEnded_any (B : Nat) (x y k : Int) (v1 v2 v3 : Value) (zs : List Int) (bs : List Bx) (rs : List Int) (w : World) (s1 : SeeI w B v1 zs) (s2 : SeeBx w B v2 bs) (s3 : SeeI w B v3 rs) (hB : B ≤ w.heap.size)
    (n1 : nilOk v1) (n2 : nilOk v2) (n3 : nilOk v3) (hz : zs.length ≤ 1048576) (hb : bs.length ≤ 1048576) (hr : rs.length ≤ 1048576) :
    Calls Tryz.prog 46 #[.agg #[.int .i64 x, v1, v2, v3, .int .i64 y], .int .i64 k] w (CopOut w x zs bs rs k) := by
  obtain ⟨A1, c1, rfl⟩ := s1.shape
  obtain ⟨A2, c2, rfl⟩ := s2.shape
  obtain ⟨A3, c3, rfl⟩ := s3.shape
  have H0 : Hid (∃ W, W = (w.alloc (.cells #[.int .i64 x, .slice A1 zs.length c1, .slice A2 bs.length c2, .slice A3 rs.length c3, .int .i64 y] 27)).alloc
      (.cells #[.int .i64 0, .slice none 0 0, .slice none 0 0, .slice none 0 0, .int .i64 0] 27) ∧
      (W.heap[w.heap.size]? = some (.cells #[.int .i64 x, .slice A1 zs.length c1, .slice A2 bs.length c2, .slice A3 rs.length c3, .int .i64 y] 27 (0, 0)) ∧
      W.heap[w.heap.size + 1]? = some (.cells #[.int .i64 0, .slice none 0 0, .slice none 0 0, .slice none 0 0, .int .i64 0] 27 (0, 0))) ∧ Below w.heap.size w W ∧ W.heap.size = w.heap.size + 2) :=
    Lib.hid ⟨_, rfl, ⟨alloc_old (heap_alloc_new _ _) _, by have := heap_alloc_new (w.alloc (.cells #[.int .i64 x, .slice A1 zs.length c1, .slice A2 bs.length c2, .slice A3 rs.length c3, .int .i64 y] 27)) (.cells #[.int .i64 0, .slice none 0 0, .slice none 0 0, .slice none 0 0, .int .i64 0] 27); rwa [World.size_alloc] at this⟩,
      ((Below.refl _ _).alloc (Nat.le_refl _) _).alloc (by simp) _, by simp⟩
  go_enter Tryz.func46, Tryz.ntmps46
  go_upto_region 1 with fail
  obtain ⟨W, hW, h2, bW, hsz⟩ := H0.out
  rw [← hW]
  clear hW H0
  have HN := Lib.hid hsz
  clear hsz
  obtain ⟨p0, p1, p2, p3, p4⟩ := cells5 h2.1
  have f4 := frozen_row (k := 4) h2.1
  go_upto_region 2 with fail
  replace h2 := two_set (k := 4) (u := .int .i64 k) h2
  simp only [List.setIfInBounds_toArray, List.set_cons_succ, List.set_cons_zero] at h2
  replace bW := bW.setCell (show w.heap.size ≤ (⟨w.heap.size, 4, none⟩ : Addr).block by simp) (.int .i64 k)
  have hs1 : (W.setCell ⟨w.heap.size, 4, none⟩ (.int .i64 k)).heap.size = W.heap.size := by simp [World.setCell]
  clear p0 p1 p2 p3 p4 f4
  generalize World.setCell _ _ _ = W1 at *
  have HN1 := Lib.hid (hs1.trans HN.out)
  clear hs1
  obtain ⟨p0, p1, p2, p3, p4⟩ := cells5 h2.1
  have k1 := s1.below (bW.mono hB)
  have k2 := s2.below (bW.mono hB)
  have k3 := s3.below (bW.mono hB)
  go_wp2_with fail
  refine (iCopied_any B x k _ _ _ zs bs rs W1 k1 k2 k3 (Nat.le_trans hB bW.size) n1 n2 n3 hz hb hr).mono ?_
  rintro e w2 ⟨u1, u2, u3, rfl, oC, b2, m1, m2, m3⟩
  have r2 := two_later h2 b2
  have bC := below_then bW b2 (Nat.le_refl _)
  rw [HN1.out] at oC
  obtain ⟨D1, q1, e1⟩ := oC.o1.see.shape
  obtain ⟨D2, q2, e2⟩ := oC.o2.see.shape
  obtain ⟨D3, q3, e3⟩ := oC.o3.see.shape
  subst e1 e2 e3
  obtain ⟨q0, q1', q2', q3', q4⟩ := cells5 r2.2
  have f0 := frozen_row (k := 0) r2.2
  have f1 := frozen_row (k := 1) r2.2
  have f2 := frozen_row (k := 2) r2.2
  have f3 := frozen_row (k := 3) r2.2
  have f4 := frozen_row (k := 4) r2.2
  have hno : ¬ rowsC (.slice D1 zs.length q1) (.slice D2 bs.length q2) (.slice D3 rs.length q3) (w.heap.size + 1) := fun q => by have := (oC.lt _ q).1; omega
  have ZB := Lib.hid (set5_blk r2.2 (.int .i64 x) (.slice D1 zs.length q1) (.slice D2 bs.length q2) (.slice D3 rs.length q3) (.int .i64 k))
  have BB := Lib.hid (set5_below bC (show w.heap.size ≤ w.heap.size + 1 by omega) (.int .i64 x) (.slice D1 zs.length q1) (.slice D2 bs.length q2) (.slice D3 rs.length q3) (.int .i64 k))
  have OO := Lib.hid ((oC.set5 (N := w.heap.size + 1) hno (.int .i64 x) (.slice D1 zs.length q1) (.slice D2 bs.length q2) (.slice D3 rs.length q3) (.int .i64 k)).less (show w.heap.size ≤ w.heap.size + 2 by omega))
  unfold set5 at ZB BB OO
  have HK := Lib.hid (And.intro m1 (And.intro m2 m3))
  clear r2 oC bC m1 m2 m3 hno h2 bW p0 p1 p2 p3 p4 k1 k2 k3 s1 s2 s3 b2
  go_wp2_with fail
  generalize World.setCell _ _ _ = W6 at *
  obtain ⟨y0, y1, y2, y3, y4⟩ := cells5 ZB.out
  exact bodyPost_ret (v := .agg #[.int .i64 x, .slice D1 zs.length q1, .slice D2 bs.length q2, .slice D3 rs.length q3, .int .i64 k]) (by simp [results, Tryz.results46, go_sem, y0, y1, y2, y3, y4]) rfl
    ⟨_, _, _, rfl, OO.out, BB.out, HK.out.1, HK.out.2.1, HK.out.2.2⟩

set_option maxHeartbeats 4000000 in
set_option maxRecDepth 100000 in
theorem iStepped_wrong
(B : Nat) (x y : Int) (v1 v2 v3 vo vs : Value) (zs : List Int) (bs : List Bx) (rs : List Int) (os : List Opv) (ss : List (List Int)) (w : World) (s1 : SeeI w B v1 zs) (s2 : SeeBx w B v2 bs) (s3 : SeeI w B v3 rs) (so : SeeOp w B vo os) (sv : SeeSS w B vs ss) (hB : B ≤ w.heap.size)
    (n1 : nilOk v1) (n2 : nilOk v2) (n3 : nilOk v3) (hS : shortB bs) (hO : shortOp os) (FW : Forms w)
    (hC : coreB x zs bs rs y = false) :
    Calls Tryz.prog 8 #[.agg #[.int .i64 x, v1, v2, v3, .int .i64 y], vo, vs] w
      (SteppedOut ⟨⟨0, [], [], [], 4⟩, false, 0, 0⟩ w) := by
  obtain ⟨A1, c1, rfl⟩ := s1.shape
  obtain ⟨A2, c2, rfl⟩ := s2.shape
  obtain ⟨A3, c3, rfl⟩ := s3.shape
  obtain ⟨Ao, co, rfl⟩ := so.shape
  obtain ⟨As, cs, rfl⟩ := sv.shape
  have H0 : Hid (∃ W, W = (w.alloc (.cells #[.int .i64 x, .slice A1 zs.length c1, .slice A2 bs.length c2, .slice A3 rs.length c3, .int .i64 y] 27)).alloc
      (.cells #[.int .i64 0, .slice none 0 0, .slice none 0 0, .slice none 0 0, .int .i64 0, .bool false, .int .i64 0, .int .i64 0] 33) ∧
      (W.heap[w.heap.size]? = some (.cells #[.int .i64 x, .slice A1 zs.length c1, .slice A2 bs.length c2, .slice A3 rs.length c3, .int .i64 y] 27 (0, 0)) ∧
      W.heap[w.heap.size + 1]? = some (.cells #[.int .i64 0, .slice none 0 0, .slice none 0 0, .slice none 0 0, .int .i64 0, .bool false, .int .i64 0, .int .i64 0] 33 (0, 0))) ∧ Below w.heap.size w W ∧ W.heap.size = w.heap.size + 2) :=
    Lib.hid ⟨_, rfl, ⟨alloc_old (heap_alloc_new _ _) _, alloc_at _ _ (by simp) rfl⟩, ((Below.refl _ _).alloc (Nat.le_refl _) _).alloc (by simp) _, by simp⟩
  go_enter Tryz.func8, Tryz.ntmps8
  go_wp2_with fail
  obtain ⟨W, hW, hrow, bW, hsz⟩ := H0.out
  rw [← hW]
  clear hW H0
  have HN := Lib.hid hsz
  clear hsz
  have hBW := Nat.le_trans hB bW.size
  refine (iCoreOk_any B x y _ _ _ zs bs rs W (s1.below (bW.mono hB)) (s2.below (bW.mono hB)) (s3.below (bW.mono hB)) hBW hS).mono ?_
  rintro e w1 ⟨rfl, b1⟩
  replace hrow := two_later hrow b1
  replace bW := below_then bW b1 (Nat.le_refl _)
  have hV : w.heap.size + 2 ≤ w1.heap.size := by have := b1.size; have := HN.out; omega
  have s1' := s1.below (bW.mono hB)
  have s2' := s2.below (bW.mono hB)
  have s3' := s3.below (bW.mono hB)
  have so' := so.below (bW.mono hB)
  have sv' := sv.below (bW.mono hB)
  have FW' := FW.below bW
  have RK := hrow.1
  have RR := hrow.2
  clear hrow s1 s2 s3 so sv b1 FW
  have hB1 : B ≤ w1.heap.size := by omega
  obtain ⟨p0, p1, p2, p3, p4⟩ := cells5 RK
  rw [hC]
  have OC : OwnC w1 (w.heap.size + 2) (.slice none 0 0) (.slice none 0 0) (.slice none 0 0) [] [] [] := ⟨OwnI.nil _ _ _, OwnN.nil _ _ _ _, OwnI.nil _ _ _, fun _ h => by simp [Value.ownBlock] at h, fun _ h => by simp [Value.ownBlock] at h, fun _ h => by simp [Value.ownBlock] at h⟩
  clear p0 p1 p2 p3 p4 RK s1' s2' s3' so' sv' hC FW'
  obtain ⟨r0, r1, r2, r3, r4, r5, r6, r7⟩ := cells8 RR
  have f0 := frozen_row (k := 0) RR
  have f1 := frozen_row (k := 1) RR
  have f2 := frozen_row (k := 2) RR
  have f3 := frozen_row (k := 3) RR
  have f4 := frozen_row (k := 4) RR
  have f5 := frozen_row (k := 5) RR
  have f6 := frozen_row (k := 6) RR
  have f7 := frozen_row (k := 7) RR
  have ZB := Lib.hid (set8_blk RR (.int .i64 (0)) (.slice none 0 0) (.slice none 0 0) (.slice none 0 0) (.int .i64 (4)) (.bool false) (.int .i64 0) (.int .i64 0))
  have OZ := Lib.hid (OC.set8 (N := w.heap.size + 1) (fun q => by have := (OC.lt _ q).1; omega) (.int .i64 (0)) (.slice none 0 0) (.slice none 0 0) (.slice none 0 0) (.int .i64 (4)) (.bool false) (.int .i64 0) (.int .i64 0))
  have BZ := Lib.hid (set8_below bW (show w.heap.size ≤ w.heap.size + 1 by omega) (.int .i64 (0)) (.slice none 0 0) (.slice none 0 0) (.slice none 0 0) (.int .i64 (4)) (.bool false) (.int .i64 0) (.int .i64 0))
  unfold set8 at ZB OZ BZ
  clear RR OC bW
  go_wp2_with fail
  generalize World.setCell _ _ _ = Wc at *
  obtain ⟨y0, y1, y2, y3, y4, y5, y6, y7⟩ := cells8 ZB.out
  exact bodyPost_ret (v := .agg #[.int .i64 (0), .slice none 0 0, .slice none 0 0, .slice none 0 0, .int .i64 (4), .bool false, .int .i64 0, .int .i64 0]) (by simp [results, Tryz.results8, go_sem, y0, y1, y2, y3, y4, y5, y6, y7]) rfl (SteppedOut.mk (OZ.out.less (by omega)) BZ.out rfl rfl rfl)

set_option maxHeartbeats 4000000 in
set_option maxRecDepth 100000 in
theorem iStepped_off
(B : Nat) (x y : Int) (v1 v2 v3 vo vs : Value) (zs : List Int) (bs : List Bx) (rs : List Int) (os : List Opv) (ss : List (List Int)) (w : World) (s1 : SeeI w B v1 zs) (s2 : SeeBx w B v2 bs) (s3 : SeeI w B v3 rs) (so : SeeOp w B vo os) (sv : SeeSS w B vs ss) (hB : B ≤ w.heap.size)
    (n1 : nilOk v1) (n2 : nilOk v2) (n3 : nilOk v3) (hS : shortB bs) (hO : shortOp os) (FW : Forms w)
    (hC : coreB x zs bs rs y = true) (hy : ¬ y = 0) :
    Calls Tryz.prog 8 #[.agg #[.int .i64 x, v1, v2, v3, .int .i64 y], vo, vs] w
      (SteppedOut (onS ⟨x, zs, bs, rs, y⟩) w) := by
  have HRC := Lib.hid (coreB_right hC)
  obtain ⟨A1, c1, rfl⟩ := s1.shape
  obtain ⟨A2, c2, rfl⟩ := s2.shape
  obtain ⟨A3, c3, rfl⟩ := s3.shape
  obtain ⟨Ao, co, rfl⟩ := so.shape
  obtain ⟨As, cs, rfl⟩ := sv.shape
  have H0 : Hid (∃ W, W = (w.alloc (.cells #[.int .i64 x, .slice A1 zs.length c1, .slice A2 bs.length c2, .slice A3 rs.length c3, .int .i64 y] 27)).alloc
      (.cells #[.int .i64 0, .slice none 0 0, .slice none 0 0, .slice none 0 0, .int .i64 0, .bool false, .int .i64 0, .int .i64 0] 33) ∧
      (W.heap[w.heap.size]? = some (.cells #[.int .i64 x, .slice A1 zs.length c1, .slice A2 bs.length c2, .slice A3 rs.length c3, .int .i64 y] 27 (0, 0)) ∧
      W.heap[w.heap.size + 1]? = some (.cells #[.int .i64 0, .slice none 0 0, .slice none 0 0, .slice none 0 0, .int .i64 0, .bool false, .int .i64 0, .int .i64 0] 33 (0, 0))) ∧ Below w.heap.size w W ∧ W.heap.size = w.heap.size + 2) :=
    Lib.hid ⟨_, rfl, ⟨alloc_old (heap_alloc_new _ _) _, alloc_at _ _ (by simp) rfl⟩, ((Below.refl _ _).alloc (Nat.le_refl _) _).alloc (by simp) _, by simp⟩
  go_enter Tryz.func8, Tryz.ntmps8
  go_wp2_with fail
  obtain ⟨W, hW, hrow, bW, hsz⟩ := H0.out
  rw [← hW]
  clear hW H0
  have HN := Lib.hid hsz
  clear hsz
  have hBW := Nat.le_trans hB bW.size
  refine (iCoreOk_any B x y _ _ _ zs bs rs W (s1.below (bW.mono hB)) (s2.below (bW.mono hB)) (s3.below (bW.mono hB)) hBW hS).mono ?_
  rintro e w1 ⟨rfl, b1⟩
  replace hrow := two_later hrow b1
  replace bW := below_then bW b1 (Nat.le_refl _)
  have hV : w.heap.size + 2 ≤ w1.heap.size := by have := b1.size; have := HN.out; omega
  have s1' := s1.below (bW.mono hB)
  have s2' := s2.below (bW.mono hB)
  have s3' := s3.below (bW.mono hB)
  have so' := so.below (bW.mono hB)
  have sv' := sv.below (bW.mono hB)
  have FW' := FW.below bW
  have RK := hrow.1
  have RR := hrow.2
  clear hrow s1 s2 s3 so sv b1 FW
  have hB1 : B ≤ w1.heap.size := by omega
  obtain ⟨p0, p1, p2, p3, p4⟩ := cells5 RK
  rw [hC]
  have hy' : (y == 0) = false := by simpa using hy
  have HY := Lib.hid hy
  clear hy
  go_wp2_with fail
  refine (iCopied_any B x y _ _ _ zs bs rs w1 s1' s2' s3' hB1 n1 n2 n3 (by have := HRC.out.zl; omega) (by have := HRC.out.b12; omega) (by have := HRC.out.r4; omega)).mono ?_
  rintro e w2 ⟨u1, u2, u3, rfl, OC, b2, m1, m2, m3⟩
  replace OC := OC.less hV
  replace RR := row_later RR b2
  replace bW := below_then bW b2 (Nat.le_refl _)
  clear p0 p1 p2 p3 p4 RK s1' s2' s3' so' sv' hC FW' b2
  have m123 := Lib.hid (And.intro m1 (And.intro m2 m3))
  obtain ⟨D1, q1, e1⟩ := OC.o1.see.shape
  obtain ⟨D2, q2, e2⟩ := OC.o2.see.shape
  obtain ⟨D3, q3, e3⟩ := OC.o3.see.shape
  subst e1 e2 e3
  clear m1 m2 m3
  obtain ⟨r0, r1, r2, r3, r4, r5, r6, r7⟩ := cells8 RR
  have f0 := frozen_row (k := 0) RR
  have f1 := frozen_row (k := 1) RR
  have f2 := frozen_row (k := 2) RR
  have f3 := frozen_row (k := 3) RR
  have f4 := frozen_row (k := 4) RR
  have f5 := frozen_row (k := 5) RR
  have f6 := frozen_row (k := 6) RR
  have f7 := frozen_row (k := 7) RR
  have ZB := Lib.hid (set8_blk RR (.int .i64 (x)) (.slice D1 zs.length q1) (.slice D2 bs.length q2) (.slice D3 rs.length q3) (.int .i64 (y)) (.bool false) (.int .i64 0) (.int .i64 0))
  have OZ := Lib.hid (OC.set8 (N := w.heap.size + 1) (fun q => by have := (OC.lt _ q).1; omega) (.int .i64 (x)) (.slice D1 zs.length q1) (.slice D2 bs.length q2) (.slice D3 rs.length q3) (.int .i64 (y)) (.bool false) (.int .i64 0) (.int .i64 0))
  have BZ := Lib.hid (set8_below bW (show w.heap.size ≤ w.heap.size + 1 by omega) (.int .i64 (x)) (.slice D1 zs.length q1) (.slice D2 bs.length q2) (.slice D3 rs.length q3) (.int .i64 (y)) (.bool false) (.int .i64 0) (.int .i64 0))
  unfold set8 at ZB OZ BZ
  clear RR OC bW
  go_wp2_with fail
  generalize World.setCell _ _ _ = Wc at *
  obtain ⟨y0, y1, y2, y3, y4, y5, y6, y7⟩ := cells8 ZB.out
  exact bodyPost_ret (v := .agg #[.int .i64 (x), .slice D1 zs.length q1, .slice D2 bs.length q2, .slice D3 rs.length q3, .int .i64 (y), .bool false, .int .i64 0, .int .i64 0]) (by simp [results, Tryz.results8, go_sem, y0, y1, y2, y3, y4, y5, y6, y7]) rfl (SteppedOut.mk (OZ.out.less (by omega)) BZ.out m123.out.1 m123.out.2.1 m123.out.2.2)

set_option maxHeartbeats 4000000 in
set_option maxRecDepth 100000 in
theorem iStepped_code
(B : Nat) (x : Int) (v1 v2 v3 vo vs : Value) (zs : List Int) (bs : List Bx) (rs : List Int) (os : List Opv) (ss : List (List Int)) (w : World) (s1 : SeeI w B v1 zs) (s2 : SeeBx w B v2 bs) (s3 : SeeI w B v3 rs) (so : SeeOp w B vo os) (sv : SeeSS w B vs ss) (hB : B ≤ w.heap.size)
    (n1 : nilOk v1) (n2 : nilOk v2) (n3 : nilOk v3) (hS : shortB bs) (hO : shortOp os) (FW : Forms w)
    (hC : coreB x zs bs rs 0 = true) (hco : codeB os = false) :
    Calls Tryz.prog 8 #[.agg #[.int .i64 x, v1, v2, v3, .int .i64 0], vo, vs] w
      (SteppedOut (endS ⟨x, zs, bs, rs, 0⟩ 4) w) := by
  have HRC := Lib.hid (coreB_right hC)
  obtain ⟨A1, c1, rfl⟩ := s1.shape
  obtain ⟨A2, c2, rfl⟩ := s2.shape
  obtain ⟨A3, c3, rfl⟩ := s3.shape
  obtain ⟨Ao, co, rfl⟩ := so.shape
  obtain ⟨As, cs, rfl⟩ := sv.shape
  have H0 : Hid (∃ W, W = (w.alloc (.cells #[.int .i64 x, .slice A1 zs.length c1, .slice A2 bs.length c2, .slice A3 rs.length c3, .int .i64 0] 27)).alloc
      (.cells #[.int .i64 0, .slice none 0 0, .slice none 0 0, .slice none 0 0, .int .i64 0, .bool false, .int .i64 0, .int .i64 0] 33) ∧
      (W.heap[w.heap.size]? = some (.cells #[.int .i64 x, .slice A1 zs.length c1, .slice A2 bs.length c2, .slice A3 rs.length c3, .int .i64 0] 27 (0, 0)) ∧
      W.heap[w.heap.size + 1]? = some (.cells #[.int .i64 0, .slice none 0 0, .slice none 0 0, .slice none 0 0, .int .i64 0, .bool false, .int .i64 0, .int .i64 0] 33 (0, 0))) ∧ Below w.heap.size w W ∧ W.heap.size = w.heap.size + 2) :=
    Lib.hid ⟨_, rfl, ⟨alloc_old (heap_alloc_new _ _) _, alloc_at _ _ (by simp) rfl⟩, ((Below.refl _ _).alloc (Nat.le_refl _) _).alloc (by simp) _, by simp⟩
  go_enter Tryz.func8, Tryz.ntmps8
  go_wp2_with fail
  obtain ⟨W, hW, hrow, bW, hsz⟩ := H0.out
  rw [← hW]
  clear hW H0
  have HN := Lib.hid hsz
  clear hsz
  have hBW := Nat.le_trans hB bW.size
  refine (iCoreOk_any B x 0 _ _ _ zs bs rs W (s1.below (bW.mono hB)) (s2.below (bW.mono hB)) (s3.below (bW.mono hB)) hBW hS).mono ?_
  rintro e w1 ⟨rfl, b1⟩
  replace hrow := two_later hrow b1
  replace bW := below_then bW b1 (Nat.le_refl _)
  have hV : w.heap.size + 2 ≤ w1.heap.size := by have := b1.size; have := HN.out; omega
  have s1' := s1.below (bW.mono hB)
  have s2' := s2.below (bW.mono hB)
  have s3' := s3.below (bW.mono hB)
  have so' := so.below (bW.mono hB)
  have sv' := sv.below (bW.mono hB)
  have FW' := FW.below bW
  have RK := hrow.1
  have RR := hrow.2
  clear hrow s1 s2 s3 so sv b1 FW
  have hB1 : B ≤ w1.heap.size := by omega
  obtain ⟨p0, p1, p2, p3, p4⟩ := cells5 RK
  rw [hC]
  go_wp2_with fail
  refine (iCodeOk_any B _ os w1 so' hB1 hO FW').mono ?_
  rintro e w2 ⟨rfl, b2⟩
  replace RK := row_later RK b2
  replace RR := row_later RR b2
  replace bW := below_then bW b2 (Nat.le_refl _)
  replace s1' := s1'.below (b2.mono hB1)
  replace s2' := s2'.below (b2.mono hB1)
  replace s3' := s3'.below (b2.mono hB1)
  replace so' := so'.below (b2.mono hB1)
  replace sv' := sv'.below (b2.mono hB1)
  replace hV := Nat.le_trans hV b2.size
  replace hB1 := Nat.le_trans hB1 b2.size
  clear b2 p0 p1 p2 p3 p4 FW'
  obtain ⟨p0, p1, p2, p3, p4⟩ := cells5 RK
  rw [hco]
  go_wp2_with fail
  refine (iEnded_any B x 0 4 _ _ _ zs bs rs _ s1' s2' s3' hB1 n1 n2 n3 (by have := HRC.out.zl; omega) (by have := HRC.out.b12; omega) (by have := HRC.out.r4; omega)).mono ?_
  rintro e w4 ⟨u1, u2, u3, rfl, OC, b4, m1, m2, m3⟩
  replace OC := OC.less hV
  replace RR := row_later RR b4
  replace bW := below_then bW b4 (Nat.le_refl _)
  clear p0 p1 p2 p3 p4 RK s1' s2' s3' so' sv' b4
  have m123 := Lib.hid (And.intro m1 (And.intro m2 m3))
  obtain ⟨D1, q1, e1⟩ := OC.o1.see.shape
  obtain ⟨D2, q2, e2⟩ := OC.o2.see.shape
  obtain ⟨D3, q3, e3⟩ := OC.o3.see.shape
  subst e1 e2 e3
  clear m1 m2 m3
  obtain ⟨r0, r1, r2, r3, r4, r5, r6, r7⟩ := cells8 RR
  have f0 := frozen_row (k := 0) RR
  have f1 := frozen_row (k := 1) RR
  have f2 := frozen_row (k := 2) RR
  have f3 := frozen_row (k := 3) RR
  have f4 := frozen_row (k := 4) RR
  have f5 := frozen_row (k := 5) RR
  have f6 := frozen_row (k := 6) RR
  have f7 := frozen_row (k := 7) RR
  have ZB := Lib.hid (set8_blk RR (.int .i64 (x)) (.slice D1 zs.length q1) (.slice D2 bs.length q2) (.slice D3 rs.length q3) (.int .i64 (4)) (.bool false) (.int .i64 0) (.int .i64 0))
  have OZ := Lib.hid (OC.set8 (N := w.heap.size + 1) (fun q => by have := (OC.lt _ q).1; omega) (.int .i64 (x)) (.slice D1 zs.length q1) (.slice D2 bs.length q2) (.slice D3 rs.length q3) (.int .i64 (4)) (.bool false) (.int .i64 0) (.int .i64 0))
  have BZ := Lib.hid (set8_below bW (show w.heap.size ≤ w.heap.size + 1 by omega) (.int .i64 (x)) (.slice D1 zs.length q1) (.slice D2 bs.length q2) (.slice D3 rs.length q3) (.int .i64 (4)) (.bool false) (.int .i64 0) (.int .i64 0))
  unfold set8 at ZB OZ BZ
  clear RR OC bW
  go_wp2_with fail
  generalize World.setCell _ _ _ = Wc at *
  obtain ⟨y0, y1, y2, y3, y4, y5, y6, y7⟩ := cells8 ZB.out
  exact bodyPost_ret (v := .agg #[.int .i64 (x), .slice D1 zs.length q1, .slice D2 bs.length q2, .slice D3 rs.length q3, .int .i64 (4), .bool false, .int .i64 0, .int .i64 0]) (by simp [results, Tryz.results8, go_sem, y0, y1, y2, y3, y4, y5, y6, y7]) rfl (SteppedOut.mk (OZ.out.less (by omega)) BZ.out m123.out.1 m123.out.2.1 m123.out.2.2)

set_option maxHeartbeats 4000000 in
set_option maxRecDepth 100000 in
theorem iStepped_slots
(B : Nat) (x : Int) (v1 v2 v3 vo vs : Value) (zs : List Int) (bs : List Bx) (rs : List Int) (os : List Opv) (ss : List (List Int)) (w : World) (s1 : SeeI w B v1 zs) (s2 : SeeBx w B v2 bs) (s3 : SeeI w B v3 rs) (so : SeeOp w B vo os) (sv : SeeSS w B vs ss) (hB : B ≤ w.heap.size)
    (n1 : nilOk v1) (n2 : nilOk v2) (n3 : nilOk v3) (hS : shortB bs) (hO : shortOp os) (FW : Forms w)
    (hC : coreB x zs bs rs 0 = true) (hco : codeB os = true) (hso : slotsB ss = false) :
    Calls Tryz.prog 8 #[.agg #[.int .i64 x, v1, v2, v3, .int .i64 0], vo, vs] w
      (SteppedOut (endS ⟨x, zs, bs, rs, 0⟩ 4) w) := by
  have HRC := Lib.hid (coreB_right hC)
  obtain ⟨A1, c1, rfl⟩ := s1.shape
  obtain ⟨A2, c2, rfl⟩ := s2.shape
  obtain ⟨A3, c3, rfl⟩ := s3.shape
  obtain ⟨Ao, co, rfl⟩ := so.shape
  obtain ⟨As, cs, rfl⟩ := sv.shape
  have H0 : Hid (∃ W, W = (w.alloc (.cells #[.int .i64 x, .slice A1 zs.length c1, .slice A2 bs.length c2, .slice A3 rs.length c3, .int .i64 0] 27)).alloc
      (.cells #[.int .i64 0, .slice none 0 0, .slice none 0 0, .slice none 0 0, .int .i64 0, .bool false, .int .i64 0, .int .i64 0] 33) ∧
      (W.heap[w.heap.size]? = some (.cells #[.int .i64 x, .slice A1 zs.length c1, .slice A2 bs.length c2, .slice A3 rs.length c3, .int .i64 0] 27 (0, 0)) ∧
      W.heap[w.heap.size + 1]? = some (.cells #[.int .i64 0, .slice none 0 0, .slice none 0 0, .slice none 0 0, .int .i64 0, .bool false, .int .i64 0, .int .i64 0] 33 (0, 0))) ∧ Below w.heap.size w W ∧ W.heap.size = w.heap.size + 2) :=
    Lib.hid ⟨_, rfl, ⟨alloc_old (heap_alloc_new _ _) _, alloc_at _ _ (by simp) rfl⟩, ((Below.refl _ _).alloc (Nat.le_refl _) _).alloc (by simp) _, by simp⟩
  go_enter Tryz.func8, Tryz.ntmps8
  go_wp2_with fail
  obtain ⟨W, hW, hrow, bW, hsz⟩ := H0.out
  rw [← hW]
  clear hW H0
  have HN := Lib.hid hsz
  clear hsz
  have hBW := Nat.le_trans hB bW.size
  refine (iCoreOk_any B x 0 _ _ _ zs bs rs W (s1.below (bW.mono hB)) (s2.below (bW.mono hB)) (s3.below (bW.mono hB)) hBW hS).mono ?_
  rintro e w1 ⟨rfl, b1⟩
  replace hrow := two_later hrow b1
  replace bW := below_then bW b1 (Nat.le_refl _)
  have hV : w.heap.size + 2 ≤ w1.heap.size := by have := b1.size; have := HN.out; omega
  have s1' := s1.below (bW.mono hB)
  have s2' := s2.below (bW.mono hB)
  have s3' := s3.below (bW.mono hB)
  have so' := so.below (bW.mono hB)
  have sv' := sv.below (bW.mono hB)
  have FW' := FW.below bW
  have RK := hrow.1
  have RR := hrow.2
  clear hrow s1 s2 s3 so sv b1 FW
  have hB1 : B ≤ w1.heap.size := by omega
  obtain ⟨p0, p1, p2, p3, p4⟩ := cells5 RK
  rw [hC]
  go_wp2_with fail
  refine (iCodeOk_any B _ os w1 so' hB1 hO FW').mono ?_
  rintro e w2 ⟨rfl, b2⟩
  replace RK := row_later RK b2
  replace RR := row_later RR b2
  replace bW := below_then bW b2 (Nat.le_refl _)
  replace s1' := s1'.below (b2.mono hB1)
  replace s2' := s2'.below (b2.mono hB1)
  replace s3' := s3'.below (b2.mono hB1)
  replace so' := so'.below (b2.mono hB1)
  replace sv' := sv'.below (b2.mono hB1)
  replace hV := Nat.le_trans hV b2.size
  replace hB1 := Nat.le_trans hB1 b2.size
  clear b2 p0 p1 p2 p3 p4 FW'
  obtain ⟨p0, p1, p2, p3, p4⟩ := cells5 RK
  rw [hco]
  go_wp2_with fail
  refine (iSlotsOk_any B _ ss w2 sv').mono ?_
  rintro e w3 ⟨rfl, rfl⟩
  rw [hso]
  go_wp2_with fail
  refine (iEnded_any B x 0 4 _ _ _ zs bs rs _ s1' s2' s3' hB1 n1 n2 n3 (by have := HRC.out.zl; omega) (by have := HRC.out.b12; omega) (by have := HRC.out.r4; omega)).mono ?_
  rintro e w4 ⟨u1, u2, u3, rfl, OC, b4, m1, m2, m3⟩
  replace OC := OC.less hV
  replace RR := row_later RR b4
  replace bW := below_then bW b4 (Nat.le_refl _)
  clear p0 p1 p2 p3 p4 RK s1' s2' s3' so' sv' b4
  have m123 := Lib.hid (And.intro m1 (And.intro m2 m3))
  obtain ⟨D1, q1, e1⟩ := OC.o1.see.shape
  obtain ⟨D2, q2, e2⟩ := OC.o2.see.shape
  obtain ⟨D3, q3, e3⟩ := OC.o3.see.shape
  subst e1 e2 e3
  clear m1 m2 m3
  obtain ⟨r0, r1, r2, r3, r4, r5, r6, r7⟩ := cells8 RR
  have f0 := frozen_row (k := 0) RR
  have f1 := frozen_row (k := 1) RR
  have f2 := frozen_row (k := 2) RR
  have f3 := frozen_row (k := 3) RR
  have f4 := frozen_row (k := 4) RR
  have f5 := frozen_row (k := 5) RR
  have f6 := frozen_row (k := 6) RR
  have f7 := frozen_row (k := 7) RR
  have ZB := Lib.hid (set8_blk RR (.int .i64 (x)) (.slice D1 zs.length q1) (.slice D2 bs.length q2) (.slice D3 rs.length q3) (.int .i64 (4)) (.bool false) (.int .i64 0) (.int .i64 0))
  have OZ := Lib.hid (OC.set8 (N := w.heap.size + 1) (fun q => by have := (OC.lt _ q).1; omega) (.int .i64 (x)) (.slice D1 zs.length q1) (.slice D2 bs.length q2) (.slice D3 rs.length q3) (.int .i64 (4)) (.bool false) (.int .i64 0) (.int .i64 0))
  have BZ := Lib.hid (set8_below bW (show w.heap.size ≤ w.heap.size + 1 by omega) (.int .i64 (x)) (.slice D1 zs.length q1) (.slice D2 bs.length q2) (.slice D3 rs.length q3) (.int .i64 (4)) (.bool false) (.int .i64 0) (.int .i64 0))
  unfold set8 at ZB OZ BZ
  clear RR OC bW
  go_wp2_with fail
  generalize World.setCell _ _ _ = Wc at *
  obtain ⟨y0, y1, y2, y3, y4, y5, y6, y7⟩ := cells8 ZB.out
  exact bodyPost_ret (v := .agg #[.int .i64 (x), .slice D1 zs.length q1, .slice D2 bs.length q2, .slice D3 rs.length q3, .int .i64 (4), .bool false, .int .i64 0, .int .i64 0]) (by simp [results, Tryz.results8, go_sem, y0, y1, y2, y3, y4, y5, y6, y7]) rfl (SteppedOut.mk (OZ.out.less (by omega)) BZ.out m123.out.1 m123.out.2.1 m123.out.2.2)

set_option maxHeartbeats 4000000 in
set_option maxRecDepth 100000 in
theorem iStepped_gone
(B : Nat) (x : Int) (v1 v2 v3 vo vs : Value) (zs : List Int) (bs : List Bx) (rs : List Int) (os : List Opv) (ss : List (List Int)) (w : World) (s1 : SeeI w B v1 zs) (s2 : SeeBx w B v2 bs) (s3 : SeeI w B v3 rs) (so : SeeOp w B vo os) (sv : SeeSS w B vs ss) (hB : B ≤ w.heap.size)
    (n1 : nilOk v1) (n2 : nilOk v2) (n3 : nilOk v3) (hS : shortB bs) (hO : shortOp os) (FW : Forms w)
    (hC : coreB x zs bs rs 0 = true) (hco : codeB os = true) (hso : slotsB ss = true) (hat : (os.length : Int) ≤ x) :
    Calls Tryz.prog 8 #[.agg #[.int .i64 x, v1, v2, v3, .int .i64 0], vo, vs] w
      (SteppedOut (endS ⟨x, zs, bs, rs, 0⟩ 4) w) := by
  have HRC := Lib.hid (coreB_right hC)
  obtain ⟨A1, c1, rfl⟩ := s1.shape
  obtain ⟨A2, c2, rfl⟩ := s2.shape
  obtain ⟨A3, c3, rfl⟩ := s3.shape
  obtain ⟨Ao, co, rfl⟩ := so.shape
  obtain ⟨As, cs, rfl⟩ := sv.shape
  have H0 : Hid (∃ W, W = (w.alloc (.cells #[.int .i64 x, .slice A1 zs.length c1, .slice A2 bs.length c2, .slice A3 rs.length c3, .int .i64 0] 27)).alloc
      (.cells #[.int .i64 0, .slice none 0 0, .slice none 0 0, .slice none 0 0, .int .i64 0, .bool false, .int .i64 0, .int .i64 0] 33) ∧
      (W.heap[w.heap.size]? = some (.cells #[.int .i64 x, .slice A1 zs.length c1, .slice A2 bs.length c2, .slice A3 rs.length c3, .int .i64 0] 27 (0, 0)) ∧
      W.heap[w.heap.size + 1]? = some (.cells #[.int .i64 0, .slice none 0 0, .slice none 0 0, .slice none 0 0, .int .i64 0, .bool false, .int .i64 0, .int .i64 0] 33 (0, 0))) ∧ Below w.heap.size w W ∧ W.heap.size = w.heap.size + 2) :=
    Lib.hid ⟨_, rfl, ⟨alloc_old (heap_alloc_new _ _) _, alloc_at _ _ (by simp) rfl⟩, ((Below.refl _ _).alloc (Nat.le_refl _) _).alloc (by simp) _, by simp⟩
  go_enter Tryz.func8, Tryz.ntmps8
  go_wp2_with fail
  obtain ⟨W, hW, hrow, bW, hsz⟩ := H0.out
  rw [← hW]
  clear hW H0
  have HN := Lib.hid hsz
  clear hsz
  have hBW := Nat.le_trans hB bW.size
  refine (iCoreOk_any B x 0 _ _ _ zs bs rs W (s1.below (bW.mono hB)) (s2.below (bW.mono hB)) (s3.below (bW.mono hB)) hBW hS).mono ?_
  rintro e w1 ⟨rfl, b1⟩
  replace hrow := two_later hrow b1
  replace bW := below_then bW b1 (Nat.le_refl _)
  have hV : w.heap.size + 2 ≤ w1.heap.size := by have := b1.size; have := HN.out; omega
  have s1' := s1.below (bW.mono hB)
  have s2' := s2.below (bW.mono hB)
  have s3' := s3.below (bW.mono hB)
  have so' := so.below (bW.mono hB)
  have sv' := sv.below (bW.mono hB)
  have FW' := FW.below bW
  have RK := hrow.1
  have RR := hrow.2
  clear hrow s1 s2 s3 so sv b1 FW
  have hB1 : B ≤ w1.heap.size := by omega
  obtain ⟨p0, p1, p2, p3, p4⟩ := cells5 RK
  rw [hC]
  go_wp2_with fail
  refine (iCodeOk_any B _ os w1 so' hB1 hO FW').mono ?_
  rintro e w2 ⟨rfl, b2⟩
  replace RK := row_later RK b2
  replace RR := row_later RR b2
  replace bW := below_then bW b2 (Nat.le_refl _)
  replace s1' := s1'.below (b2.mono hB1)
  replace s2' := s2'.below (b2.mono hB1)
  replace s3' := s3'.below (b2.mono hB1)
  replace so' := so'.below (b2.mono hB1)
  replace sv' := sv'.below (b2.mono hB1)
  replace hV := Nat.le_trans hV b2.size
  replace hB1 := Nat.le_trans hB1 b2.size
  clear b2 p0 p1 p2 p3 p4 FW'
  obtain ⟨p0, p1, p2, p3, p4⟩ := cells5 RK
  rw [hco]
  go_wp2_with fail
  refine (iSlotsOk_any B _ ss w2 sv').mono ?_
  rintro e w3 ⟨rfl, rfl⟩
  rw [hso]
  go_wp2_with fail
  refine (iEnded_any B x 0 4 _ _ _ zs bs rs _ s1' s2' s3' hB1 n1 n2 n3 (by have := HRC.out.zl; omega) (by have := HRC.out.b12; omega) (by have := HRC.out.r4; omega)).mono ?_
  rintro e w4 ⟨u1, u2, u3, rfl, OC, b4, m1, m2, m3⟩
  replace OC := OC.less hV
  replace RR := row_later RR b4
  replace bW := below_then bW b4 (Nat.le_refl _)
  clear p0 p1 p2 p3 p4 RK s1' s2' s3' so' sv' b4
  have m123 := Lib.hid (And.intro m1 (And.intro m2 m3))
  obtain ⟨D1, q1, e1⟩ := OC.o1.see.shape
  obtain ⟨D2, q2, e2⟩ := OC.o2.see.shape
  obtain ⟨D3, q3, e3⟩ := OC.o3.see.shape
  subst e1 e2 e3
  clear m1 m2 m3
  obtain ⟨r0, r1, r2, r3, r4, r5, r6, r7⟩ := cells8 RR
  have f0 := frozen_row (k := 0) RR
  have f1 := frozen_row (k := 1) RR
  have f2 := frozen_row (k := 2) RR
  have f3 := frozen_row (k := 3) RR
  have f4 := frozen_row (k := 4) RR
  have f5 := frozen_row (k := 5) RR
  have f6 := frozen_row (k := 6) RR
  have f7 := frozen_row (k := 7) RR
  have ZB := Lib.hid (set8_blk RR (.int .i64 (x)) (.slice D1 zs.length q1) (.slice D2 bs.length q2) (.slice D3 rs.length q3) (.int .i64 (4)) (.bool false) (.int .i64 0) (.int .i64 0))
  have OZ := Lib.hid (OC.set8 (N := w.heap.size + 1) (fun q => by have := (OC.lt _ q).1; omega) (.int .i64 (x)) (.slice D1 zs.length q1) (.slice D2 bs.length q2) (.slice D3 rs.length q3) (.int .i64 (4)) (.bool false) (.int .i64 0) (.int .i64 0))
  have BZ := Lib.hid (set8_below bW (show w.heap.size ≤ w.heap.size + 1 by omega) (.int .i64 (x)) (.slice D1 zs.length q1) (.slice D2 bs.length q2) (.slice D3 rs.length q3) (.int .i64 (4)) (.bool false) (.int .i64 0) (.int .i64 0))
  unfold set8 at ZB OZ BZ
  clear RR OC bW
  go_wp2_with fail
  generalize World.setCell _ _ _ = Wc at *
  obtain ⟨y0, y1, y2, y3, y4, y5, y6, y7⟩ := cells8 ZB.out
  exact bodyPost_ret (v := .agg #[.int .i64 (x), .slice D1 zs.length q1, .slice D2 bs.length q2, .slice D3 rs.length q3, .int .i64 (4), .bool false, .int .i64 0, .int .i64 0]) (by simp [results, Tryz.results8, go_sem, y0, y1, y2, y3, y4, y5, y6, y7]) rfl (SteppedOut.mk (OZ.out.less (by omega)) BZ.out m123.out.1 m123.out.2.1 m123.out.2.2)

set_option maxHeartbeats 4000000 in
set_option maxRecDepth 100000 in
theorem iStepped_end (B xn : Nat) (v1 v2 v3 vo vs : Value) (zs : List Int) (bs : List Bx) (rs : List Int) (os : List Opv) (ss : List (List Int)) (w : World) (s1 : SeeI w B v1 zs) (s2 : SeeBx w B v2 bs) (s3 : SeeI w B v3 rs) (so : SeeOp w B vo os) (sv : SeeSS w B vs ss) (hB : B ≤ w.heap.size)
    (n1 : nilOk v1) (n2 : nilOk v2) (n3 : nilOk v3) (hS : shortB bs) (hO : shortOp os) (FW : Forms w) (o : Opv) (st : St)
    (hC : coreB xn zs bs rs 0 = true) (hco : codeB os = true) (hso : slotsB ss = true) (ho : os[xn]? = some o) (hst : (if badS ⟨xn, zs, bs, rs, 0⟩ o ss = true then endS ⟨xn, zs, bs, rs, 0⟩ 4 else doS ⟨xn, zs, bs, rs, 0⟩ o ss) = st) (hcd : ¬ st.c.cd = 0) :
    Calls Tryz.prog 8 #[.agg #[.int .i64 xn, v1, v2, v3, .int .i64 0], vo, vs] w (SteppedOut (endS ⟨xn, zs, bs, rs, 0⟩ st.c.cd) w) := by

  have HRC := Lib.hid (coreB_right hC)
  have hoB : opB o = true := by
    have := hco
    unfold codeB at this
    simp only [Bool.and_eq_true] at this
    exact List.all_eq_true.1 this.2 o (List.mem_of_getElem? ho)
  have hlt : xn < os.length := (List.getElem?_eq_some_iff.1 ho).1
  obtain ⟨A1, c1, rfl⟩ := s1.shape
  obtain ⟨A2, c2, rfl⟩ := s2.shape
  obtain ⟨A3, c3, rfl⟩ := s3.shape
  obtain ⟨Ao, co, rfl⟩ := so.shape
  obtain ⟨As, cs, rfl⟩ := sv.shape
  have H0 : Hid (∃ W, W = (w.alloc (.cells #[.int .i64 xn, .slice A1 zs.length c1, .slice A2 bs.length c2, .slice A3 rs.length c3, .int .i64 0] 27)).alloc
      (.cells #[.int .i64 0, .slice none 0 0, .slice none 0 0, .slice none 0 0, .int .i64 0, .bool false, .int .i64 0, .int .i64 0] 33) ∧
      (W.heap[w.heap.size]? = some (.cells #[.int .i64 xn, .slice A1 zs.length c1, .slice A2 bs.length c2, .slice A3 rs.length c3, .int .i64 0] 27 (0, 0)) ∧
      W.heap[w.heap.size + 1]? = some (.cells #[.int .i64 0, .slice none 0 0, .slice none 0 0, .slice none 0 0, .int .i64 0, .bool false, .int .i64 0, .int .i64 0] 33 (0, 0))) ∧ Below w.heap.size w W ∧ W.heap.size = w.heap.size + 2) :=
    Lib.hid ⟨_, rfl, ⟨alloc_old (heap_alloc_new _ _) _, alloc_at _ _ (by simp) rfl⟩, ((Below.refl _ _).alloc (Nat.le_refl _) _).alloc (by simp) _, by simp⟩
  go_enter Tryz.func8, Tryz.ntmps8
  go_wp2_with fail
  obtain ⟨W, hW, hrow, bW, hsz⟩ := H0.out
  rw [← hW]
  clear hW H0
  have HN := Lib.hid hsz
  clear hsz
  have hBW := Nat.le_trans hB bW.size
  refine (iCoreOk_any B xn 0 _ _ _ zs bs rs W (s1.below (bW.mono hB)) (s2.below (bW.mono hB)) (s3.below (bW.mono hB)) hBW hS).mono ?_
  rintro e w1 ⟨rfl, b1⟩
  replace hrow := two_later hrow b1
  replace bW := below_then bW b1 (Nat.le_refl _)
  have hV : w.heap.size + 2 ≤ w1.heap.size := by have := b1.size; have := HN.out; omega
  have s1' := s1.below (bW.mono hB)
  have s2' := s2.below (bW.mono hB)
  have s3' := s3.below (bW.mono hB)
  have so' := so.below (bW.mono hB)
  have sv' := sv.below (bW.mono hB)
  have FW' := FW.below bW
  have RK := hrow.1
  have RR := hrow.2
  clear hrow s1 s2 s3 so sv b1 FW
  have hB1 : B ≤ w1.heap.size := by omega
  obtain ⟨p0, p1, p2, p3, p4⟩ := cells5 RK
  rw [hC]
  go_wp2_with fail
  refine (iCodeOk_any B _ os w1 so' hB1 hO FW').mono ?_
  rintro e w2 ⟨rfl, b2⟩
  replace RK := row_later RK b2
  replace RR := row_later RR b2
  replace bW := below_then bW b2 (Nat.le_refl _)
  replace s1' := s1'.below (b2.mono hB1)
  replace s2' := s2'.below (b2.mono hB1)
  replace s3' := s3'.below (b2.mono hB1)
  replace so' := so'.below (b2.mono hB1)
  replace sv' := sv'.below (b2.mono hB1)
  replace hV := Nat.le_trans hV b2.size
  replace hB1 := Nat.le_trans hB1 b2.size
  clear b2 p0 p1 p2 p3 p4 FW'
  obtain ⟨p0, p1, p2, p3, p4⟩ := cells5 RK
  rw [hco]
  go_wp2_with fail
  refine (iSlotsOk_any B _ ss w2 sv').mono ?_
  rintro e w3 ⟨rfl, rfl⟩
  rw [hso]
  have hgo : ¬ ((os.length : Int) ≤ (xn : Int)) := by omega
  go_wp2_with fail
  refine (iCopied_any B xn 0 _ _ _ zs bs rs w2 s1' s2' s3' hB1 n1 n2 n3 (by have := HRC.out.zl; omega) (by have := HRC.out.b12; omega) (by have := HRC.out.r4; omega)).mono ?_
  rintro e w4 ⟨u1, u2, u3, rfl, OC, b4, m1, m2, m3⟩
  replace RK := row_later RK b4
  replace RR := row_later RR b4
  replace bW := below_then bW b4 (Nat.le_refl _)
  replace s1' := s1'.below (b4.mono hB1)
  replace s2' := s2'.below (b4.mono hB1)
  replace s3' := s3'.below (b4.mono hB1)
  replace so' := so'.below (b4.mono hB1)
  replace sv' := sv'.below (b4.mono hB1)
  have hs4 := b4.size
  have bA := below_new w4 (.cells #[.int .i64 xn, u1, u2, u3, .int .i64 0, .bool false, .int .i64 0, .int .i64 0, .slice As ss.length cs] 81)
  have hB4 : B ≤ w4.heap.size := Nat.le_trans hB1 hs4
  have HP := Lib.hid (show Pl (w4.alloc (.cells #[.int .i64 xn, u1, u2, u3, .int .i64 0, .bool false, .int .i64 0, .int .i64 0, .slice As ss.length cs] 81)) w2.heap.size w4.heap.size (onS ⟨xn, zs, bs, rs, 0⟩) (.slice As ss.length cs) u1 u2 u3 from
    ⟨heap_alloc_new _ _, OC.later bA, hs4, fun q => by have := (OC.lt _ q).2; omega⟩)
  have HSV := Lib.hid ((sv'.below (bA.mono hB4)).more hB1)
  have HS1 := Lib.hid (And.intro (s1'.below (bA.mono hB4)) (And.intro (s2'.below (bA.mono hB4)) (s3'.below (bA.mono hB4))))
  have HRK := Lib.hid (row_later RK bA)
  have HRR := Lib.hid (row_later RR bA)
  have HBA := Lib.hid (below_then bW bA (Nat.le_refl _))
  obtain ⟨g, oo, eAo, -, e0, e1, e2⟩ := (so'.below (bA.mono hB4)).at_ ho
  subst eAo
  obtain ⟨p0', p1', p2', p3', p4'⟩ := cells5 (row_later RK bA)
  obtain ⟨D1, q1, e3⟩ := OC.o1.see.shape
  obtain ⟨D2, q2, e4⟩ := OC.o2.see.shape
  obtain ⟨D3, q3, e5⟩ := OC.o3.see.shape
  subst e3 e4 e5
  have HDO := Lib.hid (fun W P S => does_any w2.heap.size w4.heap.size xn o As cs (.slice D1 zs.length q1) (.slice D2 bs.length q2) (.slice D3 rs.length q3) zs bs rs ss W P S HRC.out hoB)
  rw [hst] at HDO
  have HLT := Lib.hid (show w.heap.size + 2 ≤ w2.heap.size from hV)
  have HBB := Lib.hid hB1
  have HW4 := Lib.hid hs4
  clear p0 p1 p2 p3 p4 s1' s2' s3' so' sv' RK RR bW b4 OC m1 m2 m3 hs4 bA hB4 hV hB1 hC hco hso ho hst
  obtain ⟨a, m, nm⟩ := o
  dsimp only at e0 e1 e2 HDO
  go_wp2_with fail
  refine (HDO.out _ HP.out HSV.out).mono ?_
  intro e w5 hd
  obtain rfl := hd.ret
  have hbl : w2.heap.size ≤ w5.heap.size := by have h1 := hd.2.1.size; have h2 := HW4.out; have h3 := World.size_alloc w4 (.cells #[.int .i64 xn, .slice D1 zs.length q1, .slice D2 bs.length q2, .slice D3 rs.length q3, .int .i64 0, .bool false, .int .i64 0, .int .i64 0, .slice As ss.length cs] 81); omega
  have RK := (hd.2.1.block w.heap.size (by have := HLT.out; omega)).trans HRK.out
  have RR := (hd.2.1.block (w.heap.size + 1) (by have := HLT.out; omega)).trans HRR.out
  have bW := HBA.out.trans (hd.2.1.mono (by have := HLT.out; omega))
  have hV := Nat.le_trans HLT.out hbl
  have hs1 := HS1.out.1.below (hd.2.1.mono HBB.out)
  have hs2 := HS1.out.2.1.below (hd.2.1.mono HBB.out)
  have hs3 := HS1.out.2.2.below (hd.2.1.mono HBB.out)
  clear hd HDO
  obtain ⟨⟨px, pz, pb, pr, pc⟩, sy, gt, vl⟩ := st
  dsimp only at hcd ⊢
  have hcd2 : (pc == 0) = false := by simpa using hcd
  have HCD := Lib.hid hcd
  clear hcd
  obtain ⟨p0, p1, p2, p3, p4⟩ := cells5 RK
  clear p0' p1' p2' p3' p4' e0 e1 e2
  go_wp2_with fail
  refine (iEnded_any B xn 0 pc _ _ _ zs bs rs w5 hs1 hs2 hs3 (Nat.le_trans HBB.out hbl) n1 n2 n3 (by have := HRC.out.zl; omega) (by have := HRC.out.b12; omega) (by have := HRC.out.r4; omega)).mono ?_
  rintro e w6 ⟨u1, u2, u3, rfl, OC, b6, m1, m2, m3⟩
  replace OC := OC.less hV
  replace RR := row_later RR b6
  replace bW := below_then bW b6 (Nat.le_refl _)
  clear p0 p1 p2 p3 p4 RK hs1 hs2 hs3 b6
  have m123 := Lib.hid (And.intro m1 (And.intro m2 m3))
  obtain ⟨E1, r1', e1⟩ := OC.o1.see.shape
  obtain ⟨E2, r2', e2⟩ := OC.o2.see.shape
  obtain ⟨E3, r3', e3⟩ := OC.o3.see.shape
  subst e1 e2 e3
  clear m1 m2 m3
  obtain ⟨r0, r1, r2, r3, r4, r5, r6, r7⟩ := cells8 RR
  have f0 := frozen_row (k := 0) RR
  have f1 := frozen_row (k := 1) RR
  have f2 := frozen_row (k := 2) RR
  have f3 := frozen_row (k := 3) RR
  have f4 := frozen_row (k := 4) RR
  have f5 := frozen_row (k := 5) RR
  have f6 := frozen_row (k := 6) RR
  have f7 := frozen_row (k := 7) RR
  have ZB := Lib.hid (set8_blk RR (.int .i64 (xn)) (.slice E1 zs.length r1') (.slice E2 bs.length r2') (.slice E3 rs.length r3') (.int .i64 (pc)) (.bool false) (.int .i64 0) (.int .i64 0))
  have OZ := Lib.hid (OC.set8 (N := w.heap.size + 1) (fun q => by have := (OC.lt _ q).1; omega) (.int .i64 (xn)) (.slice E1 zs.length r1') (.slice E2 bs.length r2') (.slice E3 rs.length r3') (.int .i64 (pc)) (.bool false) (.int .i64 0) (.int .i64 0))
  have BZ := Lib.hid (set8_below bW (show w.heap.size ≤ w.heap.size + 1 by omega) (.int .i64 (xn)) (.slice E1 zs.length r1') (.slice E2 bs.length r2') (.slice E3 rs.length r3') (.int .i64 (pc)) (.bool false) (.int .i64 0) (.int .i64 0))
  unfold set8 at ZB OZ BZ
  clear RR OC bW
  go_wp2_with fail
  generalize World.setCell _ _ _ = Wc at *
  obtain ⟨y0, y1, y2, y3, y4, y5, y6, y7⟩ := cells8 ZB.out
  exact bodyPost_ret (v := .agg #[.int .i64 (xn), .slice E1 zs.length r1', .slice E2 bs.length r2', .slice E3 rs.length r3', .int .i64 (pc), .bool false, .int .i64 0, .int .i64 0]) (by simp [results, Tryz.results8, go_sem, y0, y1, y2, y3, y4, y5, y6, y7]) rfl (SteppedOut.mk (OZ.out.less (by omega)) BZ.out m123.out.1 m123.out.2.1 m123.out.2.2)

set_option maxHeartbeats 4000000 in
set_option maxRecDepth 100000 in
theorem iStepped_on (B xn : Nat) (v1 v2 v3 vo vs : Value) (zs : List Int) (bs : List Bx) (rs : List Int) (os : List Opv) (ss : List (List Int)) (w : World) (s1 : SeeI w B v1 zs) (s2 : SeeBx w B v2 bs) (s3 : SeeI w B v3 rs) (so : SeeOp w B vo os) (sv : SeeSS w B vs ss) (hB : B ≤ w.heap.size)
    (n1 : nilOk v1) (n2 : nilOk v2) (n3 : nilOk v3) (hS : shortB bs) (hO : shortOp os) (FW : Forms w) (o : Opv) (st : St)
    (hC : coreB xn zs bs rs 0 = true) (hco : codeB os = true) (hso : slotsB ss = true) (ho : os[xn]? = some o) (hst : (if badS ⟨xn, zs, bs, rs, 0⟩ o ss = true then endS ⟨xn, zs, bs, rs, 0⟩ 4 else doS ⟨xn, zs, bs, rs, 0⟩ o ss) = st) (hcd : st.c.cd = 0) :
    Calls Tryz.prog 8 #[.agg #[.int .i64 xn, v1, v2, v3, .int .i64 0], vo, vs] w (SteppedOut st w) := by
  have HRC := Lib.hid (coreB_right hC)
  have hoB : opB o = true := by
    have := hco
    unfold codeB at this
    simp only [Bool.and_eq_true] at this
    exact List.all_eq_true.1 this.2 o (List.mem_of_getElem? ho)
  have hlt : xn < os.length := (List.getElem?_eq_some_iff.1 ho).1
  obtain ⟨A1, c1, rfl⟩ := s1.shape
  obtain ⟨A2, c2, rfl⟩ := s2.shape
  obtain ⟨A3, c3, rfl⟩ := s3.shape
  obtain ⟨Ao, co, rfl⟩ := so.shape
  obtain ⟨As, cs, rfl⟩ := sv.shape
  have H0 : Hid (∃ W, W = (w.alloc (.cells #[.int .i64 xn, .slice A1 zs.length c1, .slice A2 bs.length c2, .slice A3 rs.length c3, .int .i64 0] 27)).alloc
      (.cells #[.int .i64 0, .slice none 0 0, .slice none 0 0, .slice none 0 0, .int .i64 0, .bool false, .int .i64 0, .int .i64 0] 33) ∧
      (W.heap[w.heap.size]? = some (.cells #[.int .i64 xn, .slice A1 zs.length c1, .slice A2 bs.length c2, .slice A3 rs.length c3, .int .i64 0] 27 (0, 0)) ∧
      W.heap[w.heap.size + 1]? = some (.cells #[.int .i64 0, .slice none 0 0, .slice none 0 0, .slice none 0 0, .int .i64 0, .bool false, .int .i64 0, .int .i64 0] 33 (0, 0))) ∧ Below w.heap.size w W ∧ W.heap.size = w.heap.size + 2) :=
    Lib.hid ⟨_, rfl, ⟨alloc_old (heap_alloc_new _ _) _, alloc_at _ _ (by simp) rfl⟩, ((Below.refl _ _).alloc (Nat.le_refl _) _).alloc (by simp) _, by simp⟩
  go_enter Tryz.func8, Tryz.ntmps8
  go_wp2_with fail
  obtain ⟨W, hW, hrow, bW, hsz⟩ := H0.out
  rw [← hW]
  clear hW H0
  have HN := Lib.hid hsz
  clear hsz
  have hBW := Nat.le_trans hB bW.size
  refine (iCoreOk_any B xn 0 _ _ _ zs bs rs W (s1.below (bW.mono hB)) (s2.below (bW.mono hB)) (s3.below (bW.mono hB)) hBW hS).mono ?_
  rintro e w1 ⟨rfl, b1⟩
  replace hrow := two_later hrow b1
  replace bW := below_then bW b1 (Nat.le_refl _)
  have hV : w.heap.size + 2 ≤ w1.heap.size := by have := b1.size; have := HN.out; omega
  have s1' := s1.below (bW.mono hB)
  have s2' := s2.below (bW.mono hB)
  have s3' := s3.below (bW.mono hB)
  have so' := so.below (bW.mono hB)
  have sv' := sv.below (bW.mono hB)
  have FW' := FW.below bW
  have RK := hrow.1
  have RR := hrow.2
  clear hrow s1 s2 s3 so sv b1 FW
  have hB1 : B ≤ w1.heap.size := by omega
  obtain ⟨p0, p1, p2, p3, p4⟩ := cells5 RK
  rw [hC]
  go_wp2_with fail
  refine (iCodeOk_any B _ os w1 so' hB1 hO FW').mono ?_
  rintro e w2 ⟨rfl, b2⟩
  replace RK := row_later RK b2
  replace RR := row_later RR b2
  replace bW := below_then bW b2 (Nat.le_refl _)
  replace s1' := s1'.below (b2.mono hB1)
  replace s2' := s2'.below (b2.mono hB1)
  replace s3' := s3'.below (b2.mono hB1)
  replace so' := so'.below (b2.mono hB1)
  replace sv' := sv'.below (b2.mono hB1)
  replace hV := Nat.le_trans hV b2.size
  replace hB1 := Nat.le_trans hB1 b2.size
  clear b2 p0 p1 p2 p3 p4 FW'
  obtain ⟨p0, p1, p2, p3, p4⟩ := cells5 RK
  rw [hco]
  go_wp2_with fail
  refine (iSlotsOk_any B _ ss w2 sv').mono ?_
  rintro e w3 ⟨rfl, rfl⟩
  rw [hso]
  have hgo : ¬ ((os.length : Int) ≤ (xn : Int)) := by omega
  go_wp2_with fail
  refine (iCopied_any B xn 0 _ _ _ zs bs rs w2 s1' s2' s3' hB1 n1 n2 n3 (by have := HRC.out.zl; omega) (by have := HRC.out.b12; omega) (by have := HRC.out.r4; omega)).mono ?_
  rintro e w4 ⟨u1, u2, u3, rfl, OC, b4, m1, m2, m3⟩
  replace RK := row_later RK b4
  replace RR := row_later RR b4
  replace bW := below_then bW b4 (Nat.le_refl _)
  replace s1' := s1'.below (b4.mono hB1)
  replace s2' := s2'.below (b4.mono hB1)
  replace s3' := s3'.below (b4.mono hB1)
  replace so' := so'.below (b4.mono hB1)
  replace sv' := sv'.below (b4.mono hB1)
  have hs4 := b4.size
  have bA := below_new w4 (.cells #[.int .i64 xn, u1, u2, u3, .int .i64 0, .bool false, .int .i64 0, .int .i64 0, .slice As ss.length cs] 81)
  have hB4 : B ≤ w4.heap.size := Nat.le_trans hB1 hs4
  have HP := Lib.hid (show Pl (w4.alloc (.cells #[.int .i64 xn, u1, u2, u3, .int .i64 0, .bool false, .int .i64 0, .int .i64 0, .slice As ss.length cs] 81)) w2.heap.size w4.heap.size (onS ⟨xn, zs, bs, rs, 0⟩) (.slice As ss.length cs) u1 u2 u3 from
    ⟨heap_alloc_new _ _, OC.later bA, hs4, fun q => by have := (OC.lt _ q).2; omega⟩)
  have HSV := Lib.hid ((sv'.below (bA.mono hB4)).more hB1)
  have HS1 := Lib.hid (And.intro (s1'.below (bA.mono hB4)) (And.intro (s2'.below (bA.mono hB4)) (s3'.below (bA.mono hB4))))
  have HRK := Lib.hid (row_later RK bA)
  have HRR := Lib.hid (row_later RR bA)
  have HBA := Lib.hid (below_then bW bA (Nat.le_refl _))
  obtain ⟨g, oo, eAo, -, e0, e1, e2⟩ := (so'.below (bA.mono hB4)).at_ ho
  subst eAo
  obtain ⟨p0', p1', p2', p3', p4'⟩ := cells5 (row_later RK bA)
  obtain ⟨D1, q1, e3⟩ := OC.o1.see.shape
  obtain ⟨D2, q2, e4⟩ := OC.o2.see.shape
  obtain ⟨D3, q3, e5⟩ := OC.o3.see.shape
  subst e3 e4 e5
  have HDO := Lib.hid (fun W P S => does_any w2.heap.size w4.heap.size xn o As cs (.slice D1 zs.length q1) (.slice D2 bs.length q2) (.slice D3 rs.length q3) zs bs rs ss W P S HRC.out hoB)
  rw [hst] at HDO
  have HLT := Lib.hid (show w.heap.size + 2 ≤ w2.heap.size from hV)
  have HBB := Lib.hid hB1
  have HW4 := Lib.hid hs4
  clear p0 p1 p2 p3 p4 s1' s2' s3' so' sv' RK RR bW b4 OC m1 m2 m3 hs4 bA hB4 hV hB1 hC hco hso ho hst
  obtain ⟨a, m, nm⟩ := o
  dsimp only at e0 e1 e2 HDO
  go_wp2_with fail
  refine (HDO.out _ HP.out HSV.out).mono ?_
  intro e w5 hd
  obtain rfl := hd.ret
  have hbl : w2.heap.size ≤ w5.heap.size := by have h1 := hd.2.1.size; have h2 := HW4.out; have h3 := World.size_alloc w4 (.cells #[.int .i64 xn, .slice D1 zs.length q1, .slice D2 bs.length q2, .slice D3 rs.length q3, .int .i64 0, .bool false, .int .i64 0, .int .i64 0, .slice As ss.length cs] 81); omega
  have RK := (hd.2.1.block w.heap.size (by have := HLT.out; omega)).trans HRK.out
  have RR := (hd.2.1.block (w.heap.size + 1) (by have := HLT.out; omega)).trans HRR.out
  have bW := HBA.out.trans (hd.2.1.mono (by have := HLT.out; omega))
  have hV := Nat.le_trans HLT.out hbl
  obtain ⟨z1, z2, z3, hP⟩ := hd.2.2 hcd
  clear hd HDO
  obtain ⟨⟨px, pz, pb, pr, pc⟩, sy, gt, vl⟩ := st
  dsimp only at hcd hP ⊢
  subst hcd
  have OC := hP.own.less HLT.out
  have hrow := hP.blk
  dsimp only at OC hrow
  have m123 := Lib.hid (And.intro (own_nilOk OC.o1) (And.intro (own_nilOk OC.o2.1) (own_nilOk OC.o3)))
  obtain ⟨E1, r1', e6⟩ := OC.o1.see.shape
  obtain ⟨E2, r2', e7⟩ := OC.o2.see.shape
  obtain ⟨E3, r3', e8⟩ := OC.o3.see.shape
  subst e6 e7 e8
  obtain ⟨p0, p1, p2, p3, p4, p5, p6, p7, p8⟩ := cells9 hrow
  clear p0' p1' p2' p3' p4' e0 e1 e2 hrow hP RK
  obtain ⟨r0, r1, r2, r3, r4, r5, r6, r7⟩ := cells8 RR
  have f0 := frozen_row (k := 0) RR
  have f1 := frozen_row (k := 1) RR
  have f2 := frozen_row (k := 2) RR
  have f3 := frozen_row (k := 3) RR
  have f4 := frozen_row (k := 4) RR
  have f5 := frozen_row (k := 5) RR
  have f6 := frozen_row (k := 6) RR
  have f7 := frozen_row (k := 7) RR
  have ZB := Lib.hid (set8_blk RR (.int .i64 (px)) (.slice E1 pz.length r1') (.slice E2 pb.length r2') (.slice E3 pr.length r3') (.int .i64 (0)) (.bool sy) (.int .i64 gt) (.int .i64 vl))
  have OZ := Lib.hid (OC.set8 (N := w.heap.size + 1) (fun q => by have := (OC.lt _ q).1; omega) (.int .i64 (px)) (.slice E1 pz.length r1') (.slice E2 pb.length r2') (.slice E3 pr.length r3') (.int .i64 (0)) (.bool sy) (.int .i64 gt) (.int .i64 vl))
  have BZ := Lib.hid (set8_below bW (show w.heap.size ≤ w.heap.size + 1 by omega) (.int .i64 (px)) (.slice E1 pz.length r1') (.slice E2 pb.length r2') (.slice E3 pr.length r3') (.int .i64 (0)) (.bool sy) (.int .i64 gt) (.int .i64 vl))
  unfold set8 at ZB OZ BZ
  clear RR OC bW
  go_wp2_with fail
  generalize World.setCell _ _ _ = Wc at *
  obtain ⟨y0, y1, y2, y3, y4, y5, y6, y7⟩ := cells8 ZB.out
  exact bodyPost_ret (v := .agg #[.int .i64 (px), .slice E1 pz.length r1', .slice E2 pb.length r2', .slice E3 pr.length r3', .int .i64 (0), .bool sy, .int .i64 gt, .int .i64 vl]) (by simp [results, Tryz.results8, go_sem, y0, y1, y2, y3, y4, y5, y6, y7]) rfl (SteppedOut.mk (OZ.out.less (by omega)) BZ.out m123.out.1 m123.out.2.1 m123.out.2.2)

end Go.Proofs.YtigcbegeaikfcaaGreatDoor

namespace Go.Proofs.YtigcbegeaikfcaaGreatDoor
open Go.RowKit
set_option linter.unusedVariables false

theorem do_end {c : Cr} {o : Opv} {ss : List (List Int)} (h0 : c.cd = 0) (h : ¬ (doS c o ss).c.cd = 0) : doS c o ss = endS c (doS c o ss).c.cd := by
  unfold doS at h ⊢
  repeat' split at h
  all_goals first
    | (exfalso; exact h (by first | exact h0 | simp [onS, h0]))
    | (simp_all [endS]; done)
    | skip
  all_goals (repeat' split <;> simp_all [endS])
theorem ran_end {c : Cr} {o : Opv} {ss : List (List Int)} {st : St} (h0 : c.cd = 0) (hst : (if badS c o ss = true then endS c 4 else doS c o ss) = st) (h : ¬ st.c.cd = 0) : st = endS c st.c.cd := by
  subst hst
  split
  · rfl
  · rename_i hb
    rw [if_neg hb] at h
    exact do_end h0 h

set_option maxHeartbeats 1000000 in
theorem iStepped_any (B : Nat) (x y : Int) (v1 v2 v3 vo vs : Value) (zs : List Int) (bs : List Bx) (rs : List Int) (os : List Opv) (ss : List (List Int)) (w : World) (s1 : SeeI w B v1 zs) (s2 : SeeBx w B v2 bs) (s3 : SeeI w B v3 rs) (so : SeeOp w B vo os) (sv : SeeSS w B vs ss) (hB : B ≤ w.heap.size)
    (n1 : nilOk v1) (n2 : nilOk v2) (n3 : nilOk v3) (hS : shortB bs) (hO : shortOp os) (FW : Forms w) :
    Calls Tryz.prog 8 #[.agg #[.int .i64 x, v1, v2, v3, .int .i64 y], vo, vs] w (SteppedOut (steppedS ⟨x, zs, bs, rs, y⟩ os ss) w) := by
  unfold steppedS crB
  cases hC : coreB x zs bs rs y
  · rw [if_pos rfl]
    exact iStepped_wrong B x y v1 v2 v3 vo vs zs bs rs os ss w s1 s2 s3 so sv hB n1 n2 n3 hS hO FW hC
  rw [if_neg (by simp)]
  by_cases hy : y = 0
  · subst hy
    cases hco : codeB os
    · rw [if_pos ⟨rfl, by simp⟩]
      exact iStepped_code B x v1 v2 v3 vo vs zs bs rs os ss w s1 s2 s3 so sv hB n1 n2 n3 hS hO FW hC hco
    cases hso : slotsB ss
    · rw [if_pos ⟨rfl, by simp⟩]
      exact iStepped_slots B x v1 v2 v3 vo vs zs bs rs os ss w s1 s2 s3 so sv hB n1 n2 n3 hS hO FW hC hco hso
    rw [if_neg (by simp)]
    unfold stepS
    rw [if_neg (by simp)]
    have hx := (coreB_right hC).x0
    obtain ⟨xn, rfl⟩ : ∃ xn : Nat, x = xn := ⟨x.toNat, by omega⟩
    cases ho : os[xn]? with
    | none =>
      have hl : os.length ≤ xn := by simpa using ho
      have e : os[(⟨(xn : Int), zs, bs, rs, 0⟩ : Cr).pl.toNat]? = none := ho
      simp only [e]
      exact iStepped_gone B xn v1 v2 v3 vo vs zs bs rs os ss w s1 s2 s3 so sv hB n1 n2 n3 hS hO FW hC hco hso (by omega)
    | some o =>
      have e : os[(⟨(xn : Int), zs, bs, rs, 0⟩ : Cr).pl.toNat]? = some o := ho
      simp only [e]
      generalize hst : (if badS ⟨xn, zs, bs, rs, 0⟩ o ss = true then endS ⟨xn, zs, bs, rs, 0⟩ 4 else doS ⟨xn, zs, bs, rs, 0⟩ o ss) = st
      by_cases hcd : st.c.cd = 0
      · exact iStepped_on B xn v1 v2 v3 vo vs zs bs rs os ss w s1 s2 s3 so sv hB n1 n2 n3 hS hO FW o st hC hco hso ho hst hcd
      · have := iStepped_end B xn v1 v2 v3 vo vs zs bs rs os ss w s1 s2 s3 so sv hB n1 n2 n3 hS hO FW o st hC hco hso ho hst hcd
        rwa [← ran_end rfl hst hcd] at this
  · rw [if_neg (fun q => hy q.1)]
    unfold stepS
    rw [if_pos hy]
    exact iStepped_off B x y v1 v2 v3 vo vs zs bs rs os ss w s1 s2 s3 so sv hB n1 n2 n3 hS hO FW hC hy

theorem set_len {bs : List Bx} {n : List UInt8} {x : Int} : (setS bs n x).1.length ≤ bs.length + 1 := by
  unfold setS
  split
  · split
    · simp
    · split
      · simp
      · simp; omega
  · split <;> simp
/-- What a step answers is hardly longer than what it was given. -/
theorem stepped_len (c : Cr) (os : List Opv) (ss : List (List Int)) : (steppedS c os ss).c.pile.length ≤ c.pile.length + 1 ∧ (steppedS c os ss).c.bxs.length ≤ c.bxs.length + 1 ∧ (steppedS c os ss).c.rds.length ≤ c.rds.length := by
  have hend : ∀ k, (endS c k).c.pile.length ≤ c.pile.length + 1 ∧ (endS c k).c.bxs.length ≤ c.bxs.length + 1 ∧ (endS c k).c.rds.length ≤ c.rds.length := fun k => ⟨Nat.le_succ _, Nat.le_succ _, Nat.le_refl _⟩
  have hdo : ∀ o, (doS c o ss).c.pile.length ≤ c.pile.length + 1 ∧ (doS c o ss).c.bxs.length ≤ c.bxs.length + 1 ∧ (doS c o ss).c.rds.length ≤ c.rds.length := fun o => by
    have hs := fun n x => set_len (bs := c.bxs) (n := n) (x := x)
    unfold doS
    repeat' split
    all_goals first
      | exact hend _
      | (refine ⟨?_, ?_, ?_⟩ <;> simp [onS, cutS] <;> first | exact hs _ _ | omega | skip)
  unfold steppedS
  split
  · exact ⟨by simp, by simp, by simp⟩
  · split
    · exact hend _
    · unfold stepS
      split
      · exact ⟨Nat.le_succ _, Nat.le_succ _, Nat.le_refl _⟩
      · split
        · exact hend _
        · split
          · exact hend _
          · exact hdo _

theorem szL_sum {ls : List Nat} {left : Int} (h0 : 0 ≤ left) : szL left ls = -1 ∨ (0 ≤ szL left ls ∧ szL left ls + ls.length ≤ left ∧ ∀ n ∈ ls, (n : Int) ≤ left) := by
  unfold szL
  by_cases q : left < ls.length
  · rw [if_pos q]; exact .inl rfl
  · rw [if_neg q]
    rcases szGo_fits (ls := ls) (left := left - ls.length) (by omega) with e | ⟨e1, e2, e3⟩
    · exact .inl e
    · exact .inr ⟨e1, by omega, fun n hn => by have := e3 n hn; omega⟩
theorem szC_sum {left : Int} {zs : List Int} {bs : List Bx} {rs : List Int} (h0 : 0 ≤ left) (h1 : left ≤ 1048576) : szC left zs bs rs = -1 ∨
    (0 ≤ szC left zs bs rs ∧ szC left zs bs rs + zs.length + bs.length + rs.length ≤ left ∧ shortB bs) := by
  rcases szC_fits (left := left) (zs := zs) (bs := bs) (rs := rs) h0 h1 with h | ⟨h, -, -, -, -, hs⟩
  · exact .inl h
  · refine .inr ⟨h, ?_, hs⟩
    unfold szC at h ⊢
    unfold szB at h ⊢
    have hl : (nmLens bs).length = bs.length := by simp [nmLens]
    by_cases q1 : left < (zs.length : Int)
    · simp [q1] at h
    · simp only [if_neg q1] at h ⊢
      have q2 : ¬ (left - (zs.length : Int) < 0) := by omega
      rw [if_neg q2] at h ⊢
      rcases szL_sum (ls := nmLens bs) (left := left - zs.length) (by omega) with e | ⟨e1, e2, -⟩
      · rw [e] at h; simp at h
      · rw [if_neg (by omega)] at h ⊢
        by_cases q3 : szL (left - (zs.length : Int)) (nmLens bs) < (rs.length : Int)
        · rw [if_pos q3] at h; omega
        · rw [if_neg q3]; omega
theorem nSS_bound {ss : List (List Int)} (h : ∀ s ∈ ss, s.length ≤ 1048576) : nSS ss ≤ ss.length * 1048576 := by
  unfold nSS
  have : ∀ (l : List (List Int)) (a : Nat), (∀ s ∈ l, s.length ≤ 1048576) → (l.map List.length).foldl (· + ·) a ≤ a + l.length * 1048576 := fun l => by
    induction l with
    | nil => intro a _; simp
    | cons x r ih =>
      intro a hl
      rw [List.map_cons, List.foldl_cons, List.length_cons]
      have h1 := ih (a + x.length) (fun s hs => hl s (List.mem_cons_of_mem _ hs))
      have h2 := hl x (List.mem_cons_self ..)
      omega
  have := this ss 0 h
  omega

end Go.Proofs.YtigcbegeaikfcaaGreatDoor
