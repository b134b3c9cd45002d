/- Layer 9 (the player): what the model's l9Do does at push and load. No conditions but those typed. -/
import Derived.Test.YtpmdfogncoapjaaGreatDoorCoreQ
import Derived.Maps.AppendAt
namespace Go.Proofs.YtpmdfogncoapjaaGreatDoor
open Go.RowKit
set_option linter.unusedVariables false

theorem alloc_at (w : World) (o : Obj) {n : Nat} (h : w.heap.size = n) {cs : Array Value} {t : TypeId} (e : o = .cells cs t) : (w.alloc o).heap[n]? = some (.cells cs t (0, 0)) := by
  subst h e; exact heap_alloc_new _ _
theorem four_new (w : World) (k0 k1 k2 k3 k4 o0 o1 o2 : Value) : Four ((((w.alloc (.cells #[k0, k1, k2, k3, k4] 27)).alloc (.cells #[o0, o1, o2] 41)).alloc
    (.cells #[.int .i64 0, .slice none 0 0, .slice none 0 0, .slice none 0 0, .int .i64 0, .bool false, .int .i64 0, .int .i64 0] 33)).alloc
    (.cells #[.int .i64 0, .slice none 0 0, .slice none 0 0, .slice none 0 0, .int .i64 0, .bool false, .int .i64 0, .int .i64 0] 33)) w.heap.size k0 k1 k2 k3 k4 o0 o1 o2
    (.int .i64 0) (.slice none 0 0) (.slice none 0 0) (.slice none 0 0) (.int .i64 0) (.bool false) (.int .i64 0) (.int .i64 0) :=
  ⟨alloc_old (alloc_old (alloc_old (heap_alloc_new _ _) _) _) _, alloc_old (alloc_old (alloc_at _ _ (by simp) rfl) _) _, alloc_old (alloc_at _ _ (by simp) rfl) _, alloc_at _ _ (by simp) rfl⟩
theorem Four.setk {W : World} {N : Nat} {k0 k1 k2 k3 k4 o0 o1 o2 s0 s1 s2 s3 s4 s5 s6 s7 : Value} (h : Four W N k0 k1 k2 k3 k4 o0 o1 o2 s0 s1 s2 s3 s4 s5 s6 s7) (u : Value) : Four (W.setCell ⟨N, 0, none⟩ u) N u k1 k2 k3 k4 o0 o1 o2 s0 s1 s2 s3 s4 s5 s6 s7 :=
  ⟨by rw [heap_set h.k]; simp, by rw [Below.heap_setCell _ _ _ _ (by show N + 1 ≠ N; omega)]; exact h.o, by rw [Below.heap_setCell _ _ _ _ (by show N + 1 + 1 ≠ N; omega)]; exact h.r, by rw [Below.heap_setCell _ _ _ _ (by show N + 1 + 1 + 1 ≠ N; omega)]; exact h.s⟩
theorem Four.setk1 {W : World} {N : Nat} {k0 k1 k2 k3 k4 o0 o1 o2 s0 s1 s2 s3 s4 s5 s6 s7 : Value} (h : Four W N k0 k1 k2 k3 k4 o0 o1 o2 s0 s1 s2 s3 s4 s5 s6 s7) (u : Value) : Four (W.setCell ⟨N, 1, none⟩ u) N k0 u k2 k3 k4 o0 o1 o2 s0 s1 s2 s3 s4 s5 s6 s7 :=
  ⟨by rw [heap_set h.k]; simp, by rw [Below.heap_setCell _ _ _ _ (by show N + 1 ≠ N; omega)]; exact h.o, by rw [Below.heap_setCell _ _ _ _ (by show N + 1 + 1 ≠ N; omega)]; exact h.r, by rw [Below.heap_setCell _ _ _ _ (by show N + 1 + 1 + 1 ≠ N; omega)]; exact h.s⟩
theorem Four.setk2 {W : World} {N : Nat} {k0 k1 k2 k3 k4 o0 o1 o2 s0 s1 s2 s3 s4 s5 s6 s7 : Value} (h : Four W N k0 k1 k2 k3 k4 o0 o1 o2 s0 s1 s2 s3 s4 s5 s6 s7) (u : Value) : Four (W.setCell ⟨N, 2, none⟩ u) N k0 k1 u k3 k4 o0 o1 o2 s0 s1 s2 s3 s4 s5 s6 s7 :=
  ⟨by rw [heap_set h.k]; simp, by rw [Below.heap_setCell _ _ _ _ (by show N + 1 ≠ N; omega)]; exact h.o, by rw [Below.heap_setCell _ _ _ _ (by show N + 1 + 1 ≠ N; omega)]; exact h.r, by rw [Below.heap_setCell _ _ _ _ (by show N + 1 + 1 + 1 ≠ N; omega)]; exact h.s⟩
theorem Four.setk4 {W : World} {N : Nat} {k0 k1 k2 k3 k4 o0 o1 o2 s0 s1 s2 s3 s4 s5 s6 s7 : Value} (h : Four W N k0 k1 k2 k3 k4 o0 o1 o2 s0 s1 s2 s3 s4 s5 s6 s7) (u : Value) : Four (W.setCell ⟨N, 4, none⟩ u) N k0 k1 k2 k3 u o0 o1 o2 s0 s1 s2 s3 s4 s5 s6 s7 :=
  ⟨by rw [heap_set h.k]; simp, by rw [Below.heap_setCell _ _ _ _ (by show N + 1 ≠ N; omega)]; exact h.o, by rw [Below.heap_setCell _ _ _ _ (by show N + 1 + 1 ≠ N; omega)]; exact h.r, by rw [Below.heap_setCell _ _ _ _ (by show N + 1 + 1 + 1 ≠ N; omega)]; exact h.s⟩
theorem set5_other {W : World} {N k : Nat} {x0 x1 x2 x3 x4 : Value} (h : k ≠ N) : (set5 W N x0 x1 x2 x3 x4).heap[k]? = W.heap[k]? := by
  unfold set5
  rw [Below.heap_setCell _ _ _ _ h, Below.heap_setCell _ _ _ _ h, Below.heap_setCell _ _ _ _ h, Below.heap_setCell _ _ _ _ h, Below.heap_setCell _ _ _ _ h]
theorem Four.sets {W : World} {N : Nat} {k0 k1 k2 k3 k4 o0 o1 o2 s0 s1 s2 s3 s4 s5 s6 s7 : Value} (h : Four W N k0 k1 k2 k3 k4 o0 o1 o2 s0 s1 s2 s3 s4 s5 s6 s7) (x0 x1 x2 x3 x4 : Value) : Four (set5 W (N + 1 + 1 + 1) x0 x1 x2 x3 x4) N k0 k1 k2 k3 k4 o0 o1 o2 x0 x1 x2 x3 x4 s5 s6 s7 :=
  ⟨by rw [set5_other (by omega)]; exact h.k, by rw [set5_other (by omega)]; exact h.o, by rw [set5_other (by omega)]; exact h.r, by
    unfold set5
    rw [heap_set (heap_set (heap_set (heap_set (heap_set h.s x0) x1) x2) x3) x4]
    simp⟩
/-- A word more on the pile. -/
theorem OwnC.push {W w1 : World} {B g1 c1 : Nat} {v' u2 u3 : Value} {zs : List Int} {bs : List Bx} {rs : List Int} {m : Int} (h : OwnC W B (.slice (some ⟨g1, 0, none⟩) zs.length c1) u2 u3 zs bs rs) (hB : B ≤ W.heap.size)
    (own : w1.ownsRow B 2 1 v' (zs.length + 1) (zs.map (Value.int .i64) ++ [.int .i64 m])) (gr : W.grownBy w1 (some g1)) (hnn : ¬ v' = .slice none 0 0) (hat : v'.ownBlock = some g1 ∨ v'.ownBlock = some W.heap.size) :
    ∃ g c, v' = .slice (some ⟨g, 0, none⟩) (zs.length + 1) c ∧ OwnC w1 B (.slice (some ⟨g, 0, none⟩) (zs.length + 1) c) u2 u3 (zs ++ [m]) bs rs ∧ (g = g1 ∨ g = W.heap.size) := by
  obtain ⟨g, c, rfl⟩ := own_base own hnn
  have hg : g = g1 ∨ g = W.heap.size := by
    rcases hat with q | q <;> simp [Value.ownBlock] at q
    · exact .inl q
    · exact .inr q
  have hon : Only (fun k => k = g1) W w1 := Only.of_grown gr (fun k e => by injection e with e; exact e.symm)
  have hb2 := OwnN.lt h.o2
  have hb3 := h.o3.lt
  have o2 := OwnBx.of_row0 (own_only h.o2.row0 hon (fun k hk e => h.a12 k (by rw [e]; rfl) hk))
  have o3 : OwnI w1 B 2 u3 rs := own_only h.o3 hon (fun k hk e => h.a13 k (by rw [e]; rfl) hk)
  refine ⟨g, c, rfl, ⟨by unfold OwnI; rw [List.map_append, List.length_append]; exact own, o2, o3, fun k a b => ?_, fun k a b => ?_, h.a23⟩, hg⟩
  · simp [Value.ownBlock] at a
    subst a
    rcases hg with rfl | rfl
    · exact h.a12 _ rfl b
    · have := (hb2 _ b).2; omega
  · simp [Value.ownBlock] at a
    subst a
    rcases hg with rfl | rfl
    · exact h.a13 _ rfl b
    · have := (hb3 _ b).2; omega
theorem Four.grown {W W' : World} {N : Nat} {r : Option Nat} {k0 k1 k2 k3 k4 o0 o1 o2 s0 s1 s2 s3 s4 s5 s6 s7 : Value} (h : Four W N k0 k1 k2 k3 k4 o0 o1 o2 s0 s1 s2 s3 s4 s5 s6 s7) (gr : W.grownBy W' r) (hr : ∀ g, r = some g → g < N) : Four W' N k0 k1 k2 k3 k4 o0 o1 o2 s0 s1 s2 s3 s4 s5 s6 s7 :=
  ⟨(gr.block _ (heap_lt h.k) (fun e => by have := hr _ e.symm; omega)).trans h.k, (gr.block _ (heap_lt h.o) (fun e => by have := hr _ e.symm; omega)).trans h.o, (gr.block _ (heap_lt h.r) (fun e => by have := hr _ e.symm; omega)).trans h.r, (gr.block _ (heap_lt h.s) (fun e => by have := hr _ e.symm; omega)).trans h.s⟩

theorem OwnC.drewN {w : World} {B : Nat} {u1 u2 u3 : Value} {zs : List Int} {bs : List Bx} {rs : List Int} (h : OwnC w B u1 u2 u3 zs bs rs) (n : Nat) : OwnC (w.drewN n) B u1 u2 u3 zs bs rs := ⟨h.o1, h.o2, h.o3, h.a12, h.a13, h.a23⟩
theorem Four.drewN {W : World} {N : Nat} {k0 k1 k2 k3 k4 o0 o1 o2 s0 s1 s2 s3 s4 s5 s6 s7 : Value} (h : Four W N k0 k1 k2 k3 k4 o0 o1 o2 s0 s1 s2 s3 s4 s5 s6 s7) (n : Nat) : Four (W.drewN n) N k0 k1 k2 k3 k4 o0 o1 o2 s0 s1 s2 s3 s4 s5 s6 s7 := ⟨h.k, h.o, h.r, h.s⟩

set_option maxHeartbeats 4000000 in
set_option maxRecDepth 100000 in
theorem do1_any
(B : Nat) (x m : Int) (s : List UInt8) (g1 g2 g3 c1 c2 c3 : Nat) (zs : List Int) (bs : List Bx) (rs : List Int) (y : Int) (v : Value) (w : World)
    (h : OwnC w B (.slice (some ⟨g1, 0, none⟩) zs.length c1) (.slice (some ⟨g2, 0, none⟩) bs.length c2) (.slice (some ⟨g3, 0, none⟩) rs.length c3) zs bs rs) (hB : B ≤ w.heap.size) (hx : 0 ≤ x ∧ x ≤ 300)
    (hn : zs.length < 60) :
    Calls Tryz.prog 107 #[.agg #[.int .i64 x, .slice (some ⟨g1, 0, none⟩) zs.length c1, .slice (some ⟨g2, 0, none⟩) bs.length c2, .slice (some ⟨g3, 0, none⟩) rs.length c3, .int .i64 y], .agg #[.int .i64 1, .int .i64 m, str s], v] w
      (StepOut B (onS ⟨x + 1, zs ++ [m], bs, rs, y⟩) w) := by
  obtain ⟨i0, hi, hz0, hz1, hz2⟩ := info_parts Tryz.infoI64
  have HB := Lib.hid hB
  have HR := Lib.hid h.lt
  have HL : Hid ((zs ++ [m]).length = zs.length + 1) := Lib.hid (by simp)
  have F := four_new w (.int .i64 x) (.slice (some ⟨g1, 0, none⟩) zs.length c1) (.slice (some ⟨g2, 0, none⟩) bs.length c2) (.slice (some ⟨g3, 0, none⟩) rs.length c3) (.int .i64 y) (.int .i64 1) (.int .i64 m) (str s)
  have OC := h.later (below4 w (.cells #[.int .i64 x, .slice (some ⟨g1, 0, none⟩) zs.length c1, .slice (some ⟨g2, 0, none⟩) bs.length c2, .slice (some ⟨g3, 0, none⟩) rs.length c3, .int .i64 y] 27) (.cells #[.int .i64 1, .int .i64 m, str s] 41)
    (.cells #[.int .i64 0, .slice none 0 0, .slice none 0 0, .slice none 0 0, .int .i64 0, .bool false, .int .i64 0, .int .i64 0] 33) (.cells #[.int .i64 0, .slice none 0 0, .slice none 0 0, .slice none 0 0, .int .i64 0, .bool false, .int .i64 0, .int .i64 0] 33))
  have bW := (below4 w (.cells #[.int .i64 x, .slice (some ⟨g1, 0, none⟩) zs.length c1, .slice (some ⟨g2, 0, none⟩) bs.length c2, .slice (some ⟨g3, 0, none⟩) rs.length c3, .int .i64 y] 27) (.cells #[.int .i64 1, .int .i64 m, str s] 41)
    (.cells #[.int .i64 0, .slice none 0 0, .slice none 0 0, .slice none 0 0, .int .i64 0, .bool false, .int .i64 0, .int .i64 0] 33) (.cells #[.int .i64 0, .slice none 0 0, .slice none 0 0, .slice none 0 0, .int .i64 0, .bool false, .int .i64 0, .int .i64 0] 33)).mono hB
  obtain ⟨hx0, hx1⟩ := hx
  clear h hB
  go_enter Tryz.func107, Tryz.ntmps107
  go_upto_region 6 with fail
  generalize World.alloc _ _ = W at *
  have hlt := heap_lt F.s
  have hBW : B ≤ W.heap.size := by have := HB.out; omega
  have bA := below_new W (.cells #[.int .i64 m] 2)
  have OA := OC.later bA
  have FA := F.later bA
  obtain ⟨p0, p1, p2, p3, p4⟩ := cells5 F.k
  obtain ⟨q0, q1, q2⟩ := cells3 F.o
  go_upto_region 45 with (at_builtin; refine wpList_append_own_at _ rfl _ _ 24 rfl B 2 i0 (.int .i64 0) 1 8 Tryz.underlying24 hi hz0 hz1 hz2 rfl (by decide) _ _ _ rfl OA.o1 ⟨W.heap.size, 0, none⟩ 1 1 [.int .i64 m] rfl rfl (cell_one_new _ _ _) (by intro u hu; simp at hu; subst hu; rfl) (by unfold maxLen; omega) (by omega) (Nat.le_trans hBW bA.size) ?_; intro v1 w1 hown hgr hnil hat; (obtain ⟨g, c, rfl, OD, hg⟩ := OA.push (Nat.le_trans hBW bA.size) hown hgr (fun q => by have := (hnil.1 q).1; cases this) hat); have FD := FA.grown hgr (fun k e => by injection e with e; subst e; exact (HR.out _ (.inl rfl)).2); obtain ⟨z0, z1, z2, z3, z4⟩ := cells5 FD.k; have fz := frozen_row (k := 1) FD.k)
  replace bW := (bW.alloc hBW (.cells #[.int .i64 m] 2)).grown hgr (Nat.le_trans hBW bA.size) (fun k e => by injection e with e; subst e; exact (HR.out _ (.inl rfl)).1)
  have hr : ∀ k, rowsC (.slice (some ⟨g, 0, none⟩) (zs.length + 1) c) (.slice (some ⟨g2, 0, none⟩) bs.length c2) (.slice (some ⟨g3, 0, none⟩) rs.length c3) k → k < w.heap.size ∨ w.heap.size + 4 ≤ k := fun k q => by
    rcases q with q | q
    · simp [Value.ownBlock] at q
      subst q
      rcases hg with rfl | rfl
      · exact .inl (HR.out _ (.inl rfl)).2
      · right; simp; omega
    · exact .inl (HR.out _ (.inr q)).2
  clear p0 p1 p2 p3 p4 q0 q1 q2 z0 z1 z2 z3 z4 fz F FA OC OA hown hgr hnil hat bA hg hlt hBW
  replace FD := FD.setk1 (.slice (some ⟨g, 0, none⟩) (zs.length + 1) c)
  replace OD := OD.set (p := ⟨w.heap.size, 1, none⟩) (fun q => by have := hr _ q; simp at this; omega) (.slice (some ⟨g, 0, none⟩) (zs.length + 1) c)
  replace bW := bW.setCell (show B ≤ (⟨w.heap.size, 1, none⟩ : Addr).block by exact HB.out) (.slice (some ⟨g, 0, none⟩) (zs.length + 1) c)
  generalize w1.setCell _ _ = Wd at *
  have F := FD
  have OC := OD
  clear FD OD
  have f0 := frozen_row (k := 0) F.k
  obtain ⟨p0, p1, p2, p3, p4⟩ := cells5 F.k
  go_upto_region 46 with fail
  replace F := F.setk (.int .i64 (x + 1))
  replace OC := OC.set (p := ⟨w.heap.size, 0, none⟩) (fun q => by have := hr _ q; simp at this; omega) (.int .i64 (x + 1))
  replace bW := bW.setCell (show B ≤ (⟨w.heap.size, 0, none⟩ : Addr).block by exact HB.out) (.int .i64 (x + 1))
  clear p0 p1 p2 p3 p4 f0
  generalize World.setCell _ _ _ = Wa at *
  obtain ⟨p0, p1, p2, p3, p4⟩ := cells5 F.k
  obtain ⟨q0, q1, q2, q3, q4, q5, q6, q7⟩ := cells8 F.s
  have f0 := frozen_row (k := 0) F.s
  have f1 := frozen_row (k := 1) F.s
  have f2 := frozen_row (k := 2) F.s
  have f3 := frozen_row (k := 3) F.s
  have f4 := frozen_row (k := 4) F.s
  go_upto_region 47 with fail
  replace F := F.sets (.int .i64 (x + 1)) (.slice (some ⟨g, 0, none⟩) (zs.length + 1) c) (.slice (some ⟨g2, 0, none⟩) bs.length c2) (.slice (some ⟨g3, 0, none⟩) rs.length c3) (.int .i64 (y))
  replace OC := OC.set5 (N := w.heap.size + 1 + 1 + 1) (fun q => by have := hr _ q; omega) (.int .i64 (x + 1)) (.slice (some ⟨g, 0, none⟩) (zs.length + 1) c) (.slice (some ⟨g2, 0, none⟩) bs.length c2) (.slice (some ⟨g3, 0, none⟩) rs.length c3) (.int .i64 (y))
  replace bW := set5_below bW (show B ≤ w.heap.size + 1 + 1 + 1 by have := HB.out; omega) (.int .i64 (x + 1)) (.slice (some ⟨g, 0, none⟩) (zs.length + 1) c) (.slice (some ⟨g2, 0, none⟩) bs.length c2) (.slice (some ⟨g3, 0, none⟩) rs.length c3) (.int .i64 (y))
  unfold set5 at F OC bW
  clear p0 p1 p2 p3 p4 q0 q1 q2 q3 q4 q5 q6 q7 f0 f1 f2 f3 f4
  generalize World.setCell _ _ _ = Wb at *
  obtain ⟨q0, q1, q2, q3, q4, q5, q6, q7⟩ := cells8 F.s
  obtain ⟨r0, r1, r2, r3, r4, r5, r6, r7⟩ := cells8 F.r
  have f0 := frozen_row (k := 0) F.r
  have f1 := frozen_row (k := 1) F.r
  have f2 := frozen_row (k := 2) F.r
  have f3 := frozen_row (k := 3) F.r
  have f4 := frozen_row (k := 4) F.r
  have f5 := frozen_row (k := 5) F.r
  have f6 := frozen_row (k := 6) F.r
  have f7 := frozen_row (k := 7) F.r
  have ZB := Lib.hid (set8_blk F.r (.int .i64 (x + 1)) (.slice (some ⟨g, 0, none⟩) (zs.length + 1) c) (.slice (some ⟨g2, 0, none⟩) bs.length c2) (.slice (some ⟨g3, 0, none⟩) rs.length c3) (.int .i64 (y)) (.bool false) (.int .i64 0) (.int .i64 0))
  have OZ := Lib.hid (OC.set8 (N := w.heap.size + 1 + 1) (fun q => by have := hr _ q; omega) (.int .i64 (x + 1)) (.slice (some ⟨g, 0, none⟩) (zs.length + 1) c) (.slice (some ⟨g2, 0, none⟩) bs.length c2) (.slice (some ⟨g3, 0, none⟩) rs.length c3) (.int .i64 (y)) (.bool false) (.int .i64 0) (.int .i64 0))
  have BZ := Lib.hid (set8_below bW (show B ≤ w.heap.size + 1 + 1 by have := HB.out; omega) (.int .i64 (x + 1)) (.slice (some ⟨g, 0, none⟩) (zs.length + 1) c) (.slice (some ⟨g2, 0, none⟩) bs.length c2) (.slice (some ⟨g3, 0, none⟩) rs.length c3) (.int .i64 (y)) (.bool false) (.int .i64 0) (.int .i64 0))
  unfold set8 at ZB OZ BZ
  clear F OC bW
  go_wp2_with fail
  generalize World.setCell _ _ _ = Wc at *
  obtain ⟨y0, y1, y2, y3, y4, y5, y6, y7⟩ := cells8 ZB.out
  exact bodyPost_ret (v := .agg #[.int .i64 (x + 1), .slice (some ⟨g, 0, none⟩) (zs.length + 1) c, .slice (some ⟨g2, 0, none⟩) bs.length c2, .slice (some ⟨g3, 0, none⟩) rs.length c3, .int .i64 (y), .bool false, .int .i64 0, .int .i64 0]) (by simp [results, Tryz.results107, go_sem, y0, y1, y2, y3, y4, y5, y6, y7]) rfl (StepOut.mk HL.out rfl rfl OZ.out BZ.out)

end Go.Proofs.YtpmdfogncoapjaaGreatDoor
