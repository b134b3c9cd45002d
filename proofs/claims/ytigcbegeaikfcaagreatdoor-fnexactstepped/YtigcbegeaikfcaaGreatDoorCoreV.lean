/- Layer 9 (the player): what the model's l9Do does at set. No conditions but those typed. -/
import Derived.Test.YtigcbegeaikfcaaGreatDoorCoreQ
import Derived.Deep.RegionHeld3
namespace Go.Proofs.YtigcbegeaikfcaaGreatDoor
open Go.RowKit
set_option linter.unusedVariables false

theorem Four.drew {W : World} {N : Nat} {k0 k1 k2 k3 k4 o0 o1 o2 s0 s1 s2 s3 s4 s5 s6 s7 : Value} (h : Four W N k0 k1 k2 k3 k4 o0 o1 o2 s0 s1 s2 s3 s4 s5 s6 s7) : Four W.drew N k0 k1 k2 k3 k4 o0 o1 o2 s0 s1 s2 s3 s4 s5 s6 s7 := ⟨h.k, h.o, h.r, h.s⟩
theorem OwnC.drew {w : World} {B : Nat} {u1 u2 u3 : Value} {zs : List Int} {bs : List Bx} {rs : List Int} (h : OwnC w B u1 u2 u3 zs bs rs) : OwnC w.drew B u1 u2 u3 zs bs rs := ⟨h.o1, h.o2, h.o3, h.a12, h.a13, h.a23⟩
theorem OwnC.boxes {W w1 : World} {B g2 c2 n2 g' c' n' : Nat} {u1 u3 : Value} {zs : List Int} {bs bs' : List Bx} {rs : List Int} (h : OwnC W B u1 (.slice (some ⟨g2, 0, none⟩) n2 c2) u3 zs bs rs)
    (own : OwnBx w1 B 92 (.slice (some ⟨g', 0, none⟩) n' c') bs') (gr : W.grownBy w1 (some g2)) (hg : g' = g2 ∨ W.heap.size ≤ g') : OwnC w1 B u1 (.slice (some ⟨g', 0, none⟩) n' c') u3 zs bs' rs := by
  have hon : Only (fun k => k = g2) W w1 := Only.of_grown gr (fun k e => by injection e with e; exact e.symm)
  have h1 := h.o1.lt
  have h3 := h.o3.lt
  refine ⟨own_only h.o1 hon (fun k hk e => h.a12 k hk (by rw [e]; rfl)), own, own_only h.o3 hon (fun k hk e => h.a23 k (by rw [e]; rfl) hk), fun k a b => ?_, h.a13, fun k a b => ?_⟩
  · simp [Value.ownBlock] at b
    subst b
    rcases hg with rfl | hg
    · exact h.a12 _ a rfl
    · have := (h1 _ a).2; omega
  · simp [Value.ownBlock] at a
    subst a
    rcases hg with rfl | hg
    · exact h.a23 _ rfl b
    · have := (h3 _ b).2; omega
set_option maxHeartbeats 8000000 in
set_option maxRecDepth 100000 in
theorem do4_any
(B : Nat) (x m : Int) (s : List UInt8) (g1 g2 g3 c1 c2 c3 : Nat) (zs : List Int) (bs : List Bx) (rs : List Int) (y : Int) (v : Value) (w : World)
    (h : OwnC w B (.slice (some ⟨g1, 0, none⟩) zs.length c1) (.slice (some ⟨g2, 0, none⟩) bs.length c2) (.slice (some ⟨g3, 0, none⟩) rs.length c3) zs bs rs) (hB : B ≤ w.heap.size) (hx : 0 ≤ x ∧ x ≤ 300)
    (hn : 1 ≤ zs.length) (hn2 : zs.length ≤ 60) (hl12 : bs.length ≤ 12) :
    Calls Tryz.prog 107 #[.agg #[.int .i64 x, .slice (some ⟨g1, 0, none⟩) zs.length c1, .slice (some ⟨g2, 0, none⟩) bs.length c2, .slice (some ⟨g3, 0, none⟩) rs.length c3, .int .i64 y], .agg #[.int .i64 4, .int .i64 m, str s], v] w
      (StepOut B (if (setS bs s (topS zs 1)).2 = true then onS ⟨x + 1, cutS zs 1, (setS bs s (topS zs 1)).1, rs, y⟩ else endS ⟨x, zs, bs, rs, y⟩ 4) w) := by
  obtain ⟨n, hln⟩ : ∃ n, zs.length = n + 1 := ⟨zs.length - 1, by omega⟩
  obtain ⟨ga, oa, u, ea, -, hua, hca⟩ := h.o1.see.at_ (k := zs.length - 1) (by omega)
  injection ea with ea
  injection ea with ea1 ea2
  subst ea1 ea2
  have hcap : (n : Int) + 1 ≤ (c1 : Int) := by have := h.o1.cap.1; omega
  have hcap2 : (c1 : Int) ≤ 9223372036854775807 := by have := h.o1.cap.2; unfold maxLen at this; omega
  rw [hln, Nat.add_sub_cancel] at hca hua
  have HA : Hid (topS zs 1 = u) := Lib.hid (by unfold topS; rw [hln, Nat.add_sub_cancel, List.getD_eq_getElem?_getD, hua]; rfl)
  have hlta := World.block_lt_of_cell? _ _ hca
  have HN := Lib.hid hln
  have HL : Hid (cutS zs 1 = zs.take n) := Lib.hid (by unfold cutS; rw [hln, Nat.add_sub_cancel])
  have HM : Hid ((zs.take n).length = n) := Lib.hid (by rw [List.length_take]; omega)
  have hn60 : n + 1 ≤ 60 := by omega
  rw [hln] at h ⊢
  have HB := Lib.hid hB
  have HR := Lib.hid h.lt
  have F := four_new w (.int .i64 x) (.slice (some ⟨g1, 0, none⟩) (n + 1) c1) (.slice (some ⟨g2, 0, none⟩) bs.length c2) (.slice (some ⟨g3, 0, none⟩) rs.length c3) (.int .i64 y) (.int .i64 4) (.int .i64 m) (str s)
  have OC := h.later (below4 w (.cells #[.int .i64 x, .slice (some ⟨g1, 0, none⟩) (n + 1) c1, .slice (some ⟨g2, 0, none⟩) bs.length c2, .slice (some ⟨g3, 0, none⟩) rs.length c3, .int .i64 y] 27) (.cells #[.int .i64 4, .int .i64 m, str s] 41)
    (.cells #[.int .i64 0, .slice none 0 0, .slice none 0 0, .slice none 0 0, .int .i64 0, .bool false, .int .i64 0, .int .i64 0] 33) (.cells #[.int .i64 0, .slice none 0 0, .slice none 0 0, .slice none 0 0, .int .i64 0, .bool false, .int .i64 0, .int .i64 0] 33))
  have bW := (below4 w (.cells #[.int .i64 x, .slice (some ⟨g1, 0, none⟩) (n + 1) c1, .slice (some ⟨g2, 0, none⟩) bs.length c2, .slice (some ⟨g3, 0, none⟩) rs.length c3, .int .i64 y] 27) (.cells #[.int .i64 4, .int .i64 m, str s] 41)
    (.cells #[.int .i64 0, .slice none 0 0, .slice none 0 0, .slice none 0 0, .int .i64 0, .bool false, .int .i64 0, .int .i64 0] 33) (.cells #[.int .i64 0, .slice none 0 0, .slice none 0 0, .slice none 0 0, .int .i64 0, .bool false, .int .i64 0, .int .i64 0] 33)).mono hB
  obtain ⟨hx0, hx1⟩ := hx
  rw [HA.out, HL.out]
  have hcA := fun a b d e => ((below4 w a b d e).cell (p := ⟨g1, 0 + n, none⟩) hlta).trans hca
  clear hca h hB hua hn hn2 hln
  have HSX := Lib.hid (fun W o b => l6SetX_any B g2 c2 bs s u W o b hl12)
  have hF : Hid ((setS bs s u).2 = false → (setS bs s u).1 = bs) := Lib.hid (fun q => by
    unfold setS at q ⊢
    split at q <;> (try split at q) <;> (try split at q) <;> simp_all)
  obtain ⟨bs', rb, hr0⟩ : ∃ a b, setS bs s u = (a, b) := ⟨_, _, rfl⟩
  rw [hr0] at HSX hF ⊢
  obtain ⟨st, hst⟩ : ∃ st, st = (if (bs', rb).2 = true then onS ⟨x + 1, zs.take n, (bs', rb).1, rs, y⟩ else endS ⟨x, zs, bs, rs, y⟩ 4) := ⟨_, rfl⟩
  rw [← hst]
  have HST := Lib.hid hst
  clear hst hr0
  go_enter Tryz.func107, Tryz.ntmps107
  go_upto_region 16 with fail
  generalize hGW : World.alloc _ _ = W at *
  have qa : W.cell? ⟨g1, 0 + n, none⟩ = some (.int .i64 u) := by rw [← hGW]; exact hcA _ _ _ _
  simp only [Nat.zero_add] at qa
  clear hGW hcA
  have hlt := heap_lt F.s
  have hBW : B ≤ W.heap.size := by have := HB.out; omega
  have hw3 : IntKind.i64.wrap (n : Int) = (n : Int) := by rw [IntKind.wrap_i64]; omega
  have hb1 : (0 : Int) ≤ (n : Int) := by omega
  have hb2 : (n : Int) < (n : Int) + 1 := by omega
  have hS0 : ((W.drew.cell? ⟨w.heap.size, 1, none⟩ = some (.slice (some ⟨g1, 0, none⟩) (n + 1) c1) ∧ W.drew.cell? ⟨w.heap.size, 2, none⟩ = some (.slice (some ⟨g2, 0, none⟩) bs.length c2)) ∧ W.drew.cell? ⟨w.heap.size + 1, 2, none⟩ = some (str s)) ∧ W.drew.cell? ⟨g1, n, none⟩ = some (.int .i64 u) :=
    ⟨⟨⟨(cells5 F.k).2.1, (cells5 F.k).2.2.1⟩, (cells3 F.o).2.2⟩, qa⟩
  have hS1 : ∀ w1 : World, W.drew.grownBy w1 (some g2) → ((w1.cell? ⟨w.heap.size, 1, none⟩ = some (.slice (some ⟨g1, 0, none⟩) (n + 1) c1) ∧ w1.cell? ⟨w.heap.size, 2, none⟩ = some (.slice (some ⟨g2, 0, none⟩) bs.length c2)) ∧ w1.cell? ⟨w.heap.size + 1, 2, none⟩ = some (str s)) ∧ w1.cell? ⟨g1, n, none⟩ = some (.int .i64 u) := fun w1 gr => by
    have hg2 : g2 < w.heap.size := (HR.out _ (.inr (.inl rfl))).2
    have hne : ¬ g1 = g2 := fun e => OC.a12 g1 rfl (by rw [e]; rfl)
    exact ⟨⟨⟨gr.cell hS0.1.1.1 (by intro e; simp at e; omega), gr.cell hS0.1.1.2 (by intro e; simp at e; omega)⟩, gr.cell hS0.1.2 (by intro e; simp at e; omega)⟩, gr.cell hS0.2 (by intro e; simp at e; exact hne e)⟩
  go_region_held3 (fun w' => ((w'.cell? ⟨w.heap.size, 1, none⟩ = some (.slice (some ⟨g1, 0, none⟩) (n + 1) c1) ∧ w'.cell? ⟨w.heap.size, 2, none⟩ = some (.slice (some ⟨g2, 0, none⟩) bs.length c2)) ∧ w'.cell? ⟨w.heap.size + 1, 2, none⟩ = some (str s)) ∧ w'.cell? ⟨g1, n, none⟩ = some (.int .i64 u))
    (first | exact hS0 | exact hS1 _ gr1)
    (first | (go_at_call 102; refine (HSX.out _ (show OwnBx W.drew B _ _ _ from OC.o2) hBW).mono ?_; rintro e w1 ⟨g', c', rfl, ob, hg, gr1, hw⟩; dsimp only at ob hw ⊢))
  clear hS0 hS1 qa HSX hw3 hb1 hb2
  replace F := F.drew
  replace OC := OC.drew
  replace bW := bW.drew
  generalize W.drew = V at *
  cases rb
  · obtain rfl : st = endS ⟨x, zs, bs, rs, y⟩ 4 := by rw [HST.out]; rfl
    obtain rfl := hw rfl
    clear ob gr1 hg hw HST hF
    have hr : ∀ k, rowsC (.slice (some ⟨g1, 0, none⟩) (n + 1) c1) (.slice (some ⟨g2, 0, none⟩) bs.length c2) (.slice (some ⟨g3, 0, none⟩) rs.length c3) k → k < w.heap.size ∨ w.heap.size + 4 ≤ k := fun k q => .inl (HR.out _ q).2
    obtain ⟨p0, p1, p2, p3, p4⟩ := cells5 F.k
    go_wp2_with fail
    refine (l9Bad_any x y _ _ _ _ _ _ _ _ _ _).mono ?_
    rintro e w2 ⟨rfl, b2⟩
    replace F := F.later b2
    replace OC := OC.later b2
    replace bW := below_then bW b2 HB.out
    clear p0 p1 p2 p3 p4 b2
    generalize w2 = Wd at *
    obtain ⟨r0, r1, r2, r3, r4, r5, r6, r7⟩ := cells8 F.r
    have f0 := frozen_row (k := 0) F.r
    have f1 := frozen_row (k := 1) F.r
    have f2 := frozen_row (k := 2) F.r
    have f3 := frozen_row (k := 3) F.r
    have f4 := frozen_row (k := 4) F.r
    have f5 := frozen_row (k := 5) F.r
    have f6 := frozen_row (k := 6) F.r
    have f7 := frozen_row (k := 7) F.r
    have ZB := Lib.hid (set8_blk F.r (.int .i64 (x)) (.slice (some ⟨g1, 0, none⟩) (n + 1) c1) (.slice (some ⟨g2, 0, none⟩) bs.length c2) (.slice (some ⟨g3, 0, none⟩) rs.length c3) (.int .i64 (4)) (.bool false) (.int .i64 0) (.int .i64 0))
    have OZ := Lib.hid (OC.set8 (N := w.heap.size + 1 + 1) (fun q => by have := hr _ q; omega) (.int .i64 (x)) (.slice (some ⟨g1, 0, none⟩) (n + 1) c1) (.slice (some ⟨g2, 0, none⟩) bs.length c2) (.slice (some ⟨g3, 0, none⟩) rs.length c3) (.int .i64 (4)) (.bool false) (.int .i64 0) (.int .i64 0))
    have BZ := Lib.hid (set8_below bW (show B ≤ w.heap.size + 1 + 1 by have := HB.out; omega) (.int .i64 (x)) (.slice (some ⟨g1, 0, none⟩) (n + 1) c1) (.slice (some ⟨g2, 0, none⟩) bs.length c2) (.slice (some ⟨g3, 0, none⟩) rs.length c3) (.int .i64 (4)) (.bool false) (.int .i64 0) (.int .i64 0))
    unfold set8 at ZB OZ BZ
    clear F OC bW
    go_wp2_with fail
    generalize World.setCell _ _ _ = Wc at *
    obtain ⟨y0, y1, y2, y3, y4, y5, y6, y7⟩ := cells8 ZB.out
    exact bodyPost_ret (v := .agg #[.int .i64 (x), .slice (some ⟨g1, 0, none⟩) (n + 1) c1, .slice (some ⟨g2, 0, none⟩) bs.length c2, .slice (some ⟨g3, 0, none⟩) rs.length c3, .int .i64 (4), .bool false, .int .i64 0, .int .i64 0]) (by simp [results, Tryz.results107, go_sem, y0, y1, y2, y3, y4, y5, y6, y7]) rfl (StepOut.mk HN.out rfl rfl OZ.out BZ.out)
  · obtain rfl : st = onS ⟨x + 1, zs.take n, bs', rs, y⟩ := by rw [HST.out]; rfl
    clear hw HST hF
    have OD := (OC.boxes ob gr1 hg).cut (k := n) (by have := HN.out; omega)
    have hgr : g' = g2 ∨ w.heap.size + 4 ≤ g' := by rcases hg with q | q; exact .inl q; exact .inr (by have := heap_lt F.s; omega)
    have FD := F.grown gr1 (fun k e => by injection e with e; subst e; exact (HR.out _ (.inr (.inl rfl))).2)
    have bD : Below B w w1 := bW.grown gr1 (by have := heap_lt F.s; have := HB.out; omega) (fun k e => by injection e with e; subst e; exact (HR.out _ (.inr (.inl rfl))).1)
    have hr : ∀ k, rowsC (.slice (some ⟨g1, 0, none⟩) n c1) (.slice (some ⟨g', 0, none⟩) bs'.length c') (.slice (some ⟨g3, 0, none⟩) rs.length c3) k → k < w.heap.size ∨ w.heap.size + 4 ≤ k := fun k q => by
      rcases q with q | q | q
      · exact .inl (HR.out _ (.inl (by simpa [Value.ownBlock] using q))).2
      · simp [Value.ownBlock] at q
        subst q
        rcases hgr with rfl | hgr
        · exact .inl (HR.out _ (.inr (.inl rfl))).2
        · exact .inr hgr
      · exact .inl (HR.out _ (.inr (.inr q))).2
    clear F OC bW ob gr1 hg hgr hlt hBW
    obtain ⟨p0, p1, p2, p3, p4⟩ := cells5 FD.k
    have f2 := frozen_row (k := 2) FD.k
    have f1 := frozen_row (k := 1) FD.k
    have hcapn : (n : Int) ≤ (c1 : Int) := by omega
    go_upto_region 45 with fail
    have F := (FD.setk2 (.slice (some ⟨g', 0, none⟩) bs'.length c')).setk1 (.slice (some ⟨g1, 0, none⟩) n c1)
    have OC := (OD.set (p := ⟨w.heap.size, 2, none⟩) (fun q => by have := hr _ q; simp at this; omega) (.slice (some ⟨g', 0, none⟩) bs'.length c')).set (p := ⟨w.heap.size, 1, none⟩) (fun q => by have := hr _ q; simp at this; omega) (.slice (some ⟨g1, 0, none⟩) n c1)
    have bW := (bD.setCell (show B ≤ (⟨w.heap.size, 2, none⟩ : Addr).block by exact HB.out) (.slice (some ⟨g', 0, none⟩) bs'.length c')).setCell (show B ≤ (⟨w.heap.size, 1, none⟩ : Addr).block by exact HB.out) (.slice (some ⟨g1, 0, none⟩) n c1)
    clear p0 p1 p2 p3 p4 f1 f2 FD OD bD
    generalize World.setCell _ _ _ = Wd at *
    have f0 := frozen_row (k := 0) F.k
    obtain ⟨p0, p1, p2, p3, p4⟩ := cells5 F.k
    go_upto_region 46 with fail
    replace F := F.setk (.int .i64 (x + 1))
    replace OC := OC.set (p := ⟨w.heap.size, 0, none⟩) (fun q => by have := hr _ q; simp at this; omega) (.int .i64 (x + 1))
    replace bW := bW.setCell (show B ≤ (⟨w.heap.size, 0, none⟩ : Addr).block by exact HB.out) (.int .i64 (x + 1))
    clear p0 p1 p2 p3 p4 f0
    generalize World.setCell _ _ _ = Wa at *
    obtain ⟨p0, p1, p2, p3, p4⟩ := cells5 F.k
    obtain ⟨q0, q1, q2, q3, q4, q5, q6, q7⟩ := cells8 F.s
    have f0 := frozen_row (k := 0) F.s
    have f1 := frozen_row (k := 1) F.s
    have f2 := frozen_row (k := 2) F.s
    have f3 := frozen_row (k := 3) F.s
    have f4 := frozen_row (k := 4) F.s
    go_upto_region 47 with fail
    replace F := F.sets (.int .i64 (x + 1)) (.slice (some ⟨g1, 0, none⟩) n c1) (.slice (some ⟨g', 0, none⟩) bs'.length c') (.slice (some ⟨g3, 0, none⟩) rs.length c3) (.int .i64 (y))
    replace OC := OC.set5 (N := w.heap.size + 1 + 1 + 1) (fun q => by have := hr _ q; omega) (.int .i64 (x + 1)) (.slice (some ⟨g1, 0, none⟩) n c1) (.slice (some ⟨g', 0, none⟩) bs'.length c') (.slice (some ⟨g3, 0, none⟩) rs.length c3) (.int .i64 (y))
    replace bW := set5_below bW (show B ≤ w.heap.size + 1 + 1 + 1 by have := HB.out; omega) (.int .i64 (x + 1)) (.slice (some ⟨g1, 0, none⟩) n c1) (.slice (some ⟨g', 0, none⟩) bs'.length c') (.slice (some ⟨g3, 0, none⟩) rs.length c3) (.int .i64 (y))
    unfold set5 at F OC bW
    clear p0 p1 p2 p3 p4 q0 q1 q2 q3 q4 q5 q6 q7 f0 f1 f2 f3 f4
    generalize World.setCell _ _ _ = Wb at *
    obtain ⟨q0, q1, q2, q3, q4, q5, q6, q7⟩ := cells8 F.s
    obtain ⟨r0, r1, r2, r3, r4, r5, r6, r7⟩ := cells8 F.r
    have f0 := frozen_row (k := 0) F.r
    have f1 := frozen_row (k := 1) F.r
    have f2 := frozen_row (k := 2) F.r
    have f3 := frozen_row (k := 3) F.r
    have f4 := frozen_row (k := 4) F.r
    have f5 := frozen_row (k := 5) F.r
    have f6 := frozen_row (k := 6) F.r
    have f7 := frozen_row (k := 7) F.r
    have ZB := Lib.hid (set8_blk F.r (.int .i64 (x + 1)) (.slice (some ⟨g1, 0, none⟩) n c1) (.slice (some ⟨g', 0, none⟩) bs'.length c') (.slice (some ⟨g3, 0, none⟩) rs.length c3) (.int .i64 (y)) (.bool false) (.int .i64 0) (.int .i64 0))
    have OZ := Lib.hid (OC.set8 (N := w.heap.size + 1 + 1) (fun q => by have := hr _ q; omega) (.int .i64 (x + 1)) (.slice (some ⟨g1, 0, none⟩) n c1) (.slice (some ⟨g', 0, none⟩) bs'.length c') (.slice (some ⟨g3, 0, none⟩) rs.length c3) (.int .i64 (y)) (.bool false) (.int .i64 0) (.int .i64 0))
    have BZ := Lib.hid (set8_below bW (show B ≤ w.heap.size + 1 + 1 by have := HB.out; omega) (.int .i64 (x + 1)) (.slice (some ⟨g1, 0, none⟩) n c1) (.slice (some ⟨g', 0, none⟩) bs'.length c') (.slice (some ⟨g3, 0, none⟩) rs.length c3) (.int .i64 (y)) (.bool false) (.int .i64 0) (.int .i64 0))
    unfold set8 at ZB OZ BZ
    clear F OC bW
    go_wp2_with fail
    generalize World.setCell _ _ _ = Wc at *
    obtain ⟨y0, y1, y2, y3, y4, y5, y6, y7⟩ := cells8 ZB.out
    exact bodyPost_ret (v := .agg #[.int .i64 (x + 1), .slice (some ⟨g1, 0, none⟩) n c1, .slice (some ⟨g', 0, none⟩) bs'.length c', .slice (some ⟨g3, 0, none⟩) rs.length c3, .int .i64 (y), .bool false, .int .i64 0, .int .i64 0]) (by simp [results, Tryz.results107, go_sem, y0, y1, y2, y3, y4, y5, y6, y7]) rfl (StepOut.mk HM.out rfl rfl OZ.out BZ.out)

end Go.Proofs.YtigcbegeaikfcaaGreatDoor
