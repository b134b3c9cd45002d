/- Layer 9 (the player): what the model's l9Do does at in. No conditions but those typed. -/
import Derived.Test.YtigcbegeaikfcaaGreatDoorCoreV
import Derived.Test.YtigcbegeaikfcaaGreatDoorCoreM
namespace Go.Proofs.YtigcbegeaikfcaaGreatDoor
open Go.RowKit
set_option linter.unusedVariables false

theorem OwnI.setV {w : World} {B g n c k : Nat} {e : TypeId} {zs : List Int} (h : OwnI w B e (.slice (some ⟨g, 0, none⟩) n c) zs) (hk : k < zs.length) (x : Int) : OwnI (w.setCell ⟨g, k, none⟩ (.int .i64 x)) B e (.slice (some ⟨g, 0, none⟩) n c) (zs.set k x) := by
  obtain ⟨hl, hr⟩ := h
  rcases hr with ⟨q, _⟩ | ⟨g2, c2, cur, q, h1, h2, h3, h4, h5, h6⟩
  · cases q
  · injection q with q1 q2 q3
    injection q1 with q1
    injection q1 with q1
    subst q1 q3 q2
    refine ⟨by simp, .inr ⟨g, c, cur.setIfInBounds k (.int .i64 x), by simp, h1, heap_set h2 _, by simpa using h3, h4, by rw [Array.size_setIfInBounds]; exact h5, ?_⟩⟩
    rw [Array.toList_setIfInBounds, List.take_set, List.length_set, h6, List.map_set]
theorem OwnC.setr {w : World} {B g n c k : Nat} {u1 u2 : Value} {zs : List Int} {bs : List Bx} {rs : List Int} (h : OwnC w B u1 u2 (.slice (some ⟨g, 0, none⟩) n c) zs bs rs) (hk : k < rs.length) (x : Int) : OwnC (w.setCell ⟨g, k, none⟩ (.int .i64 x)) B u1 u2 (.slice (some ⟨g, 0, none⟩) n c) zs bs (rs.set k x) := by
  have hon : Only (fun q => q = g) w (w.setCell ⟨g, k, none⟩ (.int .i64 x)) := ⟨rfl, rfl, rfl, by simp [World.setCell], fun q _ hn => Below.heap_setCell _ _ _ _ hn⟩
  exact ⟨own_only h.o1 hon (fun q hq e => h.a13 q hq (by rw [e]; rfl)), .of_row0 (own_only h.o2.row0 hon (fun q hq e => h.a23 q hq (by rw [e]; rfl))), h.o3.setV hk x, h.a12, h.a13, h.a23⟩
theorem Four.far {W : World} {N g k : Nat} {u k0 k1 k2 k3 k4 o0 o1 o2 s0 s1 s2 s3 s4 s5 s6 s7 : Value} (h : Four W N k0 k1 k2 k3 k4 o0 o1 o2 s0 s1 s2 s3 s4 s5 s6 s7) (hg : g < N) : Four (W.setCell ⟨g, k, none⟩ u) N k0 k1 k2 k3 k4 o0 o1 o2 s0 s1 s2 s3 s4 s5 s6 s7 :=
  ⟨by rw [Below.heap_setCell _ _ _ _ (by show N ≠ g; omega)]; exact h.k, by rw [Below.heap_setCell _ _ _ _ (by show N + 1 ≠ g; omega)]; exact h.o, by rw [Below.heap_setCell _ _ _ _ (by show N + 1 + 1 ≠ g; omega)]; exact h.r, by rw [Below.heap_setCell _ _ _ _ (by show N + 1 + 1 + 1 ≠ g; omega)]; exact h.s⟩
set_option maxHeartbeats 8000000 in
set_option maxRecDepth 100000 in
theorem do5_any
(B : Nat) (x m : Int) (s : List UInt8) (g1 g2 g3 c1 c2 c3 : Nat) (zs : List Int) (bs : List Bx) (rs : List Int) (y : Int) (v : Value) (w : World)
    (h : OwnC w B (.slice (some ⟨g1, 0, none⟩) zs.length c1) (.slice (some ⟨g2, 0, none⟩) bs.length c2) (.slice (some ⟨g3, 0, none⟩) rs.length c3) zs bs rs) (hB : B ≤ w.heap.size) (hx : 0 ≤ x ∧ x ≤ 300)
    (ss : List (List Int)) (sv : SeeSS w B v ss) (hm : 0 ≤ m) (hm4 : m.toNat < rs.length) (hr4 : rs.length = 4) (hms : m.toNat < ss.length) (hrd : ∀ r ∈ rs, 0 ≤ r ∧ r ≤ 100000) (hl12 : bs.length ≤ 12) (hzl : zs.length ≤ 60) :
    Calls Tryz.prog 107 #[.agg #[.int .i64 x, .slice (some ⟨g1, 0, none⟩) zs.length c1, .slice (some ⟨g2, 0, none⟩) bs.length c2, .slice (some ⟨g3, 0, none⟩) rs.length c3, .int .i64 y], .agg #[.int .i64 5, .int .i64 m, str s], v] w
      (StepOut B (if rs.getD m.toNat 0 = 100000 then endS ⟨x, zs, bs, rs, y⟩ 4
        else if (setS bs s (itemS ss m (rs.getD m.toNat 0))).2 = true then onS ⟨x + 1, zs, (setS bs s (itemS ss m (rs.getD m.toNat 0))).1, rs.set m.toNat (rs.getD m.toNat 0 + 1), y⟩ else endS ⟨x, zs, bs, rs, y⟩ 4) w) := by
  have HB := Lib.hid hB
  have HR := Lib.hid h.lt
  have F := four_new w (.int .i64 x) (.slice (some ⟨g1, 0, none⟩) zs.length c1) (.slice (some ⟨g2, 0, none⟩) bs.length c2) (.slice (some ⟨g3, 0, none⟩) rs.length c3) (.int .i64 y) (.int .i64 5) (.int .i64 m) (str s)
  have OC := h.later (below4 w (.cells #[.int .i64 x, .slice (some ⟨g1, 0, none⟩) zs.length c1, .slice (some ⟨g2, 0, none⟩) bs.length c2, .slice (some ⟨g3, 0, none⟩) rs.length c3, .int .i64 y] 27) (.cells #[.int .i64 5, .int .i64 m, str s] 41)
    (.cells #[.int .i64 0, .slice none 0 0, .slice none 0 0, .slice none 0 0, .int .i64 0, .bool false, .int .i64 0, .int .i64 0] 33) (.cells #[.int .i64 0, .slice none 0 0, .slice none 0 0, .slice none 0 0, .int .i64 0, .bool false, .int .i64 0, .int .i64 0] 33))
  have bW := (below4 w (.cells #[.int .i64 x, .slice (some ⟨g1, 0, none⟩) zs.length c1, .slice (some ⟨g2, 0, none⟩) bs.length c2, .slice (some ⟨g3, 0, none⟩) rs.length c3, .int .i64 y] 27) (.cells #[.int .i64 5, .int .i64 m, str s] 41)
    (.cells #[.int .i64 0, .slice none 0 0, .slice none 0 0, .slice none 0 0, .int .i64 0, .bool false, .int .i64 0, .int .i64 0] 33) (.cells #[.int .i64 0, .slice none 0 0, .slice none 0 0, .slice none 0 0, .int .i64 0, .bool false, .int .i64 0, .int .i64 0] 33)).mono hB
  obtain ⟨hx0, hx1⟩ := hx
  obtain ⟨i, rfl⟩ : ∃ i : Nat, m = i := ⟨m.toNat, by omega⟩
  rw [Int.toNat_natCast] at hm4 hms ⊢
  obtain ⟨A0, c0, hv⟩ := sv.shape
  subst hv
  obtain ⟨ga, oa, r, ea, -, hra, hca⟩ := h.o3.see.at_ (k := i) hm4
  injection ea with ea
  injection ea with ea1 ea2
  subst ea1 ea2
  have HG : Hid (rs.getD i 0 = r) := Lib.hid (by rw [List.getD_eq_getElem?_getD, hra]; rfl)
  have hrr := hrd r (List.mem_of_getElem? hra)
  obtain ⟨rn, hrn⟩ : ∃ q : Nat, r = q := ⟨r.toNat, by omega⟩
  subst hrn
  have hlta := World.block_lt_of_cell? _ _ hca
  have HR4 := Lib.hid hr4
  rw [HG.out]
  have hcA := fun a b d e => ((below4 w a b d e).cell (p := ⟨g3, 0 + i, none⟩) hlta).trans hca
  have svA := fun a b d e => sv.below ((below4 w a b d e).mono hB)
  have hi4 : i < 4 := by omega
  have hi4' : (i : Int) < (rs.length : Int) := by omega
  simp only [Nat.zero_add] at hcA
  clear hca h hB hra hr4 hrd
  obtain ⟨u, hu⟩ : ∃ u, itemS ss i rn = u := ⟨_, rfl⟩
  have HIT := Lib.hid (fun W q => l9Item_any B (.slice A0 ss.length c0) ss i rn W q hms (by omega))
  rw [hu] at HIT ⊢
  clear hu
  have HSX := Lib.hid (fun W o b => l6SetX_any B g2 c2 bs s u W o b hl12)
  obtain ⟨bs', rb, hr0⟩ : ∃ a b, setS bs s u = (a, b) := ⟨_, _, rfl⟩
  rw [hr0] at HSX ⊢
  obtain ⟨st, hst⟩ : ∃ st, st = (if (rn : Int) = 100000 then endS ⟨x, zs, bs, rs, y⟩ 4 else if (bs', rb).2 = true then onS ⟨x + 1, zs, (bs', rb).1, rs.set i ((rn : Int) + 1), y⟩ else endS ⟨x, zs, bs, rs, y⟩ 4) := ⟨_, rfl⟩
  rw [← hst]
  have HST := Lib.hid hst
  clear hst hr0
  have hr : ∀ k, rowsC (.slice (some ⟨g1, 0, none⟩) zs.length c1) (.slice (some ⟨g2, 0, none⟩) bs.length c2) (.slice (some ⟨g3, 0, none⟩) rs.length c3) k → k < w.heap.size ∨ w.heap.size + 4 ≤ k := fun k q => .inl (HR.out _ q).2
  by_cases h100 : (rn : Int) = 100000
  · obtain rfl : st = endS ⟨x, zs, bs, rs, y⟩ 4 := by rw [HST.out, if_pos h100]
    have hq : ((rn : Int) == 100000) = true := by simpa using h100
    clear h100
    go_enter Tryz.func107, Tryz.ntmps107
    go_wp2_with fail
    generalize World.alloc _ _ = W at *
    refine (l9Bad_any x y _ _ _ _ _ _ _ _ _ _).mono ?_
    rintro e w2 ⟨rfl, b2⟩
    replace F := F.later b2
    replace OC := OC.later b2
    replace bW := below_then bW b2 HB.out
    clear b2 hcA svA sv HSX HIT hrr hi4 hi4' hq hlta
    generalize w2 = Wd at *
    obtain ⟨r0, r1, r2, r3, r4, r5, r6, r7⟩ := cells8 F.r
    have f0 := frozen_row (k := 0) F.r
    have f1 := frozen_row (k := 1) F.r
    have f2 := frozen_row (k := 2) F.r
    have f3 := frozen_row (k := 3) F.r
    have f4 := frozen_row (k := 4) F.r
    have f5 := frozen_row (k := 5) F.r
    have f6 := frozen_row (k := 6) F.r
    have f7 := frozen_row (k := 7) F.r
    have ZB := Lib.hid (set8_blk F.r (.int .i64 (x)) (.slice (some ⟨g1, 0, none⟩) zs.length c1) (.slice (some ⟨g2, 0, none⟩) bs.length c2) (.slice (some ⟨g3, 0, none⟩) rs.length c3) (.int .i64 (4)) (.bool false) (.int .i64 0) (.int .i64 0))
    have OZ := Lib.hid (OC.set8 (N := w.heap.size + 1 + 1) (fun q => by have := hr _ q; omega) (.int .i64 (x)) (.slice (some ⟨g1, 0, none⟩) zs.length c1) (.slice (some ⟨g2, 0, none⟩) bs.length c2) (.slice (some ⟨g3, 0, none⟩) rs.length c3) (.int .i64 (4)) (.bool false) (.int .i64 0) (.int .i64 0))
    have BZ := Lib.hid (set8_below bW (show B ≤ w.heap.size + 1 + 1 by have := HB.out; omega) (.int .i64 (x)) (.slice (some ⟨g1, 0, none⟩) zs.length c1) (.slice (some ⟨g2, 0, none⟩) bs.length c2) (.slice (some ⟨g3, 0, none⟩) rs.length c3) (.int .i64 (4)) (.bool false) (.int .i64 0) (.int .i64 0))
    unfold set8 at ZB OZ BZ
    clear F OC bW
    go_wp2_with fail
    generalize World.setCell _ _ _ = Wc at *
    obtain ⟨y0, y1, y2, y3, y4, y5, y6, y7⟩ := cells8 ZB.out
    exact bodyPost_ret (v := .agg #[.int .i64 (x), .slice (some ⟨g1, 0, none⟩) zs.length c1, .slice (some ⟨g2, 0, none⟩) bs.length c2, .slice (some ⟨g3, 0, none⟩) rs.length c3, .int .i64 (4), .bool false, .int .i64 0, .int .i64 0]) (by simp [results, Tryz.results107, go_sem, y0, y1, y2, y3, y4, y5, y6, y7]) rfl (StepOut.mk rfl rfl rfl OZ.out BZ.out)
  have hq : ((rn : Int) == 100000) = false := by simpa using h100
  go_enter Tryz.func107, Tryz.ntmps107
  go_upto_region 25 with fail
  generalize hGW : World.alloc _ _ = W at *
  have qa : W.cell? ⟨g3, i, none⟩ = some (.int .i64 rn) := by rw [← hGW]; exact hcA _ _ _ _
  have svW : SeeSS W B (.slice A0 ss.length c0) ss := by rw [← hGW]; exact svA _ _ _ _
  clear hGW hcA svA sv
  have hlt := heap_lt F.s
  have hBW : B ≤ W.heap.size := by have := HB.out; omega
  have hS0 : (W.drew.cell? ⟨w.heap.size, 2, none⟩ = some (.slice (some ⟨g2, 0, none⟩) bs.length c2) ∧ W.drew.cell? ⟨w.heap.size + 1, 1, none⟩ = some (.int .i64 i)) ∧ W.drew.cell? ⟨w.heap.size + 1, 2, none⟩ = some (str s) :=
    ⟨⟨(cells5 F.k).2.2.1, (cells3 F.o).2.1⟩, (cells3 F.o).2.2⟩
  have hg2 : g2 < w.heap.size := (HR.out _ (.inr (.inl rfl))).2
  have hS1 : ∀ w1 : World, W.drew.grownBy w1 (some g2) → (w1.cell? ⟨w.heap.size, 2, none⟩ = some (.slice (some ⟨g2, 0, none⟩) bs.length c2) ∧ w1.cell? ⟨w.heap.size + 1, 1, none⟩ = some (.int .i64 i)) ∧ w1.cell? ⟨w.heap.size + 1, 2, none⟩ = some (str s) := fun w1 gr =>
    ⟨⟨gr.cell hS0.1.1 (by intro e; simp at e; omega), gr.cell hS0.1.2 (by intro e; simp at e; omega)⟩, gr.cell hS0.2 (by intro e; simp at e; omega)⟩
  have svD : SeeSS W.drew B (.slice A0 ss.length c0) ss := svW.below ((Below.refl _ _).drew)
  go_region_held3 (fun w' => (w'.cell? ⟨w.heap.size, 2, none⟩ = some (.slice (some ⟨g2, 0, none⟩) bs.length c2) ∧ w'.cell? ⟨w.heap.size + 1, 1, none⟩ = some (.int .i64 i)) ∧ w'.cell? ⟨w.heap.size + 1, 2, none⟩ = some (str s))
    (first | exact hS0 | exact hS1 _ gr1)
    (first | (go_at_call 102; refine (HSX.out _ (show OwnBx W.drew B _ _ _ from OC.o2) hBW).mono ?_; rintro e w1 ⟨g', c', rfl, ob, hg, gr1, hw⟩; dsimp only at ob hw ⊢) |
      (go_at_call 147; refine (HIT.out _ svD).mono ?_; rintro e w0 ⟨rfl, rfl⟩))
  have qd : W.drew.cell? ⟨g3, i, none⟩ = some (.int .i64 rn) := qa
  clear hS0 hS1 HSX HIT svW svD qa
  replace F := F.drew
  replace OC := OC.drew
  replace bW := bW.drew
  generalize W.drew = V at *
  cases rb
  · obtain rfl : st = endS ⟨x, zs, bs, rs, y⟩ 4 := by rw [HST.out, if_neg h100]; rfl
    obtain rfl := hw rfl
    clear ob gr1 hg hw HST
    obtain ⟨p0, p1, p2, p3, p4⟩ := cells5 F.k
    go_wp2_with fail
    refine (l9Bad_any x y _ _ _ _ _ _ _ _ _ _).mono ?_
    rintro e w2 ⟨rfl, b2⟩
    replace F := F.later b2
    replace OC := OC.later b2
    replace bW := below_then bW b2 HB.out
    clear p0 p1 p2 p3 p4 b2 qd
    generalize w2 = Wd at *
    obtain ⟨r0, r1, r2, r3, r4, r5, r6, r7⟩ := cells8 F.r
    have f0 := frozen_row (k := 0) F.r
    have f1 := frozen_row (k := 1) F.r
    have f2 := frozen_row (k := 2) F.r
    have f3 := frozen_row (k := 3) F.r
    have f4 := frozen_row (k := 4) F.r
    have f5 := frozen_row (k := 5) F.r
    have f6 := frozen_row (k := 6) F.r
    have f7 := frozen_row (k := 7) F.r
    have ZB := Lib.hid (set8_blk F.r (.int .i64 (x)) (.slice (some ⟨g1, 0, none⟩) zs.length c1) (.slice (some ⟨g2, 0, none⟩) bs.length c2) (.slice (some ⟨g3, 0, none⟩) rs.length c3) (.int .i64 (4)) (.bool false) (.int .i64 0) (.int .i64 0))
    have OZ := Lib.hid (OC.set8 (N := w.heap.size + 1 + 1) (fun q => by have := hr _ q; omega) (.int .i64 (x)) (.slice (some ⟨g1, 0, none⟩) zs.length c1) (.slice (some ⟨g2, 0, none⟩) bs.length c2) (.slice (some ⟨g3, 0, none⟩) rs.length c3) (.int .i64 (4)) (.bool false) (.int .i64 0) (.int .i64 0))
    have BZ := Lib.hid (set8_below bW (show B ≤ w.heap.size + 1 + 1 by have := HB.out; omega) (.int .i64 (x)) (.slice (some ⟨g1, 0, none⟩) zs.length c1) (.slice (some ⟨g2, 0, none⟩) bs.length c2) (.slice (some ⟨g3, 0, none⟩) rs.length c3) (.int .i64 (4)) (.bool false) (.int .i64 0) (.int .i64 0))
    unfold set8 at ZB OZ BZ
    clear F OC bW
    go_wp2_with fail
    generalize World.setCell _ _ _ = Wc at *
    obtain ⟨y0, y1, y2, y3, y4, y5, y6, y7⟩ := cells8 ZB.out
    exact bodyPost_ret (v := .agg #[.int .i64 (x), .slice (some ⟨g1, 0, none⟩) zs.length c1, .slice (some ⟨g2, 0, none⟩) bs.length c2, .slice (some ⟨g3, 0, none⟩) rs.length c3, .int .i64 (4), .bool false, .int .i64 0, .int .i64 0]) (by simp [results, Tryz.results107, go_sem, y0, y1, y2, y3, y4, y5, y6, y7]) rfl (StepOut.mk rfl rfl rfl OZ.out BZ.out)
  · obtain rfl : st = onS ⟨x + 1, zs, bs', rs.set i ((rn : Int) + 1), y⟩ := by rw [HST.out, if_neg h100]; rfl
    clear hw HST
    have OD := OC.boxes ob gr1 hg
    have hgr : g' = g2 ∨ w.heap.size + 4 ≤ g' := by rcases hg with q | q; exact .inl q; exact .inr (by have := heap_lt F.s; omega)
    have hne : ¬ g3 = g2 := fun e => OC.a23 g3 (by rw [e]; rfl) rfl
    have qz : w1.cell? ⟨g3, i, none⟩ = some (.int .i64 rn) := gr1.cell qd (by intro e; simp at e; exact hne e)
    have FD := F.grown gr1 (fun k e => by injection e with e; subst e; exact (HR.out _ (.inr (.inl rfl))).2)
    have bD : Below B w w1 := bW.grown gr1 (by have := heap_lt F.s; have := HB.out; omega) (fun k e => by injection e with e; subst e; exact (HR.out _ (.inr (.inl rfl))).1)
    have hg3 : g3 < w.heap.size := (HR.out _ (.inr (.inr rfl))).2
    have hg3B : B ≤ g3 := (HR.out _ (.inr (.inr rfl))).1
    have fz : w1.frozen? ⟨g3, i, none⟩ = false := by
      rcases OD.o3.2 with ⟨q, _⟩ | ⟨gq, cq, cur, q, _, hb, _⟩
      · cases q
      · injection q with q1
        injection q1 with q1
        injection q1 with q1
        subst q1
        exact frozen_row hb
    have hr : ∀ k, rowsC (.slice (some ⟨g1, 0, none⟩) zs.length c1) (.slice (some ⟨g', 0, none⟩) bs'.length c') (.slice (some ⟨g3, 0, none⟩) rs.length c3) k → k < w.heap.size ∨ w.heap.size + 4 ≤ k := fun k q => by
      rcases q with q | q | q
      · exact .inl (HR.out _ (.inl q)).2
      · simp [Value.ownBlock] at q
        subst q
        rcases hgr with rfl | hgr
        · exact .inl (HR.out _ (.inr (.inl rfl))).2
        · exact .inr hgr
      · exact .inl (HR.out _ (.inr (.inr q))).2
    have HLS : Hid ((rs.set i ((rn : Int) + 1)).length = rs.length) := Lib.hid (by simp)
    clear F OC bW ob gr1 hg hgr hBW qd hne hlt
    obtain ⟨p0, p1, p2, p3, p4⟩ := cells5 FD.k
    obtain ⟨q0, q1, q2⟩ := cells3 FD.o
    have f2 := frozen_row (k := 2) FD.k
    have hi0 : (0 : Int) ≤ (i : Int) := by omega
    go_upto_region 29 with fail
    replace FD := FD.setk2 (.slice (some ⟨g', 0, none⟩) bs'.length c')
    replace OD := OD.set (p := ⟨w.heap.size, 2, none⟩) (fun q => by have := hr _ q; simp at this; omega) (.slice (some ⟨g', 0, none⟩) bs'.length c')
    replace bD := bD.setCell (show B ≤ (⟨w.heap.size, 2, none⟩ : Addr).block by exact HB.out) (.slice (some ⟨g', 0, none⟩) bs'.length c')
    have qy : (w1.setCell ⟨w.heap.size, 2, none⟩ (.slice (some ⟨g', 0, none⟩) bs'.length c')).cell? ⟨g3, i, none⟩ = some (.int .i64 rn) := (World.cell?_of_block (Below.heap_setCell _ _ _ _ (by show g3 ≠ w.heap.size; omega))).trans qz
    have fy : (w1.setCell ⟨w.heap.size, 2, none⟩ (.slice (some ⟨g', 0, none⟩) bs'.length c')).frozen? ⟨g3, i, none⟩ = false := (World.frozen?_of_block (Below.heap_setCell _ _ _ _ (by show g3 ≠ w.heap.size; omega))).trans fz
    clear p0 p1 p2 p3 p4 q0 q1 q2 f2 fz qz
    generalize w1.setCell _ _ = We at *
    obtain ⟨p0, p1, p2, p3, p4⟩ := cells5 FD.k
    obtain ⟨q0, q1, q2⟩ := cells3 FD.o
    go_upto_region 45 with fail
    have F := FD.far (k := i) (u := .int .i64 ((rn : Int) + 1)) hg3
    have OC := OD.setr (k := i) (by have := HR4.out; omega) ((rn : Int) + 1)
    have bW := bD.setCell (show B ≤ (⟨g3, i, none⟩ : Addr).block by exact hg3B) (.int .i64 ((rn : Int) + 1))
    clear p0 p1 p2 p3 p4 q0 q1 q2 FD OD bD qy fy
    generalize World.setCell _ _ _ = Wd at *
    have f0 := frozen_row (k := 0) F.k
    obtain ⟨p0, p1, p2, p3, p4⟩ := cells5 F.k
    go_upto_region 46 with fail
    replace F := F.setk (.int .i64 (x + 1))
    replace OC := OC.set (p := ⟨w.heap.size, 0, none⟩) (fun q => by have := hr _ q; simp at this; omega) (.int .i64 (x + 1))
    replace bW := bW.setCell (show B ≤ (⟨w.heap.size, 0, none⟩ : Addr).block by exact HB.out) (.int .i64 (x + 1))
    clear p0 p1 p2 p3 p4 f0
    generalize World.setCell _ _ _ = Wa at *
    obtain ⟨p0, p1, p2, p3, p4⟩ := cells5 F.k
    obtain ⟨q0, q1, q2, q3, q4, q5, q6, q7⟩ := cells8 F.s
    have f0 := frozen_row (k := 0) F.s
    have f1 := frozen_row (k := 1) F.s
    have f2 := frozen_row (k := 2) F.s
    have f3 := frozen_row (k := 3) F.s
    have f4 := frozen_row (k := 4) F.s
    go_upto_region 47 with fail
    replace F := F.sets (.int .i64 (x + 1)) (.slice (some ⟨g1, 0, none⟩) zs.length c1) (.slice (some ⟨g', 0, none⟩) bs'.length c') (.slice (some ⟨g3, 0, none⟩) rs.length c3) (.int .i64 (y))
    replace OC := OC.set5 (N := w.heap.size + 1 + 1 + 1) (fun q => by have := hr _ q; omega) (.int .i64 (x + 1)) (.slice (some ⟨g1, 0, none⟩) zs.length c1) (.slice (some ⟨g', 0, none⟩) bs'.length c') (.slice (some ⟨g3, 0, none⟩) rs.length c3) (.int .i64 (y))
    replace bW := set5_below bW (show B ≤ w.heap.size + 1 + 1 + 1 by have := HB.out; omega) (.int .i64 (x + 1)) (.slice (some ⟨g1, 0, none⟩) zs.length c1) (.slice (some ⟨g', 0, none⟩) bs'.length c') (.slice (some ⟨g3, 0, none⟩) rs.length c3) (.int .i64 (y))
    unfold set5 at F OC bW
    clear p0 p1 p2 p3 p4 q0 q1 q2 q3 q4 q5 q6 q7 f0 f1 f2 f3 f4
    generalize World.setCell _ _ _ = Wb at *
    obtain ⟨q0, q1, q2, q3, q4, q5, q6, q7⟩ := cells8 F.s
    obtain ⟨r0, r1, r2, r3, r4, r5, r6, r7⟩ := cells8 F.r
    have f0 := frozen_row (k := 0) F.r
    have f1 := frozen_row (k := 1) F.r
    have f2 := frozen_row (k := 2) F.r
    have f3 := frozen_row (k := 3) F.r
    have f4 := frozen_row (k := 4) F.r
    have f5 := frozen_row (k := 5) F.r
    have f6 := frozen_row (k := 6) F.r
    have f7 := frozen_row (k := 7) F.r
    have ZB := Lib.hid (set8_blk F.r (.int .i64 (x + 1)) (.slice (some ⟨g1, 0, none⟩) zs.length c1) (.slice (some ⟨g', 0, none⟩) bs'.length c') (.slice (some ⟨g3, 0, none⟩) rs.length c3) (.int .i64 (y)) (.bool false) (.int .i64 0) (.int .i64 0))
    have OZ := Lib.hid (OC.set8 (N := w.heap.size + 1 + 1) (fun q => by have := hr _ q; omega) (.int .i64 (x + 1)) (.slice (some ⟨g1, 0, none⟩) zs.length c1) (.slice (some ⟨g', 0, none⟩) bs'.length c') (.slice (some ⟨g3, 0, none⟩) rs.length c3) (.int .i64 (y)) (.bool false) (.int .i64 0) (.int .i64 0))
    have BZ := Lib.hid (set8_below bW (show B ≤ w.heap.size + 1 + 1 by have := HB.out; omega) (.int .i64 (x + 1)) (.slice (some ⟨g1, 0, none⟩) zs.length c1) (.slice (some ⟨g', 0, none⟩) bs'.length c') (.slice (some ⟨g3, 0, none⟩) rs.length c3) (.int .i64 (y)) (.bool false) (.int .i64 0) (.int .i64 0))
    unfold set8 at ZB OZ BZ
    clear F OC bW
    go_wp2_with fail
    generalize World.setCell _ _ _ = Wc at *
    obtain ⟨y0, y1, y2, y3, y4, y5, y6, y7⟩ := cells8 ZB.out
    exact bodyPost_ret (v := .agg #[.int .i64 (x + 1), .slice (some ⟨g1, 0, none⟩) zs.length c1, .slice (some ⟨g', 0, none⟩) bs'.length c', .slice (some ⟨g3, 0, none⟩) rs.length c3, .int .i64 (y), .bool false, .int .i64 0, .int .i64 0]) (by simp [results, Tryz.results107, go_sem, y0, y1, y2, y3, y4, y5, y6, y7]) rfl (StepOut.mk rfl rfl HLS.out OZ.out BZ.out)

end Go.Proofs.YtigcbegeaikfcaaGreatDoor
