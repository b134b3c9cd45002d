/- Layer 9 (the player): what the model's l9Do does at do. No conditions but those typed. -/
import Derived.Test.YtigcbegeaikfcaaGreatDoorCoreQ
import Derived.BigQuiet
namespace Go.Proofs.YtigcbegeaikfcaaGreatDoor
open Go.RowKit
set_option linter.unusedVariables false

set_option maxHeartbeats 8000000 in
set_option maxRecDepth 100000 in
theorem do3_any
(B : Nat) (x m : Int) (s : List UInt8) (g1 g2 g3 c1 c2 c3 : Nat) (zs : List Int) (bs : List Bx) (rs : List Int) (y : Int) (v : Value) (w : World)
    (h : OwnC w B (.slice (some ⟨g1, 0, none⟩) zs.length c1) (.slice (some ⟨g2, 0, none⟩) bs.length c2) (.slice (some ⟨g3, 0, none⟩) rs.length c3) zs bs rs) (hB : B ≤ w.heap.size) (hx : 0 ≤ x ∧ x ≤ 300)
    (hn : 2 ≤ zs.length) (hn2 : zs.length ≤ 60) :
    Calls Tryz.prog 107 #[.agg #[.int .i64 x, .slice (some ⟨g1, 0, none⟩) zs.length c1, .slice (some ⟨g2, 0, none⟩) bs.length c2, .slice (some ⟨g3, 0, none⟩) rs.length c3, .int .i64 y], .agg #[.int .i64 3, .int .i64 m, str s], v] w
      (StepOut B (if (didS m (topS zs 2) (topS zs 1)).2 = true then onS ⟨x + 1, cutS zs 2 ++ [(didS m (topS zs 2) (topS zs 1)).1], bs, rs, y⟩ else endS ⟨x, zs, bs, rs, y⟩ 3) w) := by
  obtain ⟨i0, hi, hz0, hz1, hz2⟩ := info_parts Tryz.infoI64
  obtain ⟨n, hln⟩ : ∃ n, zs.length = n + 2 := ⟨zs.length - 2, by omega⟩
  obtain ⟨ga, oa, ua, ea, -, hua, hca⟩ := h.o1.see.at_ (k := zs.length - 2) (by omega)
  obtain ⟨gb, ob, ub, eb, -, hub, hcb⟩ := h.o1.see.at_ (k := zs.length - 1) (by omega)
  injection ea with ea
  injection ea with ea1 ea2
  subst ea1 ea2
  injection eb with eb
  injection eb with eb1 eb2
  subst eb1 eb2
  have hcap : (n : Int) + 2 ≤ (c1 : Int) := by have := h.o1.cap.1; omega
  have hcap2 : (c1 : Int) ≤ 9223372036854775807 := by have := h.o1.cap.2; unfold maxLen at this; omega
  have hcp : zs.length ≤ c1 := h.o1.cap.1
  rw [hln, show n + 2 - 2 = n by omega] at hca hua
  rw [hln, show n + 2 - 1 = n + 1 by omega] at hcb hub
  have HA : Hid (topS zs 2 = ua) := Lib.hid (by unfold topS; rw [hln, show n + 2 - 2 = n by omega, List.getD_eq_getElem?_getD, hua]; rfl)
  have HC : Hid (topS zs 1 = ub) := Lib.hid (by unfold topS; rw [hln, show n + 2 - 1 = n + 1 by omega, List.getD_eq_getElem?_getD, hub]; rfl)
  have hlta := World.block_lt_of_cell? _ _ hca
  have HN := Lib.hid hln
  have HL : Hid (cutS zs 2 = zs.take n) := Lib.hid (by unfold cutS; rw [hln, show n + 2 - 2 = n by omega])
  have HM : Hid ((zs.take n).length = n) := Lib.hid (by rw [List.length_take]; omega)
  have hn60 : n + 2 ≤ 60 := by omega
  rw [hln] at h ⊢
  have HB := Lib.hid hB
  have HR := Lib.hid h.lt
  have F := four_new w (.int .i64 x) (.slice (some ⟨g1, 0, none⟩) (n + 2) c1) (.slice (some ⟨g2, 0, none⟩) bs.length c2) (.slice (some ⟨g3, 0, none⟩) rs.length c3) (.int .i64 y) (.int .i64 3) (.int .i64 m) (str s)
  have OC := h.later (below4 w (.cells #[.int .i64 x, .slice (some ⟨g1, 0, none⟩) (n + 2) c1, .slice (some ⟨g2, 0, none⟩) bs.length c2, .slice (some ⟨g3, 0, none⟩) rs.length c3, .int .i64 y] 27) (.cells #[.int .i64 3, .int .i64 m, str s] 41)
    (.cells #[.int .i64 0, .slice none 0 0, .slice none 0 0, .slice none 0 0, .int .i64 0, .bool false, .int .i64 0, .int .i64 0] 33) (.cells #[.int .i64 0, .slice none 0 0, .slice none 0 0, .slice none 0 0, .int .i64 0, .bool false, .int .i64 0, .int .i64 0] 33))
  have bW := (below4 w (.cells #[.int .i64 x, .slice (some ⟨g1, 0, none⟩) (n + 2) c1, .slice (some ⟨g2, 0, none⟩) bs.length c2, .slice (some ⟨g3, 0, none⟩) rs.length c3, .int .i64 y] 27) (.cells #[.int .i64 3, .int .i64 m, str s] 41)
    (.cells #[.int .i64 0, .slice none 0 0, .slice none 0 0, .slice none 0 0, .int .i64 0, .bool false, .int .i64 0, .int .i64 0] 33) (.cells #[.int .i64 0, .slice none 0 0, .slice none 0 0, .slice none 0 0, .int .i64 0, .bool false, .int .i64 0, .int .i64 0] 33)).mono hB
  obtain ⟨hx0, hx1⟩ := hx
  rw [HA.out, HC.out, HL.out]
  have hcA := fun a b d e => ((below4 w a b d e).cell (p := ⟨g1, 0 + n, none⟩) hlta).trans hca
  have hcB := fun a b d e => ((below4 w a b d e).cell (p := ⟨g1, 0 + (n + 1), none⟩) hlta).trans hcb
  clear hca hcb h hB hua hub hn hn2 hln
  have HD := Lib.hid (fun W => sDid_any m ua ub W)
  go_enter Tryz.func107, Tryz.ntmps107
  go_upto_region 10 with fail
  generalize hGW : World.alloc _ _ = W at *
  have qa : W.cell? ⟨g1, 0 + n, none⟩ = some (.int .i64 ua) := by rw [← hGW]; exact hcA _ _ _ _
  have qb : W.cell? ⟨g1, 0 + (n + 1), none⟩ = some (.int .i64 ub) := by rw [← hGW]; exact hcB _ _ _ _
  simp only [Nat.zero_add] at qa qb
  clear hGW hcA hcB
  obtain ⟨p0, p1, p2, p3, p4⟩ := cells5 F.k
  obtain ⟨q0, q1, q2⟩ := cells3 F.o
  generalize didS m ua ub = r at *
  obtain ⟨rv, rb⟩ := r
  obtain ⟨st, hst⟩ : ∃ st, st = (if (rv, rb).2 = true then onS ⟨x + 1, zs.take n ++ [(rv, rb).1], bs, rs, y⟩ else endS ⟨x, zs, bs, rs, y⟩ 3) := ⟨_, rfl⟩
  rw [← hst]
  have HST := Lib.hid hst
  clear hst
  have hw3 : IntKind.i64.wrap (n : Int) = (n : Int) := by rw [IntKind.wrap_i64]; omega
  have hw4 : IntKind.i64.wrap ((n : Int) + 2 - 1) = (n : Int) + 1 := by rw [IntKind.wrap_i64]; omega
  have hb1 : (0 : Int) ≤ (n : Int) := by omega
  have hb2 : (n : Int) < (n : Int) + 2 := by omega
  have hb3 : (0 : Int) ≤ (n : Int) + 1 := by omega
  have hb4 : (n : Int) + 1 < (n : Int) + 2 := by omega
  have ht1 : ((n : Int) + 1).toNat = n + 1 := by omega
  go_quiet (first | (go_at_call 146; exact Calls.quiet_of_same ((HD.out _).mono fun e w1 q => ⟨q.1, q.2.symm⟩)))
  clear hw3 hw4 hb1 hb2 hb3 hb4 ht1 p0 p1 p2 p3 p4 q0 q1 q2 qa qb HD
  generalize hQ : World.drewN _ _ = V
  obtain ⟨nq, hnq⟩ : ∃ k, V = W.drewN k := ⟨_, hQ.symm⟩
  clear hQ
  have FV := F.drewN nq
  have OV := OC.drewN nq
  have bV := below_drewN bW nq
  rw [← hnq] at FV OV bV
  have hlt := heap_lt FV.s
  clear hnq F OC bW
  cases rb
  · obtain rfl : st = endS ⟨x, zs, bs, rs, y⟩ 3 := by rw [HST.out]; rfl
    have hr : ∀ k, rowsC (.slice (some ⟨g1, 0, none⟩) (n + 2) c1) (.slice (some ⟨g2, 0, none⟩) bs.length c2) (.slice (some ⟨g3, 0, none⟩) rs.length c3) k → k < w.heap.size ∨ w.heap.size + 4 ≤ k := fun k q => .inl (HR.out _ q).2
    obtain ⟨p0, p1, p2, p3, p4⟩ := cells5 FV.k
    have f4 := frozen_row (k := 4) FV.k
    go_upto_region 13 with fail
    have F := FV.setk4 (.int .i64 3)
    have OC := OV.set (p := ⟨w.heap.size, 4, none⟩) (fun q => by have := hr _ q; simp at this; omega) (.int .i64 3)
    have bW := bV.setCell (show B ≤ (⟨w.heap.size, 4, none⟩ : Addr).block by exact HB.out) (.int .i64 3)
    clear p0 p1 p2 p3 p4 f4 FV OV bV
    generalize World.setCell _ _ _ = Wd at *
    obtain ⟨p0, p1, p2, p3, p4⟩ := cells5 F.k
    obtain ⟨r0, r1, r2, r3, r4, r5, r6, r7⟩ := cells8 F.r
    have f0 := frozen_row (k := 0) F.r
    have f1 := frozen_row (k := 1) F.r
    have f2 := frozen_row (k := 2) F.r
    have f3 := frozen_row (k := 3) F.r
    have f4 := frozen_row (k := 4) F.r
    have f5 := frozen_row (k := 5) F.r
    have f6 := frozen_row (k := 6) F.r
    have f7 := frozen_row (k := 7) F.r
    have ZB := Lib.hid (set8_blk F.r (.int .i64 (x)) (.slice (some ⟨g1, 0, none⟩) (n + 2) c1) (.slice (some ⟨g2, 0, none⟩) bs.length c2) (.slice (some ⟨g3, 0, none⟩) rs.length c3) (.int .i64 (3)) (.bool false) (.int .i64 0) (.int .i64 0))
    have OZ := Lib.hid (OC.set8 (N := w.heap.size + 1 + 1) (fun q => by have := hr _ q; omega) (.int .i64 (x)) (.slice (some ⟨g1, 0, none⟩) (n + 2) c1) (.slice (some ⟨g2, 0, none⟩) bs.length c2) (.slice (some ⟨g3, 0, none⟩) rs.length c3) (.int .i64 (3)) (.bool false) (.int .i64 0) (.int .i64 0))
    have BZ := Lib.hid (set8_below bW (show B ≤ w.heap.size + 1 + 1 by have := HB.out; omega) (.int .i64 (x)) (.slice (some ⟨g1, 0, none⟩) (n + 2) c1) (.slice (some ⟨g2, 0, none⟩) bs.length c2) (.slice (some ⟨g3, 0, none⟩) rs.length c3) (.int .i64 (3)) (.bool false) (.int .i64 0) (.int .i64 0))
    unfold set8 at ZB OZ BZ
    clear F OC bW
    go_wp2_with fail
    generalize World.setCell _ _ _ = Wc at *
    obtain ⟨y0, y1, y2, y3, y4, y5, y6, y7⟩ := cells8 ZB.out
    exact bodyPost_ret (v := .agg #[.int .i64 (x), .slice (some ⟨g1, 0, none⟩) (n + 2) c1, .slice (some ⟨g2, 0, none⟩) bs.length c2, .slice (some ⟨g3, 0, none⟩) rs.length c3, .int .i64 (3), .bool false, .int .i64 0, .int .i64 0]) (by simp [results, Tryz.results107, go_sem, y0, y1, y2, y3, y4, y5, y6, y7]) rfl (StepOut.mk HN.out rfl rfl OZ.out BZ.out)
  · obtain rfl : st = onS ⟨x + 1, zs.take n ++ [rv], bs, rs, y⟩ := by rw [HST.out]; rfl
    have hBV : B ≤ V.heap.size := by have := HB.out; omega
    have bA := below_new V (.cells #[.int .i64 rv] 2)
    have OV2 : OwnC V B (.slice (some ⟨g1, 0, none⟩) (zs.take n).length c1) (.slice (some ⟨g2, 0, none⟩) bs.length c2) (.slice (some ⟨g3, 0, none⟩) rs.length c3) (zs.take n) bs rs := by rw [HM.out]; exact OV.cut (by have := HN.out; omega)
    have OA := OV2.later bA
    have FA := FV.later bA
    have HL2 : Hid ((zs.take n ++ [rv]).length = n + 1) := Lib.hid (by rw [List.length_append, HM.out]; rfl)
    obtain ⟨p0, p1, p2, p3, p4⟩ := cells5 FV.k
    have hcapn : (n : Int) ≤ (c1 : Int) := by omega
    go_upto_region 45 with (at_builtin; refine wpList_append_own_at _ rfl _ _ 24 rfl B 2 i0 (.int .i64 0) 1 8 Tryz.underlying24 hi hz0 hz1 hz2 rfl (by decide) _ _ _ rfl (by have q := OA.o1; unfold OwnI at q; rw [HM.out] at q; exact q) ⟨V.heap.size, 0, none⟩ 1 1 [.int .i64 rv] rfl rfl (cell_one_new _ _ _) (by intro u hu; simp at hu; subst hu; rfl) (by unfold maxLen; omega) (by omega) (Nat.le_trans hBV bA.size) ?_; intro v1 w1 hown hgr hnil hat; (obtain ⟨g, c, rfl, OD, hg⟩ := OA.push (Nat.le_trans hBV bA.size) (by rw [HM.out]; exact hown) hgr (fun q => by have := (hnil.1 q).1; cases this) hat); rw [HM.out] at OD ⊢; have FD := FA.grown hgr (fun k e => by injection e with e; subst e; exact (HR.out _ (.inl rfl)).2); obtain ⟨z0, z1, z2, z3, z4⟩ := cells5 FD.k; have fz := frozen_row (k := 1) FD.k)
    replace bV := (bV.alloc hBV (.cells #[.int .i64 rv] 2)).grown hgr (Nat.le_trans hBV bA.size) (fun k e => by injection e with e; subst e; exact (HR.out _ (.inl rfl)).1)
    have hr : ∀ k, rowsC (.slice (some ⟨g, 0, none⟩) (n + 1) c) (.slice (some ⟨g2, 0, none⟩) bs.length c2) (.slice (some ⟨g3, 0, none⟩) rs.length c3) k → k < w.heap.size ∨ w.heap.size + 4 ≤ k := fun k q => by
      rcases q with q | q
      · simp [Value.ownBlock] at q
        subst q
        rcases hg with rfl | rfl
        · exact .inl (HR.out _ (.inl rfl)).2
        · right; simp; omega
      · exact .inl (HR.out _ (.inr q)).2
    clear p0 p1 p2 p3 p4 z0 z1 z2 z3 z4 fz FV FA OV OV2 OA hown hgr hnil hat bA hg hlt hBV
    have F := FD.setk1 (.slice (some ⟨g, 0, none⟩) (n + 1) c)
    have OC := OD.set (p := ⟨w.heap.size, 1, none⟩) (fun q => by have := hr _ q; simp at this; omega) (.slice (some ⟨g, 0, none⟩) (n + 1) c)
    have bW := bV.setCell (show B ≤ (⟨w.heap.size, 1, none⟩ : Addr).block by exact HB.out) (.slice (some ⟨g, 0, none⟩) (n + 1) c)
    clear FD OD bV
    generalize w1.setCell _ _ = Wd at *
    have f0 := frozen_row (k := 0) F.k
    obtain ⟨p0, p1, p2, p3, p4⟩ := cells5 F.k
    go_upto_region 46 with fail
    replace F := F.setk (.int .i64 (x + 1))
    replace OC := OC.set (p := ⟨w.heap.size, 0, none⟩) (fun q => by have := hr _ q; simp at this; omega) (.int .i64 (x + 1))
    replace bW := bW.setCell (show B ≤ (⟨w.heap.size, 0, none⟩ : Addr).block by exact HB.out) (.int .i64 (x + 1))
    clear p0 p1 p2 p3 p4 f0
    generalize World.setCell _ _ _ = Wa at *
    obtain ⟨p0, p1, p2, p3, p4⟩ := cells5 F.k
    obtain ⟨q0, q1, q2, q3, q4, q5, q6, q7⟩ := cells8 F.s
    have f0 := frozen_row (k := 0) F.s
    have f1 := frozen_row (k := 1) F.s
    have f2 := frozen_row (k := 2) F.s
    have f3 := frozen_row (k := 3) F.s
    have f4 := frozen_row (k := 4) F.s
    go_upto_region 47 with fail
    replace F := F.sets (.int .i64 (x + 1)) (.slice (some ⟨g, 0, none⟩) (n + 1) c) (.slice (some ⟨g2, 0, none⟩) bs.length c2) (.slice (some ⟨g3, 0, none⟩) rs.length c3) (.int .i64 (y))
    replace OC := OC.set5 (N := w.heap.size + 1 + 1 + 1) (fun q => by have := hr _ q; omega) (.int .i64 (x + 1)) (.slice (some ⟨g, 0, none⟩) (n + 1) c) (.slice (some ⟨g2, 0, none⟩) bs.length c2) (.slice (some ⟨g3, 0, none⟩) rs.length c3) (.int .i64 (y))
    replace bW := set5_below bW (show B ≤ w.heap.size + 1 + 1 + 1 by have := HB.out; omega) (.int .i64 (x + 1)) (.slice (some ⟨g, 0, none⟩) (n + 1) c) (.slice (some ⟨g2, 0, none⟩) bs.length c2) (.slice (some ⟨g3, 0, none⟩) rs.length c3) (.int .i64 (y))
    unfold set5 at F OC bW
    clear p0 p1 p2 p3 p4 q0 q1 q2 q3 q4 q5 q6 q7 f0 f1 f2 f3 f4
    generalize World.setCell _ _ _ = Wb at *
    obtain ⟨q0, q1, q2, q3, q4, q5, q6, q7⟩ := cells8 F.s
    obtain ⟨r0, r1, r2, r3, r4, r5, r6, r7⟩ := cells8 F.r
    have f0 := frozen_row (k := 0) F.r
    have f1 := frozen_row (k := 1) F.r
    have f2 := frozen_row (k := 2) F.r
    have f3 := frozen_row (k := 3) F.r
    have f4 := frozen_row (k := 4) F.r
    have f5 := frozen_row (k := 5) F.r
    have f6 := frozen_row (k := 6) F.r
    have f7 := frozen_row (k := 7) F.r
    have ZB := Lib.hid (set8_blk F.r (.int .i64 (x + 1)) (.slice (some ⟨g, 0, none⟩) (n + 1) c) (.slice (some ⟨g2, 0, none⟩) bs.length c2) (.slice (some ⟨g3, 0, none⟩) rs.length c3) (.int .i64 (y)) (.bool false) (.int .i64 0) (.int .i64 0))
    have OZ := Lib.hid (OC.set8 (N := w.heap.size + 1 + 1) (fun q => by have := hr _ q; omega) (.int .i64 (x + 1)) (.slice (some ⟨g, 0, none⟩) (n + 1) c) (.slice (some ⟨g2, 0, none⟩) bs.length c2) (.slice (some ⟨g3, 0, none⟩) rs.length c3) (.int .i64 (y)) (.bool false) (.int .i64 0) (.int .i64 0))
    have BZ := Lib.hid (set8_below bW (show B ≤ w.heap.size + 1 + 1 by have := HB.out; omega) (.int .i64 (x + 1)) (.slice (some ⟨g, 0, none⟩) (n + 1) c) (.slice (some ⟨g2, 0, none⟩) bs.length c2) (.slice (some ⟨g3, 0, none⟩) rs.length c3) (.int .i64 (y)) (.bool false) (.int .i64 0) (.int .i64 0))
    unfold set8 at ZB OZ BZ
    clear F OC bW
    go_wp2_with fail
    generalize World.setCell _ _ _ = Wc at *
    obtain ⟨y0, y1, y2, y3, y4, y5, y6, y7⟩ := cells8 ZB.out
    exact bodyPost_ret (v := .agg #[.int .i64 (x + 1), .slice (some ⟨g, 0, none⟩) (n + 1) c, .slice (some ⟨g2, 0, none⟩) bs.length c2, .slice (some ⟨g3, 0, none⟩) rs.length c3, .int .i64 (y), .bool false, .int .i64 0, .int .i64 0]) (by simp [results, Tryz.results107, go_sem, y0, y1, y2, y3, y4, y5, y6, y7]) rfl (StepOut.mk HL2.out rfl rfl OZ.out BZ.out)

end Go.Proofs.YtigcbegeaikfcaaGreatDoor
