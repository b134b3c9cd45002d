/- Layer 9 (the player): what the model's l9Do does at out. No conditions but those typed. -/
import Derived.Test.YtigcbegeaikfcaaGreatDoorCoreQ
import Derived.BigRegion
namespace Go.Proofs.YtigcbegeaikfcaaGreatDoor
open Go.RowKit
set_option linter.unusedVariables false

theorem Four.drew {W : World} {N : Nat} {k0 k1 k2 k3 k4 o0 o1 o2 s0 s1 s2 s3 s4 s5 s6 s7 : Value} (h : Four W N k0 k1 k2 k3 k4 o0 o1 o2 s0 s1 s2 s3 s4 s5 s6 s7) : Four W.drew N k0 k1 k2 k3 k4 o0 o1 o2 s0 s1 s2 s3 s4 s5 s6 s7 := ⟨h.k, h.o, h.r, h.s⟩
theorem OwnC.drew {w : World} {B : Nat} {u1 u2 u3 : Value} {zs : List Int} {bs : List Bx} {rs : List Int} (h : OwnC w B u1 u2 u3 zs bs rs) : OwnC w.drew B u1 u2 u3 zs bs rs := ⟨h.o1, h.o2, h.o3, h.a12, h.a13, h.a23⟩
theorem Four.step {W : World} {N : Nat} {k0 k1 k2 k3 k4 o0 o1 o2 s0 s1 s2 s3 s4 s5 s6 s7 : Value} (h : Four W N k0 k1 k2 k3 k4 o0 o1 o2 s0 s1 s2 s3 s4 s5 s6 s7) (x0 x1 x2 x3 x4 x5 x6 x7 : Value) : Four (set8 W (N + 1 + 1 + 1) x0 x1 x2 x3 x4 x5 x6 x7) N k0 k1 k2 k3 k4 o0 o1 o2 x0 x1 x2 x3 x4 x5 x6 x7 := by
  have ho : ∀ k, k ≠ N + 1 + 1 + 1 → (set8 W (N + 1 + 1 + 1) x0 x1 x2 x3 x4 x5 x6 x7).heap[k]? = W.heap[k]? := fun k hk => by
    unfold set8
    rw [Below.heap_setCell _ _ _ _ hk, Below.heap_setCell _ _ _ _ hk, Below.heap_setCell _ _ _ _ hk, Below.heap_setCell _ _ _ _ hk, Below.heap_setCell _ _ _ _ hk, Below.heap_setCell _ _ _ _ hk, Below.heap_setCell _ _ _ _ hk, Below.heap_setCell _ _ _ _ hk]
  exact ⟨by rw [ho _ (by omega)]; exact h.k, by rw [ho _ (by omega)]; exact h.o, by rw [ho _ (by omega)]; exact h.r, set8_blk h.s _ _ _ _ _ _ _ _⟩
set_option maxHeartbeats 8000000 in
set_option maxRecDepth 100000 in
theorem do6_any
(B : Nat) (x m : Int) (s : List UInt8) (g1 g2 g3 c1 c2 c3 : Nat) (zs : List Int) (bs : List Bx) (rs : List Int) (y : Int) (v : Value) (w : World)
    (h : OwnC w B (.slice (some ⟨g1, 0, none⟩) zs.length c1) (.slice (some ⟨g2, 0, none⟩) bs.length c2) (.slice (some ⟨g3, 0, none⟩) rs.length c3) zs bs rs) (hB : B ≤ w.heap.size) (hx : 0 ≤ x ∧ x ≤ 300)
    (hn : 1 ≤ zs.length) (hn2 : zs.length ≤ 60) :
    Calls Tryz.prog 107 #[.agg #[.int .i64 x, .slice (some ⟨g1, 0, none⟩) zs.length c1, .slice (some ⟨g2, 0, none⟩) bs.length c2, .slice (some ⟨g3, 0, none⟩) rs.length c3, .int .i64 y], .agg #[.int .i64 6, .int .i64 m, str s], v] w
      (StepOut B ⟨⟨x + 1, cutS zs 1, bs, rs, y⟩, true, m, topS zs 1⟩ w) := by
  obtain ⟨n, hln⟩ : ∃ n, zs.length = n + 1 := ⟨zs.length - 1, by omega⟩
  obtain ⟨ga, oa, u, ea, -, hua, hca⟩ := h.o1.see.at_ (k := zs.length - 1) (by omega)
  injection ea with ea
  injection ea with ea1 ea2
  subst ea1 ea2
  have hcap : (n : Int) + 1 ≤ (c1 : Int) := by have := h.o1.cap.1; omega
  have hcap2 : (c1 : Int) ≤ 9223372036854775807 := by have := h.o1.cap.2; unfold maxLen at this; omega
  rw [hln, Nat.add_sub_cancel] at hca hua
  have HA : Hid (topS zs 1 = u) := Lib.hid (by unfold topS; rw [hln, Nat.add_sub_cancel, List.getD_eq_getElem?_getD, hua]; rfl)
  have hlta := World.block_lt_of_cell? _ _ hca
  have HN := Lib.hid hln
  have HL : Hid (cutS zs 1 = zs.take n) := Lib.hid (by unfold cutS; rw [hln, Nat.add_sub_cancel])
  have HM : Hid ((zs.take n).length = n) := Lib.hid (by rw [List.length_take]; omega)
  have hn60 : n + 1 ≤ 60 := by omega
  rw [hln] at h ⊢
  have HB := Lib.hid hB
  have HR := Lib.hid h.lt
  have F := four_new w (.int .i64 x) (.slice (some ⟨g1, 0, none⟩) (n + 1) c1) (.slice (some ⟨g2, 0, none⟩) bs.length c2) (.slice (some ⟨g3, 0, none⟩) rs.length c3) (.int .i64 y) (.int .i64 6) (.int .i64 m) (str s)
  have OC := h.later (below4 w (.cells #[.int .i64 x, .slice (some ⟨g1, 0, none⟩) (n + 1) c1, .slice (some ⟨g2, 0, none⟩) bs.length c2, .slice (some ⟨g3, 0, none⟩) rs.length c3, .int .i64 y] 27) (.cells #[.int .i64 6, .int .i64 m, str s] 41)
    (.cells #[.int .i64 0, .slice none 0 0, .slice none 0 0, .slice none 0 0, .int .i64 0, .bool false, .int .i64 0, .int .i64 0] 33) (.cells #[.int .i64 0, .slice none 0 0, .slice none 0 0, .slice none 0 0, .int .i64 0, .bool false, .int .i64 0, .int .i64 0] 33))
  have bW := (below4 w (.cells #[.int .i64 x, .slice (some ⟨g1, 0, none⟩) (n + 1) c1, .slice (some ⟨g2, 0, none⟩) bs.length c2, .slice (some ⟨g3, 0, none⟩) rs.length c3, .int .i64 y] 27) (.cells #[.int .i64 6, .int .i64 m, str s] 41)
    (.cells #[.int .i64 0, .slice none 0 0, .slice none 0 0, .slice none 0 0, .int .i64 0, .bool false, .int .i64 0, .int .i64 0] 33) (.cells #[.int .i64 0, .slice none 0 0, .slice none 0 0, .slice none 0 0, .int .i64 0, .bool false, .int .i64 0, .int .i64 0] 33)).mono hB
  obtain ⟨hx0, hx1⟩ := hx
  rw [HA.out, HL.out]
  have hcA := fun a b d e => ((below4 w a b d e).cell (p := ⟨g1, 0 + n, none⟩) hlta).trans hca
  clear hca h hB hua hn hn2 hln
  go_enter Tryz.func107, Tryz.ntmps107
  go_upto_region 31 with fail
  generalize hGW : World.alloc _ _ = W at *
  have qa : W.cell? ⟨g1, 0 + n, none⟩ = some (.int .i64 u) := by rw [← hGW]; exact hcA _ _ _ _
  simp only [Nat.zero_add] at qa
  clear hGW hcA
  obtain ⟨p0, p1, p2, p3, p4⟩ := cells5 F.k
  obtain ⟨q0, q1, q2⟩ := cells3 F.o
  obtain ⟨r0, r1, r2, r3, r4, r5, r6, r7⟩ := cells8 F.s
  have f0 := frozen_row (k := 0) F.s
  have f1 := frozen_row (k := 1) F.s
  have f2 := frozen_row (k := 2) F.s
  have f3 := frozen_row (k := 3) F.s
  have f4 := frozen_row (k := 4) F.s
  have f5 := frozen_row (k := 5) F.s
  have f6 := frozen_row (k := 6) F.s
  have f7 := frozen_row (k := 7) F.s
  have hw3 : IntKind.i64.wrap (n : Int) = (n : Int) := by rw [IntKind.wrap_i64]; omega
  have hb1 : (0 : Int) ≤ (n : Int) := by omega
  have hb2 : (n : Int) < (n : Int) + 1 := by omega
  have hr : ∀ k, rowsC (.slice (some ⟨g1, 0, none⟩) (n + 1) c1) (.slice (some ⟨g2, 0, none⟩) bs.length c2) (.slice (some ⟨g3, 0, none⟩) rs.length c3) k → k < w.heap.size ∨ w.heap.size + 4 ≤ k := fun k q => .inl (HR.out _ q).2
  have FS := Lib.hid (F.step (.int .i64 0) (.slice none 0 0) (.slice none 0 0) (.slice none 0 0) (.int .i64 0) (.bool true) (.int .i64 m) (.int .i64 u))
  have OS := Lib.hid (OC.set8 (N := w.heap.size + 1 + 1 + 1) (fun q => by have := hr _ q; omega) (.int .i64 0) (.slice none 0 0) (.slice none 0 0) (.slice none 0 0) (.int .i64 0) (.bool true) (.int .i64 m) (.int .i64 u))
  have BS := Lib.hid (set8_below bW (show B ≤ w.heap.size + 1 + 1 + 1 by have := HB.out; omega) (.int .i64 0) (.slice none 0 0) (.slice none 0 0) (.slice none 0 0) (.int .i64 0) (.bool true) (.int .i64 m) (.int .i64 u))
  unfold set8 at FS OS BS
  clear OC bW hr
  go_region
  generalize World.setCell _ _ _ = W8 at *
  replace FS := FS.out.drew
  replace OS := Lib.hid OS.out.drew
  replace BS := Lib.hid BS.out.drew
  generalize World.drew _ = Wd at *
  have OD : OwnC Wd B (.slice (some ⟨g1, 0, none⟩) n c1) (.slice (some ⟨g2, 0, none⟩) bs.length c2) (.slice (some ⟨g3, 0, none⟩) rs.length c3) (zs.take n) bs rs := OS.out.cut (by have := HN.out; omega)
  have hr : ∀ k, rowsC (.slice (some ⟨g1, 0, none⟩) n c1) (.slice (some ⟨g2, 0, none⟩) bs.length c2) (.slice (some ⟨g3, 0, none⟩) rs.length c3) k → k < w.heap.size ∨ w.heap.size + 4 ≤ k := fun k q => .inl (HR.out _ (by rcases q with q | q; exact .inl (by simpa [Value.ownBlock] using q); exact .inr q)).2
  clear p0 p1 p2 p3 p4 q0 q1 q2 r0 r1 r2 r3 r4 r5 r6 r7 f0 f1 f2 f3 f4 f5 f6 f7 qa hw3 hb1 hb2 F OS
  obtain ⟨p0, p1, p2, p3, p4⟩ := cells5 FS.k
  have fz := frozen_row (k := 1) FS.k
  have hcapn : (n : Int) ≤ (c1 : Int) := by omega
  go_upto_region 45 with fail
  have F := FS.setk1 (.slice (some ⟨g1, 0, none⟩) n c1)
  have OC := OD.set (p := ⟨w.heap.size, 1, none⟩) (fun q => by have := hr _ q; simp at this; omega) (.slice (some ⟨g1, 0, none⟩) n c1)
  have bW := BS.out.setCell (show B ≤ (⟨w.heap.size, 1, none⟩ : Addr).block by exact HB.out) (.slice (some ⟨g1, 0, none⟩) n c1)
  clear p0 p1 p2 p3 p4 fz FS OD BS
  generalize World.setCell _ _ _ = We at *
  have f0 := frozen_row (k := 0) F.k
  obtain ⟨p0, p1, p2, p3, p4⟩ := cells5 F.k
  go_upto_region 46 with fail
  replace F := F.setk (.int .i64 (x + 1))
  replace OC := OC.set (p := ⟨w.heap.size, 0, none⟩) (fun q => by have := hr _ q; simp at this; omega) (.int .i64 (x + 1))
  replace bW := bW.setCell (show B ≤ (⟨w.heap.size, 0, none⟩ : Addr).block by exact HB.out) (.int .i64 (x + 1))
  clear p0 p1 p2 p3 p4 f0
  generalize World.setCell _ _ _ = Wa at *
  obtain ⟨p0, p1, p2, p3, p4⟩ := cells5 F.k
  obtain ⟨q0, q1, q2, q3, q4, q5, q6, q7⟩ := cells8 F.s
  have f0 := frozen_row (k := 0) F.s
  have f1 := frozen_row (k := 1) F.s
  have f2 := frozen_row (k := 2) F.s
  have f3 := frozen_row (k := 3) F.s
  have f4 := frozen_row (k := 4) F.s
  go_upto_region 47 with fail
  replace F := F.sets (.int .i64 (x + 1)) (.slice (some ⟨g1, 0, none⟩) n c1) (.slice (some ⟨g2, 0, none⟩) bs.length c2) (.slice (some ⟨g3, 0, none⟩) rs.length c3) (.int .i64 (y))
  replace OC := OC.set5 (N := w.heap.size + 1 + 1 + 1) (fun q => by have := hr _ q; omega) (.int .i64 (x + 1)) (.slice (some ⟨g1, 0, none⟩) n c1) (.slice (some ⟨g2, 0, none⟩) bs.length c2) (.slice (some ⟨g3, 0, none⟩) rs.length c3) (.int .i64 (y))
  replace bW := set5_below bW (show B ≤ w.heap.size + 1 + 1 + 1 by have := HB.out; omega) (.int .i64 (x + 1)) (.slice (some ⟨g1, 0, none⟩) n c1) (.slice (some ⟨g2, 0, none⟩) bs.length c2) (.slice (some ⟨g3, 0, none⟩) rs.length c3) (.int .i64 (y))
  unfold set5 at F OC bW
  clear p0 p1 p2 p3 p4 q0 q1 q2 q3 q4 q5 q6 q7 f0 f1 f2 f3 f4
  generalize World.setCell _ _ _ = Wb at *
  obtain ⟨q0, q1, q2, q3, q4, q5, q6, q7⟩ := cells8 F.s
  obtain ⟨r0, r1, r2, r3, r4, r5, r6, r7⟩ := cells8 F.r
  have f0 := frozen_row (k := 0) F.r
  have f1 := frozen_row (k := 1) F.r
  have f2 := frozen_row (k := 2) F.r
  have f3 := frozen_row (k := 3) F.r
  have f4 := frozen_row (k := 4) F.r
  have f5 := frozen_row (k := 5) F.r
  have f6 := frozen_row (k := 6) F.r
  have f7 := frozen_row (k := 7) F.r
  have ZB := Lib.hid (set8_blk F.r (.int .i64 (x + 1)) (.slice (some ⟨g1, 0, none⟩) n c1) (.slice (some ⟨g2, 0, none⟩) bs.length c2) (.slice (some ⟨g3, 0, none⟩) rs.length c3) (.int .i64 (y)) (.bool true) (.int .i64 m) (.int .i64 u))
  have OZ := Lib.hid (OC.set8 (N := w.heap.size + 1 + 1) (fun q => by have := hr _ q; omega) (.int .i64 (x + 1)) (.slice (some ⟨g1, 0, none⟩) n c1) (.slice (some ⟨g2, 0, none⟩) bs.length c2) (.slice (some ⟨g3, 0, none⟩) rs.length c3) (.int .i64 (y)) (.bool true) (.int .i64 m) (.int .i64 u))
  have BZ := Lib.hid (set8_below bW (show B ≤ w.heap.size + 1 + 1 by have := HB.out; omega) (.int .i64 (x + 1)) (.slice (some ⟨g1, 0, none⟩) n c1) (.slice (some ⟨g2, 0, none⟩) bs.length c2) (.slice (some ⟨g3, 0, none⟩) rs.length c3) (.int .i64 (y)) (.bool true) (.int .i64 m) (.int .i64 u))
  unfold set8 at ZB OZ BZ
  clear F OC bW
  go_wp2_with fail
  generalize World.setCell _ _ _ = Wc at *
  obtain ⟨y0, y1, y2, y3, y4, y5, y6, y7⟩ := cells8 ZB.out
  exact bodyPost_ret (v := .agg #[.int .i64 (x + 1), .slice (some ⟨g1, 0, none⟩) n c1, .slice (some ⟨g2, 0, none⟩) bs.length c2, .slice (some ⟨g3, 0, none⟩) rs.length c3, .int .i64 (y), .bool true, .int .i64 m, .int .i64 u]) (by simp [results, Tryz.results107, go_sem, y0, y1, y2, y3, y4, y5, y6, y7]) rfl (StepOut.mk HM.out rfl rfl OZ.out BZ.out)

end Go.Proofs.YtigcbegeaikfcaaGreatDoor
