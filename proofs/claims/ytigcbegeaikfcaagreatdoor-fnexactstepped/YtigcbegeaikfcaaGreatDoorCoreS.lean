/- Layer 9 (the player): what the model's l9Do does at load and at do. No conditions but those typed. -/
import Derived.Test.YtigcbegeaikfcaaGreatDoorCoreQ
import Derived.Test.YtigcbegeaikfcaaGreatDoorStepA
import Derived.Deep.RegionLaw
namespace Go.Proofs.YtigcbegeaikfcaaGreatDoor
open Go.RowKit
set_option linter.unusedVariables false

/-- An append at a step of a region that draws; where its row lies. -/
theorem step_append_at {P : Program} (w : World) {ops : Array Oper} {o : Oper} {a : Act} {K : Act → World → Prop} {Q : Exit → Act → World → Prop} {E : Prop} (hgd : o.guard = none) (s x : Operand) (t : TypeId)
    (ho : o.op = .call { callee := .builtin .append, args := #[s, x], argTypes := #[t, t] }) (B : Nat) (e : TypeId) (i : TypeInfo) (z : Value) (size bytes : Nat) (ht : P.underlying t = some (.slice e)) (hi : P.info? e = some i) (hz : i.zero = some z)
    (hsize : i.size = size) (hby : i.bytes = bytes) (hzs : z.cells.size = size) (hsz : 0 < size) (v : Value) (n : Nat) (xs : List Value) (hs : a.eval s = v) (hown : w.ownsRow B e size v n xs)
    (ad : Addr) (m c : Nat) (news : List Value) (hx : a.eval x = .slice (some ad) m c) (hl : news.length = m * size) (hnews : ∀ j u, news[j]? = some u → w.cell? (ad.add j) = some u) (h1 : ∀ u ∈ news, u.oneCell' = true)
    (hb : n + m ≤ maxLen) (hbb : (n + m) * bytes ≤ 140737488355328) (hbase : B ≤ w.heap.size)
    (h : ∀ v' w', w'.ownsRow B e size v' (n + m) (xs ++ news) → w.grownBy w' v.ownBlock → (v' = .slice none 0 0 ↔ v = .slice none 0 0 ∧ m = 0) → (v'.ownBlock = v.ownBlock ∨ v'.ownBlock = some w.heap.size) → K (a.put o.dst v') w') :
    if Region.wanted o (yielded ops a.tmps) = true then Oper.wp P o a w K Q else E := by
  have hw : Region.wanted o (yielded ops a.tmps) = true := by simp [Region.wanted, hgd]
  rw [if_pos hw]
  obtain ⟨v', w', hr, h2, h3, h4, h5⟩ := run_append_own_at (P := P) w B t o.type e i z size bytes ht hi hz hsize hby hzs hsz v n xs hown ad m c news hl hnews h1 hb hbb hbase
  unfold Oper.wp execOp
  simp only [ho, resolve, invoke, builtin, Sem.run_bind, Sem.run_pure, Result.andThen_ok, List.map_toArray, List.map_cons, List.map_nil, hs, hx, hr]
  exact h v' w' h2 h3 h4 h5

set_option maxHeartbeats 20000000 in
set_option maxRecDepth 100000 in
theorem do2_any
(B : Nat) (x m : Int) (s : List UInt8) (g1 g2 g3 c1 c2 c3 : Nat) (zs : List Int) (bs : List Bx) (rs : List Int) (y : Int) (v : Value) (w : World)
    (h : OwnC w B (.slice (some ⟨g1, 0, none⟩) zs.length c1) (.slice (some ⟨g2, 0, none⟩) bs.length c2) (.slice (some ⟨g3, 0, none⟩) rs.length c3) zs bs rs) (hB : B ≤ w.heap.size) (hx : 0 ≤ x ∧ x ≤ 300)
    (hn : zs.length < 60) :
    Calls Tryz.prog 107 #[.agg #[.int .i64 x, .slice (some ⟨g1, 0, none⟩) zs.length c1, .slice (some ⟨g2, 0, none⟩) bs.length c2, .slice (some ⟨g3, 0, none⟩) rs.length c3, .int .i64 y], .agg #[.int .i64 2, .int .i64 m, str s], v] w
      (StepOut B (onS ⟨x + 1, zs ++ [valueS bs s], bs, rs, y⟩) w) := by
  obtain ⟨i0, hi, hz0, hz1, hz2⟩ := info_parts Tryz.infoI64
  have HL : Hid ((zs ++ [valueS bs s]).length = zs.length + 1) := Lib.hid (by simp)
  have HB := Lib.hid hB
  have HR := Lib.hid h.lt
  have F := four_new w (.int .i64 x) (.slice (some ⟨g1, 0, none⟩) zs.length c1) (.slice (some ⟨g2, 0, none⟩) bs.length c2) (.slice (some ⟨g3, 0, none⟩) rs.length c3) (.int .i64 y) (.int .i64 2) (.int .i64 m) (str s)
  have OC := h.later (below4 w (.cells #[.int .i64 x, .slice (some ⟨g1, 0, none⟩) zs.length c1, .slice (some ⟨g2, 0, none⟩) bs.length c2, .slice (some ⟨g3, 0, none⟩) rs.length c3, .int .i64 y] 27) (.cells #[.int .i64 2, .int .i64 m, str s] 41)
    (.cells #[.int .i64 0, .slice none 0 0, .slice none 0 0, .slice none 0 0, .int .i64 0, .bool false, .int .i64 0, .int .i64 0] 33) (.cells #[.int .i64 0, .slice none 0 0, .slice none 0 0, .slice none 0 0, .int .i64 0, .bool false, .int .i64 0, .int .i64 0] 33))
  have bW := (below4 w (.cells #[.int .i64 x, .slice (some ⟨g1, 0, none⟩) zs.length c1, .slice (some ⟨g2, 0, none⟩) bs.length c2, .slice (some ⟨g3, 0, none⟩) rs.length c3, .int .i64 y] 27) (.cells #[.int .i64 2, .int .i64 m, str s] 41)
    (.cells #[.int .i64 0, .slice none 0 0, .slice none 0 0, .slice none 0 0, .int .i64 0, .bool false, .int .i64 0, .int .i64 0] 33) (.cells #[.int .i64 0, .slice none 0 0, .slice none 0 0, .slice none 0 0, .int .i64 0, .bool false, .int .i64 0, .int .i64 0] 33)).mono hB
  obtain ⟨hx0, hx1⟩ := hx
  clear h hB
  have HV := Lib.hid (fun W q => sValueIn_any W.heap.size (.slice (some ⟨g2, 0, none⟩) bs.length c2) bs s W q)
  generalize valueS bs s = u at *
  go_enter Tryz.func107, Tryz.ntmps107
  go_upto_region 8 with fail
  generalize World.alloc _ _ = W at *
  have hlt := heap_lt F.s
  have hBW : B ≤ W.heap.size := by have := HB.out; omega
  have bA := below_new (W.drewN 1) (.cells #[.int .i64 u] 2)
  have OA := (OC.drewN 1).later bA
  have FA := (F.drewN 1).later bA
  have CN : Hid (∀ W : World, ∀ j q, [Value.int .i64 u][j]? = some q → (W.alloc (.cells #[.int .i64 u] 2)).cell? ((⟨W.heap.size, 0, none⟩ : Addr).add j) = some q) := Lib.hid (fun W => cell_one_new W _ _)
  obtain ⟨p0, p1, p2, p3, p4⟩ := cells5 F.k
  obtain ⟨q0, q1, q2⟩ := cells3 F.o
  obtain ⟨a0, a1, a2, a3, a4⟩ := cells5 FA.k
  go_region_law (first
    | (go_simp; refine (HV.out _ (OC.drewN 1).o2.see).mono ?_; rintro e w0 ⟨rfl, rfl⟩; dsimp only)
    | (refine step_append_at _ (by rfl) _ _ _ (by rfl) B 2 i0 (.int .i64 0) 1 8 Tryz.underlying24 hi hz0 hz1 hz2 rfl (by decide) _ _ _ (by rfl) OA.o1 ⟨W.heap.size, 0, none⟩ 1 1 [.int .i64 u] (by rfl) (by rfl) (CN.out _) (by intro u hu; simp at hu; subst hu; rfl) (by unfold maxLen; omega) (by omega) (Nat.le_trans hBW bA.size) ?_; intro v1 w1 hown hgr hnil hat; (obtain ⟨g, c, rfl, OD, hg⟩ := OA.push (Nat.le_trans hBW bA.size) hown hgr (fun q => by have := (hnil.1 q).1; cases this) hat); have FD := FA.grown hgr (fun k e => by injection e with e; subst e; exact (HR.out _ (.inl rfl)).2); obtain ⟨z0, z1, z2, z3, z4⟩ := cells5 FD.k; have fz := frozen_row (k := 1) FD.k))
  all_goals (
    have bW1 := ((below_drewN bW 1).alloc hBW (.cells #[.int .i64 u] 2)).grown hgr (Nat.le_trans hBW bA.size) (fun k e => by injection e with e; subst e; exact (HR.out _ (.inl rfl)).1)
    clear bW
    have bW := bW1
    clear bW1
    have hr : ∀ k, rowsC (.slice (some ⟨g, 0, none⟩) (zs.length + 1) c) (.slice (some ⟨g2, 0, none⟩) bs.length c2) (.slice (some ⟨g3, 0, none⟩) rs.length c3) k → k < w.heap.size ∨ w.heap.size + 4 ≤ k := fun k q => by
      rcases q with q | q
      · simp [Value.ownBlock] at q
        subst q
        rcases hg with rfl | rfl
        · exact .inl (HR.out _ (.inl rfl)).2
        · right; simp; omega
      · exact .inl (HR.out _ (.inr q)).2
    clear p0 p1 p2 p3 p4 q0 q1 q2 z0 z1 z2 z3 z4 a0 a1 a2 a3 a4 fz F FA OC OA hown hgr hnil hat bA hg hlt hBW
    replace FD := FD.setk1 (.slice (some ⟨g, 0, none⟩) (zs.length + 1) c)
    replace OD := OD.set (p := ⟨w.heap.size, 1, none⟩) (fun q => by have := hr _ q; simp at this; omega) (.slice (some ⟨g, 0, none⟩) (zs.length + 1) c)
    replace bW := bW.setCell (show B ≤ (⟨w.heap.size, 1, none⟩ : Addr).block by exact HB.out) (.slice (some ⟨g, 0, none⟩) (zs.length + 1) c)
    generalize w1.setCell _ _ = Wd at *
    have F := FD
    have OC := OD
    clear FD OD
    have f0 := frozen_row (k := 0) F.k
    obtain ⟨p0, p1, p2, p3, p4⟩ := cells5 F.k
    go_upto_region 46 with fail
    replace F := F.setk (.int .i64 (x + 1))
    replace OC := OC.set (p := ⟨w.heap.size, 0, none⟩) (fun q => by have := hr _ q; simp at this; omega) (.int .i64 (x + 1))
    replace bW := bW.setCell (show B ≤ (⟨w.heap.size, 0, none⟩ : Addr).block by exact HB.out) (.int .i64 (x + 1))
    clear p0 p1 p2 p3 p4 f0
    generalize World.setCell _ _ _ = Wa at *
    obtain ⟨p0, p1, p2, p3, p4⟩ := cells5 F.k
    obtain ⟨q0, q1, q2, q3, q4, q5, q6, q7⟩ := cells8 F.s
    have f0 := frozen_row (k := 0) F.s
    have f1 := frozen_row (k := 1) F.s
    have f2 := frozen_row (k := 2) F.s
    have f3 := frozen_row (k := 3) F.s
    have f4 := frozen_row (k := 4) F.s
    go_upto_region 47 with fail
    replace F := F.sets (.int .i64 (x + 1)) (.slice (some ⟨g, 0, none⟩) (zs.length + 1) c) (.slice (some ⟨g2, 0, none⟩) bs.length c2) (.slice (some ⟨g3, 0, none⟩) rs.length c3) (.int .i64 (y))
    replace OC := OC.set5 (N := w.heap.size + 1 + 1 + 1) (fun q => by have := hr _ q; omega) (.int .i64 (x + 1)) (.slice (some ⟨g, 0, none⟩) (zs.length + 1) c) (.slice (some ⟨g2, 0, none⟩) bs.length c2) (.slice (some ⟨g3, 0, none⟩) rs.length c3) (.int .i64 (y))
    replace bW := set5_below bW (show B ≤ w.heap.size + 1 + 1 + 1 by have := HB.out; omega) (.int .i64 (x + 1)) (.slice (some ⟨g, 0, none⟩) (zs.length + 1) c) (.slice (some ⟨g2, 0, none⟩) bs.length c2) (.slice (some ⟨g3, 0, none⟩) rs.length c3) (.int .i64 (y))
    unfold set5 at F OC bW
    clear p0 p1 p2 p3 p4 q0 q1 q2 q3 q4 q5 q6 q7 f0 f1 f2 f3 f4
    generalize World.setCell _ _ _ = Wb at *
    obtain ⟨q0, q1, q2, q3, q4, q5, q6, q7⟩ := cells8 F.s
    obtain ⟨r0, r1, r2, r3, r4, r5, r6, r7⟩ := cells8 F.r
    have f0 := frozen_row (k := 0) F.r
    have f1 := frozen_row (k := 1) F.r
    have f2 := frozen_row (k := 2) F.r
    have f3 := frozen_row (k := 3) F.r
    have f4 := frozen_row (k := 4) F.r
    have f5 := frozen_row (k := 5) F.r
    have f6 := frozen_row (k := 6) F.r
    have f7 := frozen_row (k := 7) F.r
    have ZB := Lib.hid (set8_blk F.r (.int .i64 (x + 1)) (.slice (some ⟨g, 0, none⟩) (zs.length + 1) c) (.slice (some ⟨g2, 0, none⟩) bs.length c2) (.slice (some ⟨g3, 0, none⟩) rs.length c3) (.int .i64 (y)) (.bool false) (.int .i64 0) (.int .i64 0))
    have OZ := Lib.hid (OC.set8 (N := w.heap.size + 1 + 1) (fun q => by have := hr _ q; omega) (.int .i64 (x + 1)) (.slice (some ⟨g, 0, none⟩) (zs.length + 1) c) (.slice (some ⟨g2, 0, none⟩) bs.length c2) (.slice (some ⟨g3, 0, none⟩) rs.length c3) (.int .i64 (y)) (.bool false) (.int .i64 0) (.int .i64 0))
    have BZ := Lib.hid (set8_below bW (show B ≤ w.heap.size + 1 + 1 by have := HB.out; omega) (.int .i64 (x + 1)) (.slice (some ⟨g, 0, none⟩) (zs.length + 1) c) (.slice (some ⟨g2, 0, none⟩) bs.length c2) (.slice (some ⟨g3, 0, none⟩) rs.length c3) (.int .i64 (y)) (.bool false) (.int .i64 0) (.int .i64 0))
    unfold set8 at ZB OZ BZ
    clear F OC bW
    go_wp2_with fail
    generalize World.setCell _ _ _ = Wc at *
    obtain ⟨y0, y1, y2, y3, y4, y5, y6, y7⟩ := cells8 ZB.out
    exact bodyPost_ret (v := .agg #[.int .i64 (x + 1), .slice (some ⟨g, 0, none⟩) (zs.length + 1) c, .slice (some ⟨g2, 0, none⟩) bs.length c2, .slice (some ⟨g3, 0, none⟩) rs.length c3, .int .i64 (y), .bool false, .int .i64 0, .int .i64 0]) (by simp [results, Tryz.results107, go_sem, y0, y1, y2, y3, y4, y5, y6, y7]) rfl (StepOut.mk HL.out rfl rfl OZ.out BZ.out)
    )

end Go.Proofs.YtigcbegeaikfcaaGreatDoor
