/- Layer 9 (the player): the walk of FnExactStepped. Condition: the listed variable impl.opForms holds what the program's text lays (Forms). -/
import Derived.Test.YtigcbegeaikfcaaGreatDoorPlyK
import Derived.Deep.RegionHeld3
namespace Go.Proofs.YtigcbegeaikfcaaGreatDoor
open Go.RowKit
set_option linter.unusedVariables false

/-- The arguments: a core in its box, code, slots. -/
structure Arg (N : Nat) (x y : Int) (v1 v2 v3 vo vs : Value) (zs : List Int) (bs : List Bx) (rs : List Int) (os : List Opv) (ss : List (List Int)) (W : World) : Prop where
  box : W.heap[N]? = some (.cells #[.int .i64 x, v1, v2, v3, .int .i64 y] 58 (0, 0))
  s1 : SeeI W N v1 zs
  s2 : SeeBx W N v2 bs
  s3 : SeeI W N v3 rs
  so : SeeOp W N vo os
  sv : SeeSS W N vs ss
section
variable {N : Nat} {x y : Int} {v1 v2 v3 vo vs : Value} {zs : List Int} {bs : List Bx} {rs : List Int} {os : List Opv} {ss : List (List Int)} {W W' : World}
theorem Arg.lt (h : Arg N x y v1 v2 v3 vo vs zs bs rs os ss W) : N < W.heap.size := heap_lt h.box
theorem Arg.keep (h : Arg N x y v1 v2 v3 vo vs zs bs rs os ss W) (b : Below (N + 1) W W') : Arg N x y v1 v2 v3 vo vs zs bs rs os ss W' :=
  ⟨(b.block N (by omega)).trans h.box, h.s1.below (b.mono (by omega)), h.s2.below (b.mono (by omega)), h.s3.below (b.mono (by omega)), h.so.below (b.mono (by omega)), h.sv.below (b.mono (by omega))⟩
theorem Arg.later (h : Arg N x y v1 v2 v3 vo vs zs bs rs os ss W) (b : Below W.heap.size W W') : Arg N x y v1 v2 v3 vo vs zs bs rs os ss W' := h.keep (b.mono h.lt)
end

/-- A step in its box; its rows lie below that. -/
structure Mdl (M : Nat) (st : St) (a1 a2 a3 : Value) (W : World) : Prop where
  box : W.heap[M]? = some (.cells #[.int .i64 st.c.pl, a1, a2, a3, .int .i64 st.c.cd, .bool st.says, .int .i64 st.gate, .int .i64 st.val] 33 (0, 0))
  s1 : SeeI W M a1 st.c.pile
  s2 : SeeBx W M a2 st.c.bxs
  s3 : SeeI W M a3 st.c.rds
section
variable {M : Nat} {st : St} {a1 a2 a3 : Value} {W W' : World}
theorem Mdl.lt (h : Mdl M st a1 a2 a3 W) : M < W.heap.size := heap_lt h.box
theorem Mdl.keep (h : Mdl M st a1 a2 a3 W) (b : Below (M + 1) W W') : Mdl M st a1 a2 a3 W' := ⟨(b.block M (by omega)).trans h.box, h.s1.below (b.mono (by omega)), h.s2.below (b.mono (by omega)), h.s3.below (b.mono (by omega))⟩
theorem Mdl.later (h : Mdl M st a1 a2 a3 W) (b : Below W.heap.size W W') : Mdl M st a1 a2 a3 W' := h.keep (b.mono h.lt)
end

/-- The arguments that were handed over: nobody else's; from block A on, the box at X, the row of ops from X + 1 on, the slots from Y on. -/
structure Xs (A X Y : Nat) (x y : Int) (u1 u2 u3 xo xs : Value) (us : List Value) (zs : List Int) (bs : List Bx) (rs : List Int) (os : List Opv) (ss : List (List Int)) (W : World) : Prop where
  box : W.heap[X]? = some (.cells #[.int .i64 x, u1, u2, u3, .int .i64 y] 27 (0, 0))
  own : OwnC W A u1 u2 u3 zs bs rs
  lt : ∀ g, rowsC u1 u2 u3 g → g < X
  oo : OwnOp W (X + 1) 41 xo os
  oy : ∀ g, xo.ownBlock = some g → g < Y
  sl : OwnSS W Y xs us ss
  ax : A ≤ X
  xy : X + 1 ≤ Y
  yw : Y ≤ W.heap.size
section
variable {A X Y : Nat} {x y : Int} {u1 u2 u3 xo xs : Value} {us : List Value} {zs : List Int} {bs : List Bx} {rs : List Int} {os : List Opv} {ss : List (List Int)} {W W' : World}
theorem Xs.later (h : Xs A X Y x y u1 u2 u3 xo xs us zs bs rs os ss W) (b : Below W.heap.size W W') : Xs A X Y x y u1 u2 u3 xo xs us zs bs rs os ss W' :=
  ⟨row_later h.box b, h.own.later b, h.lt, h.oo.later b, h.oy, h.sl.later b, h.ax, h.xy, Nat.le_trans h.yw b.size⟩
end

/-- A step of one's own in its box: its rows from block B on, below the box. -/
structure Gs (B G : Nat) (st : St) (g1 g2 g3 : Value) (W : World) : Prop where
  box : W.heap[G]? = some (.cells #[.int .i64 st.c.pl, g1, g2, g3, .int .i64 st.c.cd, .bool st.says, .int .i64 st.gate, .int .i64 st.val] 33 (0, 0))
  own : OwnC W B g1 g2 g3 st.c.pile st.c.bxs st.c.rds
  lt : ∀ g, rowsC g1 g2 g3 g → g < G
  bg : B ≤ G
section
variable {B G : Nat} {st : St} {g1 g2 g3 : Value} {W W' : World}
theorem Gs.later (h : Gs B G st g1 g2 g3 W) (b : Below W.heap.size W W') : Gs B G st g1 g2 g3 W' := ⟨row_later h.box b, h.own.later b, h.lt, h.bg⟩
theorem Gs.only {S : Nat → Prop} (h : Gs B G st g1 g2 g3 W) (on : Only S W W') (hS : ∀ g, S g → g < B) : Gs B G st g1 g2 g3 W' :=
  ⟨(on.block G (heap_lt h.box) (fun q => by have := hS G q; have := h.bg; omega)).trans h.box, h.own.only on (fun g q e => by have := (h.own.lt g q).1; have := hS g e; omega), h.lt, h.bg⟩
end

theorem OwnSS.only {S : Nat → Prop} {w w' : World} {B : Nat} {v : Value} {us : List Value} {ss : List (List Int)} (h : OwnSS w B v us ss) (on : Only S w w') (hS : ∀ g, S g → g < B) : OwnSS w' B v us ss :=
  ⟨own_only h.row on (fun g q e => by have := World.ownsRow.lt h.row g q; have := hS g e; omega), h.len, fun k u s hu hs => own_only (h.inn k u s hu hs) on (fun g q e => by have := (h.inn k u s hu hs).lt g q; have := hS g e; omega), h.ap, h.out⟩
theorem OwnSS.rows {w : World} {B : Nat} {v : Value} {us : List Value} {ss : List (List Int)} (h : OwnSS w B v us ss) : ∀ g, rowsSS us g → B ≤ g ∧ g < w.heap.size := fun g q => by
  obtain ⟨k, u, hu, hg⟩ := q
  have hk : k < ss.length := by have := (List.getElem?_eq_some_iff.1 hu).1; rw [← h.len]; exact this
  exact (h.inn k u _ hu (List.getElem?_eq_getElem hk)).lt g hg
theorem OwnOp.only {S : Nat → Prop} {w w' : World} {B : Nat} {e : TypeId} {v : Value} {os : List Opv} (h : OwnOp w B e v os) (on : Only S w w') (hS : ∀ g, S g → g < B) : OwnOp w' B e v os :=
  ⟨own_only h.1 on (fun g q e => by have := OwnN.lt h g q; have := hS g e; omega), h.2⟩

set_option maxHeartbeats 16000000 in
set_option maxRecDepth 100000 in
theorem stepped_law (x y : Int) (v1 v2 v3 vo vs : Value) (zs : List Int) (bs : List Bx) (rs : List Int) (os : List Opv) (ss : List (List Int)) (w : World)
    (s1 : SeeI w w.heap.size v1 zs) (s2 : SeeBx w w.heap.size v2 bs) (s3 : SeeI w w.heap.size v3 rs) (hF : fitB bs) (so : SeeOp w w.heap.size vo os) (hFo : fitO os) (sv : SeeSS w w.heap.size vs ss) (FW : Forms w) :
    Calls Tryz.prog 5 #[.agg #[.int .i64 x, v1, v2, v3, .int .i64 y], vo, vs] w fun e w' => e = .returned (.bool true) ∧ Below w.heap.size w w' := by
  obtain ⟨A1, c1, rfl⟩ := s1.shape
  obtain ⟨A2, c2, rfl⟩ := s2.shape
  obtain ⟨A3, c3, rfl⟩ := s3.shape
  obtain ⟨Ao, co, rfl⟩ := so.shape
  obtain ⟨As, cs, rfl⟩ := sv.shape
  have bA := below_new w (.cells #[.int .i64 x, .slice A1 zs.length c1, .slice A2 bs.length c2, .slice A3 rs.length c3, .int .i64 y] 58)
  have HA : Arg w.heap.size x y (.slice A1 zs.length c1) (.slice A2 bs.length c2) (.slice A3 rs.length c3) (.slice Ao os.length co) (.slice As ss.length cs) zs bs rs os ss (w.alloc (.cells #[.int .i64 x, .slice A1 zs.length c1, .slice A2 bs.length c2, .slice A3 rs.length c3, .int .i64 y] 58)) :=
    ⟨heap_alloc_new _ _, s1.below bA, s2.below bA, s3.below bA, so.below bA, sv.below bA⟩
  have HFW := Lib.hid FW
  clear s1 s2 s3 so sv FW
  have HZ1 := szC_sum (left := 1048576) (zs := zs) (bs := bs) (rs := rs) (by decide) (by decide)
  have HZ2 := Lib.hid (fun left (h0 : 0 ≤ left) => szL_sum (ls := nmLens8 os) (left := left) h0)
  have HZ3 := Lib.hid (fun left (h0 : 0 ≤ left) => szL_sum (ls := lensSS ss) (left := left) h0)
  have HL8 := Lib.hid (show (nmLens8 os).length = os.length by simp [nmLens8])
  have HLS := Lib.hid (show (lensSS ss).length = ss.length by simp [lensSS])
  go_enter Tryz.func5, Tryz.ntmps5
  go_wp2_with fail
  generalize hN : w.heap.size = N at *
  have HN := Lib.hid hN
  clear hN
  generalize w.alloc _ = W at *
  refine (szCore_any N x y _ _ _ zs bs rs 1048576 (by decide) (by decide) W HA.s1 HA.s2 HA.s3 (Nat.le_of_lt HA.lt) hF).mono ?_
  rintro e w1 ⟨rfl, b1⟩
  replace HA := HA.later b1
  replace bA := below_then bA b1 (by rw [HN.out]; exact Nat.le_refl _)
  clear b1
  generalize szC 1048576 zs bs rs = z at *
  rcases HZ1 with rfl | ⟨h0, hz1, hS⟩
  · go_wp2_with fail
    go_ret
    exact ⟨rfl, by rw [HN.out]; exact bA⟩
  have hz : ¬ z < 0 := by omega
  have CZ := Lib.hid (fun W q1 q2 => szOps_any N (.slice Ao os.length co) os z h0 (by omega) W q1 q2 hFo)
  replace HZ2 := HZ2.out z h0
  go_wp2_with fail
  refine (CZ.out _ HA.so (Nat.le_of_lt HA.lt)).mono ?_
  rintro e w2 ⟨rfl, b2⟩
  replace HA := HA.later b2
  replace bA := below_then bA b2 (by rw [HN.out]; exact Nat.le_refl _)
  clear b2 CZ hz
  generalize szL z (nmLens8 os) = z2 at *
  rcases HZ2 with rfl | ⟨h0', hz2, hO⟩
  · go_wp2_with fail
    go_ret
    exact ⟨rfl, by rw [HN.out]; exact bA⟩
  rw [HL8.out] at hz2
  have hz : ¬ z2 < 0 := by omega
  have CZ := Lib.hid (fun W q1 => szSlots_any N (.slice As ss.length cs) ss z2 h0' (by omega) W q1)
  replace HZ3 := HZ3.out z2 h0'
  go_wp2_with fail
  refine (CZ.out _ HA.sv).mono ?_
  rintro e w3 ⟨rfl, rfl⟩
  clear CZ hz
  generalize szL z2 (lensSS ss) = z3 at *
  rcases HZ3 with rfl | ⟨h0'', hz3, hSl⟩
  · go_wp2_with fail
    go_ret
    exact ⟨rfl, by rw [HN.out]; exact bA⟩
  rw [HLS.out] at hz3
  have hz : ¬ z3 < 0 := by omega
  have LN := Lib.hid (show zs.length + bs.length + rs.length + os.length + ss.length ≤ 1048576 by omega)
  have hSO : shortOp os := fun o ho => by
    have := hO o.2.2.length (by unfold nmLens8; exact List.mem_map.2 ⟨o, ho, rfl⟩)
    omega
  have hSS : ∀ s ∈ ss, s.length ≤ 1048576 := fun s hs => by
    have := hSl s.length (by unfold lensSS; exact List.mem_map.2 ⟨s, hs, rfl⟩)
    omega
  clear hz1 hz2 hz3 hO hSl h0 h0' h0'' HL8 HLS hFo hF
  obtain ⟨L1, L2, L3, L4, L5⟩ : zs.length ≤ 1048576 ∧ bs.length ≤ 1048576 ∧ rs.length ≤ 1048576 ∧ os.length ≤ 1048576 ∧ ss.length ≤ 1048576 := by have := LN.out; omega
  have HSTL := Lib.hid (stepped_len ⟨x, zs, bs, rs, y⟩ os ss)
  have CS := Lib.hid (fun W u1 u2 u3 xo xs a1 a2 a3 a4 a5 n1 n2 n3 => sStepped_any W.heap.size x y u1 u2 u3 xo xs zs bs rs os ss W a1 a2 a3 a4 a5 (Nat.le_refl _) n1 n2 n3 hS hSO)
  have CI := Lib.hid (fun W u1 u2 u3 xo xs a1 a2 a3 a4 a5 n1 n2 n3 F => iStepped_any W.heap.size x y u1 u2 u3 xo xs zs bs rs os ss W a1 a2 a3 a4 a5 (Nat.le_refl _) n1 n2 n3 hS hSO F)
  generalize steppedS ⟨x, zs, bs, rs, y⟩ os ss = st at *
  have TC := Lib.hid (fun W (h : Arg N x y (.slice A1 zs.length c1) (.slice A2 bs.length c2) (.slice A3 rs.length c3) (.slice Ao os.length co) (.slice As ss.length cs) zs bs rs os ss W) => toCore_any N x y _ _ _ zs bs rs W h.s1 h.s2 h.s3 (Nat.le_of_lt h.lt) L1 L2 L3)
  have TO := Lib.hid (fun W (h : Arg N x y (.slice A1 zs.length c1) (.slice A2 bs.length c2) (.slice A3 rs.length c3) (.slice Ao os.length co) (.slice As ss.length cs) zs bs rs os ss W) => toOps_any N _ os L4 W h.so (Nat.le_of_lt h.lt))
  have TS := Lib.hid (fun W (h : Arg N x y (.slice A1 zs.length c1) (.slice A2 bs.length c2) (.slice A3 rs.length c3) (.slice Ao os.length co) (.slice As ss.length cs) zs bs rs os ss W) => toSlots_any N _ ss L5 hSS W h.sv (Nat.le_of_lt h.lt))
  clear L1 L2 L3 L4 L5 hS hSO
  obtain ⟨p0, p1, p2, p3, p4⟩ := cells5 HA.box
  go_wp2_with fail
  refine (TC.out _ HA).mono ?_
  rintro e w4 ⟨u1, u2, u3, rfl, o1, o2, o3, -, -, -, b4⟩
  replace HA := HA.later b4
  replace bA := below_then bA b4 (by rw [HN.out]; exact Nat.le_refl _)
  clear b4 p0 p1 p2 p3 p4
  have k1 := own_nilOk o1
  have k2 := own_nilOk o2.1
  have k3 := own_nilOk o3
  replace o1 := o1.see
  replace o2 := o2.see
  replace o3 := o3.see
  go_wp2_with fail
  refine (TO.out _ HA).mono ?_
  rintro e w5 ⟨xo, rfl, oo, b5⟩
  replace HA := HA.later b5
  replace bA := below_then bA b5 (by rw [HN.out]; exact Nat.le_refl _)
  replace oo := oo.see
  replace o1 := (o1.below b5).more b5.size
  replace o2 := (o2.below b5).more b5.size
  replace o3 := (o3.below b5).more b5.size
  clear b5
  go_wp2_with fail
  refine (TS.out _ HA).mono ?_
  rintro e w6 ⟨xs, us, rfl, oy, b6⟩
  replace HA := HA.later b6
  replace bA := below_then bA b6 (by rw [HN.out]; exact Nat.le_refl _)
  replace oy := oy.see
  replace oo := (oo.below b6).more b6.size
  replace o1 := (o1.below b6).more b6.size
  replace o2 := (o2.below b6).more b6.size
  replace o3 := (o3.below b6).more b6.size
  clear b6
  go_wp2_with fail
  refine (CS.out w6 _ _ _ _ _ o1 o2 o3 oo oy k1 k2 k3).mono ?_
  rintro e w7 ⟨a1, a2, a3, rfl, oc, b7, -, -, -⟩
  replace HA := HA.later b7
  replace bA := below_then bA b7 (by rw [HN.out]; exact Nat.le_refl _)
  clear b7 o1 o2 o3 oo oy k1 k2 k3 CS
  have bx := below_new w7 (.cells #[.int .i64 st.c.pl, a1, a2, a3, .int .i64 st.c.cd, .bool st.says, .int .i64 st.gate, .int .i64 st.val] 33)
  have HM : Mdl w7.heap.size st a1 a2 a3 (w7.alloc (.cells #[.int .i64 st.c.pl, a1, a2, a3, .int .i64 st.c.cd, .bool st.says, .int .i64 st.gate, .int .i64 st.val] 33)) :=
    ⟨heap_alloc_new _ _, oc.o1.see.below bx, oc.o2.see.below bx, oc.o3.see.below bx⟩
  obtain ⟨D1, d1, e1⟩ := oc.o1.see.shape
  obtain ⟨D2, d2, e2⟩ := oc.o2.see.shape
  obtain ⟨D3, d3, e3⟩ := oc.o3.see.shape
  subst e1 e2 e3
  replace HA := HA.later bx
  replace bA := below_then bA bx (by rw [HN.out]; exact Nat.le_refl _)
  clear bx oc
  obtain ⟨p0, p1, p2, p3, p4⟩ := cells5 HA.box
  go_wp2_with fail
  clear p0 p1 p2 p3 p4
  generalize w7.alloc _ = W7 at *
  generalize w7.heap.size = M at *
  have HML := Lib.hid HM.lt
  have HAL := Lib.hid HA.lt
  refine (TC.out _ HA).mono ?_
  rintro e w8 ⟨u1, u2, u3, rfl, o1, o2, o3, a12, a13, a23, b8⟩
  replace HA := HA.later b8
  replace bA := below_then bA b8 (by rw [HN.out]; exact Nat.le_refl _)
  replace HM := HM.later b8
  have hMA := HM.lt
  have oC : OwnC w8 W7.heap.size u1 u2 u3 zs bs rs := ⟨o1, o2, o3, a12, a13, a23⟩
  have hA8 := b8.size
  clear b8 o1 o2 o3 a12 a13 a23
  have bx := below_new w8 (.cells #[.int .i64 x, u1, u2, u3, .int .i64 y] 27)
  have hbx := heap_alloc_new w8 (.cells #[.int .i64 x, u1, u2, u3, .int .i64 y] 27)
  have hlt : ∀ g, rowsC u1 u2 u3 g → g < w8.heap.size := fun g q => (oC.lt g q).2
  obtain ⟨E1, x1, e1⟩ := oC.o1.see.shape
  obtain ⟨E2, x2, e2⟩ := oC.o2.see.shape
  obtain ⟨E3, x3, e3⟩ := oC.o3.see.shape
  subst e1 e2 e3
  have hsz : (w8.alloc (.cells #[.int .i64 x, .slice E1 zs.length x1, .slice E2 bs.length x2, .slice E3 rs.length x3, .int .i64 y] 27)).heap.size = w8.heap.size + 1 := by simp
  have HSZ := Lib.hid hsz
  replace oC := oC.later bx
  replace HA := HA.later bx
  replace bA := below_then bA bx (by rw [HN.out]; exact Nat.le_refl _)
  replace HM := HM.later bx
  clear bx hsz
  go_wp2_with fail
  generalize w8.alloc _ = W8 at *
  generalize hX : w8.heap.size = X at *
  clear hX
  refine (TO.out _ HA).mono ?_
  rintro e w9 ⟨xo, rfl, oo, b9⟩
  rw [HSZ.out] at oo
  have hoy : ∀ g, xo.ownBlock = some g → g < w9.heap.size := fun g q => (oo.lt g q).2
  have h9 := b9.size
  replace hbx := row_later hbx b9
  replace oC := oC.later b9
  replace HA := HA.later b9
  replace bA := below_then bA b9 (by rw [HN.out]; exact Nat.le_refl _)
  replace HM := HM.later b9
  clear b9
  go_wp2_with fail
  refine (TS.out _ HA).mono ?_
  rintro e w10 ⟨xs, us, rfl, oy, b10⟩
  have HX : Xs W7.heap.size X w9.heap.size x y (.slice E1 zs.length x1) (.slice E2 bs.length x2) (.slice E3 rs.length x3) xo xs us zs bs rs os ss w10 :=
    ⟨row_later hbx b10, oC.later b10, hlt, oo.later b10, hoy, oy, hA8, by have := HSZ.out; omega, b10.size⟩
  replace HA := HA.later b10
  replace bA := below_then bA b10 (by rw [HN.out]; exact Nat.le_refl _)
  replace HM := HM.later b10
  clear b10 hbx oC hlt oo hoy oy hA8 h9 HSZ hMA
  generalize w9.heap.size = Y at *
  generalize hZA : W7.heap.size = A at *
  clear hZA
  obtain ⟨p0, p1, p2, p3, p4⟩ := cells5 HX.box
  go_wp2_with fail
  clear p0 p1 p2 p3 p4
  refine (CI.out w10 _ _ _ _ _ HX.own.o1.see HX.own.o2.see HX.own.o3.see HX.oo.see HX.sl.see (own_nilOk HX.own.o1) (own_nilOk HX.own.o2.1) (own_nilOk HX.own.o3) (HFW.out.below (by rw [HN.out]; exact bA))).mono ?_
  rintro e w11 ⟨g1, g2, g3, rfl, gc, b11, -, -, -⟩
  have HBZ := Lib.hid HX.yw
  have HSLT := Lib.hid HX.sl.rows
  replace HA := HA.later b11
  replace bA := below_then bA b11 (by rw [HN.out]; exact Nat.le_refl _)
  replace HM := HM.later b11
  replace HX := HX.later b11
  have hb11 := b11.size
  clear b11
  have bx := below_new w11 (.cells #[.int .i64 st.c.pl, g1, g2, g3, .int .i64 st.c.cd, .bool st.says, .int .i64 st.gate, .int .i64 st.val] 33)
  have HG : Gs w10.heap.size w11.heap.size st g1 g2 g3 (w11.alloc (.cells #[.int .i64 st.c.pl, g1, g2, g3, .int .i64 st.c.cd, .bool st.says, .int .i64 st.gate, .int .i64 st.val] 33)) :=
    ⟨heap_alloc_new _ _, gc.later bx, fun g q => (gc.lt g q).2, hb11⟩
  obtain ⟨F1, f1, e1⟩ := gc.o1.see.shape
  obtain ⟨F2, f2, e2⟩ := gc.o2.see.shape
  obtain ⟨F3, f3, e3⟩ := gc.o3.see.shape
  subst e1 e2 e3
  replace HA := HA.later bx
  replace bA := below_then bA bx (by rw [HN.out]; exact Nat.le_refl _)
  replace HM := HM.later bx
  replace HX := HX.later bx
  clear bx gc hb11
  obtain ⟨p0, p1, p2, p3, p4, p5, p6, p7⟩ := cells8 HM.box
  obtain ⟨q0, q1, q2, q3, q4, q5, q6, q7⟩ := cells8 HG.box
  go_wp2_with fail
  generalize w11.alloc _ = W11 at *
  generalize w11.heap.size = G at *
  generalize hZB : w10.heap.size = Bz at *
  clear hZB
  clear p0 p1 p2 p3 p4 p5 p6 p7 q0 q1 q2 q3 q4 q5 q6 q7
  have EQ := Lib.hid (fun (W : World) (v1 v2 v3 : Value) (g : Mdl M st (.slice D1 st.c.pile.length d1) (.slice D2 st.c.bxs.length d2) (.slice D3 st.c.rds.length d3) W) (t1 : SeeI W W.heap.size v1 st.c.pile) (t2 : SeeBx W W.heap.size v2 st.c.bxs) (t3 : SeeI W W.heap.size v3 st.c.rds) =>
    eqStep_same W.heap.size st.c.pl st.c.cd st.gate st.val st.says v1 v2 v3 (.slice D1 st.c.pile.length d1) (.slice D2 st.c.bxs.length d2) (.slice D3 st.c.rds.length d3) st.c.pile st.c.bxs st.c.rds W (Nat.le_refl _) t1 t2 t3 (g.s1.more (Nat.le_of_lt g.lt)) (g.s2.more (Nat.le_of_lt g.lt)) (g.s3.more (Nat.le_of_lt g.lt)))
  refine (EQ.out W11 _ _ _ HM HG.own.o1.see HG.own.o2.see HG.own.o3.see).mono ?_
  rintro e w12 ⟨rfl, b12⟩
  replace HA := HA.later b12
  replace bA := below_then bA b12 (by rw [HN.out]; exact Nat.le_refl _)
  replace HM := HM.later b12
  replace HX := HX.later b12
  replace HG := HG.later b12
  clear b12
  go_wp2_with fail
  have k0 : Below w12.heap.size w12 w12.drew := (Below.refl _ _).drew
  have hN12 : N ≤ w12.heap.size := Nat.le_of_lt HA.lt
  go_region_held3 (fun w' => (w'.cell? ⟨X, 0, none⟩ = some (.int .i64 x) ∧ w'.cell? ⟨X, 1, none⟩ = some (.slice E1 zs.length x1) ∧ w'.cell? ⟨X, 2, none⟩ = some (.slice E2 bs.length x2) ∧ w'.cell? ⟨X, 3, none⟩ = some (.slice E3 rs.length x3) ∧ w'.cell? ⟨X, 4, none⟩ = some (.int .i64 y)) ∧
      (w'.cell? ⟨N, 0, none⟩ = some (.int .i64 x) ∧ w'.cell? ⟨N, 1, none⟩ = some (.slice A1 zs.length c1) ∧ w'.cell? ⟨N, 2, none⟩ = some (.slice A2 bs.length c2) ∧ w'.cell? ⟨N, 3, none⟩ = some (.slice A3 rs.length c3) ∧ w'.cell? ⟨N, 4, none⟩ = some (.int .i64 y)) ∧ Below w12.heap.size w12 w')
    (first | exact hold10 HX.box HA.box k0 | exact hold10 HX.box HA.box k7 | exact hold10 HX.box HA.box k8)
    (first | (go_at_call 29; refine (TC.out _ (HA.later k0)).mono ?_; rintro e w13 ⟨u1, u2, u3, rfl, q1, q2, q3, -, -, -, b13⟩; have k7 := below_then k0 b13 (Nat.le_refl _)) |
      (go_at_call 33; refine (eqCore_same _ x y _ _ _ _ _ _ zs bs rs _ (Nat.le_refl _) (HX.later k7).own.o1.see (HX.later k7).own.o2.see (HX.later k7).own.o3.see q1.see q2.see q3.see).mono ?_; rintro e w14 ⟨rfl, b14⟩; have k8 := below_then k7 b14 (Nat.le_refl _)))
  clear k0 k7 q1 q2 q3 b13 b14 hN12
  replace HA := HA.later k8
  replace bA := below_then bA k8 (by rw [HN.out]; exact Nat.le_refl _)
  replace HM := HM.later k8
  replace HX := HX.later k8
  replace HG := HG.later k8
  clear k8
  generalize w14 = wz at *
  go_wp2_with fail
  refine (TO.out _ HA).mono ?_
  rintro e w15 ⟨vo', rfl, oo, b15⟩
  replace HA := HA.later b15
  replace bA := below_then bA b15 (by rw [HN.out]; exact Nat.le_refl _)
  replace HM := HM.later b15
  replace HX := HX.later b15
  replace HG := HG.later b15
  clear b15
  go_wp2_with fail
  refine (eqOps_any w15.heap.size _ _ os os w15 (Nat.le_refl _) HX.oo.see oo.see).mono ?_
  rintro e w16 ⟨rfl, b16⟩
  rw [eqOpl_same]
  replace HA := HA.later b16
  replace bA := below_then bA b16 (by rw [HN.out]; exact Nat.le_refl _)
  replace HM := HM.later b16
  replace HX := HX.later b16
  replace HG := HG.later b16
  clear b16 oo
  go_wp2_with fail
  refine (TS.out _ HA).mono ?_
  rintro e w17 ⟨vs', us', rfl, oy, b17⟩
  replace HA := HA.later b17
  replace bA := below_then bA b17 (by rw [HN.out]; exact Nat.le_refl _)
  replace HM := HM.later b17
  replace HX := HX.later b17
  replace HG := HG.later b17
  clear b17
  go_wp2_with fail
  refine (eqSlots_same w17.heap.size _ _ ss w17 HX.sl.see oy.see).mono ?_
  rintro e w18 ⟨rfl, nq, rfl⟩
  have bq : Below w17.heap.size w17 (w17.drewN nq) := below_drewN (Below.refl _ _) nq
  replace HA := HA.later bq
  replace bA := below_then bA bq (by rw [HN.out]; exact Nat.le_refl _)
  replace HM := HM.later bq
  replace HX := HX.later bq
  replace HG := HG.later bq
  clear bq oy
  generalize w17.drewN nq = w18 at *
  obtain ⟨p0, p1, p2, p3, p4⟩ := cells5 HX.box
  have hAw : A ≤ w18.heap.size := by have := HX.ax; have := HX.xy; have := HX.yw; omega
  have CM := Lib.hid (markCore_any A x y _ _ _ zs bs rs 1 w18 HX.own (by omega) (by unfold nC; have := LN.out; omega))
  obtain ⟨t1, ht1⟩ : ∃ t, t = 1 + nC zs bs rs := ⟨_, rfl⟩
  rw [← ht1] at CM
  have HT1 := Lib.hid (show 1 ≤ t1 ∧ t1 ≤ 1 + zs.length + bs.length * 2 + rs.length by rw [ht1]; unfold nC; omega)
  clear ht1
  go_wp2_with fail
  clear p0 p1 p2 p3 p4
  refine CM.out.mono ?_
  clear CM
  rintro e w19 ⟨rfl, -, on1⟩
  have bm : Below A w18 w19 := on1.below hAw (fun k q => (HX.own.lt k q).1)
  have oo := HX.oo.only on1 (fun g q => by have := HX.lt g q; omega)
  have oy := HX.sl.only on1 (fun g q => by have := HX.lt g q; have := HX.xy; omega)
  replace HG := HG.only on1 (fun g q => by have := HX.lt g q; have := HX.xy; have := HBZ.out; omega)
  have HXY := Lib.hid (And.intro HX.oy (And.intro HX.ax HX.xy))
  replace HA := HA.keep (bm.mono (by have := HAL.out; omega))
  replace HM := HM.keep (bm.mono (by have := HML.out; omega))
  replace bA := bA.trans (bm.mono (by have := HAL.out; omega))
  replace hAw := Nat.le_trans hAw on1.size
  clear on1 bm HX
  have CM := Lib.hid (markOps_any (X + 1) xo os t1 w19 oo HT1.out.1 (by have := LN.out; have := HT1.out.2; omega))
  obtain ⟨t2, ht2⟩ : ∃ t, t = t1 + os.length * 3 := ⟨_, rfl⟩
  rw [← ht2] at CM
  have HT2 := Lib.hid (show t2 ≤ 4194305 by have := LN.out; have := HT1.out.2; omega)
  clear ht2
  go_wp2_with fail
  refine CM.out.mono ?_
  clear CM
  rintro e w20 ⟨rfl, -, gr⟩
  have on1 : Only (fun g => xo.ownBlock = some g) w19 w20 := Only.of_grown gr (fun g e => e)
  have hxo : ∀ g, xo.ownBlock = some g → A ≤ g ∧ g < Y := fun g q => ⟨by have := (oo.lt g q).1; have := HXY.out.2.1; omega, HXY.out.1 g q⟩
  have bm : Below A w19 w20 := on1.below hAw (fun k q => (hxo k q).1)
  replace oy := oy.only on1 (fun g q => (hxo g q).2)
  replace HG := HG.only on1 (fun g q => by have := (hxo g q).2; have := HBZ.out; omega)
  replace HA := HA.keep (bm.mono (by have := HAL.out; omega))
  replace HM := HM.keep (bm.mono (by have := HML.out; omega))
  replace bA := bA.trans (bm.mono (by have := HAL.out; omega))
  replace hAw := Nat.le_trans hAw on1.size
  clear on1 bm gr oo hxo
  have CM := Lib.hid (markSlots_any Y xs us ss t2 w20 oy (by have h1 := nSS_bound hSS; have := LN.out; have := HT2.out; omega))
  obtain ⟨t3, ht3⟩ : ∃ t, t = t2 + nSS ss := ⟨_, rfl⟩
  rw [← ht3] at CM
  clear ht3
  have ht0 : ¬ (((t3 : Nat) : Int) < 0) := by omega
  go_wp2_with fail
  refine CM.out.mono ?_
  clear CM
  rintro e w21 ⟨rfl, on1⟩
  have bm : Below A w20 w21 := on1.below hAw (fun k q => by have := (HSLT.out k q).1; have := HXY.out.2; omega)
  replace HG := HG.only on1 (fun g q => (HSLT.out g q).2)
  replace HA := HA.keep (bm.mono (by have := HAL.out; omega))
  replace HM := HM.keep (bm.mono (by have := HML.out; omega))
  replace bA := bA.trans (bm.mono (by have := HAL.out; omega))
  clear on1 bm oy hAw
  obtain ⟨p0, p1, p2, p3, p4, p5, p6, p7⟩ := cells8 HM.box
  obtain ⟨q0, q1, q2, q3, q4, q5, q6, q7⟩ := cells8 HG.box
  go_wp2_with fail
  clear p0 p1 p2 p3 p4 p5 p6 p7 q0 q1 q2 q3 q4 q5 q6 q7
  refine (EQ.out w21 _ _ _ HM HG.own.o1.see HG.own.o2.see HG.own.o3.see).mono ?_
  rintro e w22 ⟨rfl, b22⟩
  replace HA := HA.later b22
  replace bA := below_then bA b22 (by rw [HN.out]; exact Nat.le_refl _)
  replace HM := HM.later b22
  replace HG := HG.later b22
  clear b22 ht0
  have CM := Lib.hid (markStep_any Bz st.c.pl st.c.cd st.gate st.val st.says _ _ _ st.c.pile st.c.bxs st.c.rds 1 w22 HG.own (by omega) (by unfold nC; have := LN.out; have := HSTL.out; omega))
  obtain ⟨t4, ht4⟩ : ∃ t, t = 1 + nC st.c.pile st.c.bxs st.c.rds := ⟨_, rfl⟩
  rw [← ht4] at CM
  have HT4 := Lib.hid (show 1 + st.c.pile.length + st.c.bxs.length * 2 + st.c.rds.length = t4 by rw [ht4]; unfold nC; omega)
  have CH := Lib.hid (fun W s1 s2 s3 => heldStep_any (World.heap W).size st.c.pl st.c.cd st.gate st.val st.says (.slice F1 st.c.pile.length f1) (.slice F2 st.c.bxs.length f2) (.slice F3 st.c.rds.length f3) st.c.pile.length st.c.bxs.length st.c.rds.length 1 W s1 s2 s3 (Nat.le_refl _) (by omega) (by have := LN.out; have := HSTL.out; omega))
  rw [HT4.out] at CH
  clear ht4
  obtain ⟨p0, p1, p2, p3, p4, p5, p6, p7⟩ := cells8 HM.box
  obtain ⟨q0, q1, q2, q3, q4, q5, q6, q7⟩ := cells8 HG.box
  go_wp2_with fail
  clear p0 p1 p2 p3 p4 p5 p6 p7 q0 q1 q2 q3 q4 q5 q6 q7
  refine CM.out.mono ?_
  clear CM
  rintro e w23 ⟨rfl, gc, on1⟩
  have bm : Below Bz w22 w23 := on1.below (by have := heap_lt HG.box; have := HG.bg; omega) (fun k q => (HG.own.lt k q).1)
  have GB := (on1.block G (heap_lt HG.box) (fun q => by have := HG.lt G q; omega)).trans HG.box
  have hAB := Lib.hid (show A ≤ Bz by have := HXY.out.2; have := HBZ.out; omega)
  replace HA := HA.keep (bm.mono (by have := HAL.out; have := hAB.out; omega))
  replace HM := HM.keep (bm.mono (by have := HML.out; have := hAB.out; omega))
  replace bA := bA.trans (bm.mono (by have := HAL.out; have := hAB.out; omega))
  clear on1 bm HG
  obtain ⟨q0, q1, q2, q3, q4, q5, q6, q7⟩ := cells8 GB
  go_wp2_with fail
  clear q0 q1 q2 q3 q4 q5 q6 q7
  refine (CH.out w23 gc.o1.see gc.o2.see gc.o3.see).mono ?_
  rintro e w24 ⟨rfl, b24⟩
  replace HA := HA.later b24
  replace bA := below_then bA b24 (by rw [HN.out]; exact Nat.le_refl _)
  replace HM := HM.later b24
  replace gc := gc.later b24
  replace GB := row_later GB b24
  clear b24
  have ht0 : ¬ (((t4 : Nat) : Int) < 0) := by omega
  obtain ⟨p0, p1, p2, p3, p4⟩ := cells5 HA.box
  go_wp2_with fail
  clear p0 p1 p2 p3 p4
  refine (TC.out _ HA).mono ?_
  rintro e w25 ⟨u1, u2, u3, rfl, o1, o2, o3, -, -, -, b25⟩
  replace HA := HA.later b25
  replace bA := below_then bA b25 (by rw [HN.out]; exact Nat.le_refl _)
  replace HM := HM.later b25
  replace gc := gc.later b25
  replace GB := row_later GB b25
  clear b25
  have k1 := own_nilOk o1
  have k2 := own_nilOk o2.1
  have k3 := own_nilOk o3
  replace o1 := o1.see
  replace o2 := o2.see
  replace o3 := o3.see
  go_wp2_with fail
  refine (TO.out _ HA).mono ?_
  rintro e w26 ⟨xo', rfl, oo, b26⟩
  replace HA := HA.later b26
  replace bA := below_then bA b26 (by rw [HN.out]; exact Nat.le_refl _)
  replace HM := HM.later b26
  replace gc := gc.later b26
  replace GB := row_later GB b26
  replace oo := oo.see
  replace o1 := (o1.below b26).more b26.size
  replace o2 := (o2.below b26).more b26.size
  replace o3 := (o3.below b26).more b26.size
  clear b26
  go_wp2_with fail
  refine (TS.out _ HA).mono ?_
  rintro e w27 ⟨xs', us', rfl, oy, b27⟩
  replace HA := HA.later b27
  replace bA := below_then bA b27 (by rw [HN.out]; exact Nat.le_refl _)
  replace HM := HM.later b27
  replace gc := gc.later b27
  replace GB := row_later GB b27
  replace oy := oy.see
  replace oo := (oo.below b27).more b27.size
  replace o1 := (o1.below b27).more b27.size
  replace o2 := (o2.below b27).more b27.size
  replace o3 := (o3.below b27).more b27.size
  clear b27
  go_wp2_with fail
  refine (CI.out w27 _ _ _ _ _ o1 o2 o3 oo oy k1 k2 k3 (HFW.out.below (by rw [HN.out]; exact bA))).mono ?_
  rintro e w28 ⟨h1, h2, h3, rfl, oc, b28, -, -, -⟩
  replace HA := HA.later b28
  replace bA := below_then bA b28 (by rw [HN.out]; exact Nat.le_refl _)
  replace HM := HM.later b28
  replace gc := gc.later b28
  replace GB := row_later GB b28
  have hb28 := b28.size
  clear b28 o1 o2 o3 oo oy k1 k2 k3 CI
  have bx := below_new w28 (.cells #[.int .i64 st.c.pl, h1, h2, h3, .int .i64 st.c.cd, .bool st.says, .int .i64 st.gate, .int .i64 st.val] 33)
  have HH : Gs w27.heap.size w28.heap.size st h1 h2 h3 (w28.alloc (.cells #[.int .i64 st.c.pl, h1, h2, h3, .int .i64 st.c.cd, .bool st.says, .int .i64 st.gate, .int .i64 st.val] 33)) :=
    ⟨heap_alloc_new _ _, oc.later bx, fun g q => (oc.lt g q).2, hb28⟩
  obtain ⟨J1, j1, e1⟩ := oc.o1.see.shape
  obtain ⟨J2, j2, e2⟩ := oc.o2.see.shape
  obtain ⟨J3, j3, e3⟩ := oc.o3.see.shape
  subst e1 e2 e3
  replace HA := HA.later bx
  replace bA := below_then bA bx (by rw [HN.out]; exact Nat.le_refl _)
  replace HM := HM.later bx
  replace gc := gc.later bx
  replace GB := row_later GB bx
  clear bx oc hb28
  obtain ⟨p0, p1, p2, p3, p4, p5, p6, p7⟩ := cells8 HM.box
  go_wp2_with fail
  clear p0 p1 p2 p3 p4 p5 p6 p7
  generalize w28.alloc _ = W28 at *
  refine (EQ.out W28 _ _ _ HM HH.own.o1.see HH.own.o2.see HH.own.o3.see).mono ?_
  rintro e w29 ⟨rfl, b29⟩
  replace HA := HA.later b29
  replace bA := below_then bA b29 (by rw [HN.out]; exact Nat.le_refl _)
  replace gc := gc.later b29
  replace GB := row_later GB b29
  clear b29 HH
  obtain ⟨q0, q1, q2, q3, q4, q5, q6, q7⟩ := cells8 GB
  go_wp2_with fail
  refine (CH.out w29 gc.o1.see gc.o2.see gc.o3.see).mono ?_
  rintro e w30 ⟨rfl, b30⟩
  replace HA := HA.later b30
  replace bA := below_then bA b30 (by rw [HN.out]; exact Nat.le_refl _)
  clear q0 q1 q2 q3 q4 q5 q6 q7
  go_wp2_with fail
  go_ret
  exact ⟨rfl, by rw [HN.out]; exact bA⟩

end Go.Proofs.YtigcbegeaikfcaaGreatDoor
