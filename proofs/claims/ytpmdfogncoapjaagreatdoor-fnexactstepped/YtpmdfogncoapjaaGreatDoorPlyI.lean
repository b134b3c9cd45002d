/- Layer 9 (the player): does: one op. No conditions but those typed. -/
import Derived.Test.YtpmdfogncoapjaaGreatDoorPlyH
namespace Go.Proofs.YtpmdfogncoapjaaGreatDoor
open Go.RowKit
set_option linter.unusedVariables false

theorem DoOut.since {B N : Nat} {vs : Value} {st : St} {w W w' : World} {e : Ending} (h : DoOut B N vs st W e w') (b : Below B w W) : DoOut B N vs st w e w' := ⟨h.1, b.trans h.2.1, h.2.2⟩
theorem DoOut.ret {B N : Nat} {vs : Value} {st : St} {w w' : World} {e : Ending} (h : DoOut B N vs st w e w') : e = .returned (.int .i64 st.c.cd) := h.1

theorem Pl.only {w w' : World} {B N : Nat} {st : St} {vs u1 u2 u3 : Value} {S : Nat → Prop} (h : Pl w B N st vs u1 u2 u3) (on : Only S w w') (hS : ∀ g, g < w.heap.size → ¬ S g) : Pl w' B N st vs u1 u2 u3 :=
  ⟨(on.block _ h.lt (hS _ h.lt)).trans h.blk, h.own.only on (fun g q => hS g (h.own.lt g q).2), h.hB, h.no⟩

set_option maxHeartbeats 8000000 in
set_option maxRecDepth 100000 in
theorem does_go_1
(B N : Nat) (x m : Int) (s : List UInt8) (As : Option Addr) (cs : Nat) (u1 u2 u3 : Value) (zs : List Int) (bs : List Bx) (rs : List Int) (ss : List (List Int)) (w : World) (h : Pl w B N (onS ⟨x, zs, bs, rs, 0⟩) (.slice As ss.length cs) u1 u2 u3) (hx : 0 ≤ x ∧ x ≤ 300) (hzl : zs.length ≤ 60)
    (hz : 0 ≤ zs.length) (hgg : True) (st : St)
    (HM : ∀ W, Pl W B N (onS ⟨x + 1, zs, bs, rs, 0⟩) (.slice As ss.length cs) u1 u2 u3 → Below B w W → Calls Tryz.prog 135 #[.pointer (some ⟨N, 0, none⟩), .agg #[.int .i64 1, .int .i64 m, str s]] W (DoOut B N (.slice As ss.length cs) st W)) :
    Calls Tryz.prog 47 #[.pointer (some ⟨N, 0, none⟩), .agg #[.int .i64 1, .int .i64 m, str s]] w (DoOut B N (.slice As ss.length cs) st w) := by
  obtain ⟨A1, c1, e1⟩ := h.own.o1.see.shape
  dsimp only [onS] at e1
  subst e1
  have hN := h.lt
  have hB := h.hB
  have hBw : B ≤ w.heap.size := by omega
  have bA := below_new w (.cells #[.int .i64 1, .int .i64 m, str s] 41)
  have HA := Lib.hid (h.later bA)
  have HO := Lib.hid (heap_alloc_new w (.cells #[.int .i64 1, .int .i64 m, str s] 41))
  have HBA := Lib.hid (bA.mono hBw)
  have HBW := Lib.hid hBw
  clear bA hBw h
  obtain ⟨hx0, hx1⟩ := hx
  have hst : ∀ (W : World) (p : Addr) (f : Nat), (W.cell? p).isSome = true → W.frozen? p = false → (store p (.func (.func f) #[] #[])).run Tryz.prog W = .ok () (W.setCell p (.func (.func f) #[] #[])) := fun W p f h1 h2 => store_func W p f h1 h2
  go_enter Tryz.func47, Tryz.ntmps47
  go_upto_region 1 with fail
  generalize hW : w.alloc _ = W at *
  have HSZ := Lib.hid (show W.heap.size = w.heap.size + 1 by rw [← hW]; simp)
  clear hW
  obtain ⟨o0, o1, o2⟩ := cells3 HO.out
  go_upto_region 2 with (go_at_call 99; refine (form_1 W).mono ?_; rintro e w1 ⟨rfl, b1⟩)
  generalize hV : w1.alloc _ = V
  have HF := Lib.hid (show V.heap[w1.heap.size]? = some (.cells #[.int .i64 0, .bool false, .func (.func 135) #[] #[]] 124 (0, 0)) from by rw [← hV]; exact heap_alloc_new _ _)
  have hon : Only (fun g => g = w1.heap.size) w1 V := by rw [← hV]; exact Only.of_below (below_new _ _)
  have hs1 := b1.size
  have HP := Lib.hid ((HA.out.later b1).only hon (fun g q e => by omega))
  have HO2 := Lib.hid ((hon.block _ (Nat.lt_of_lt_of_le (heap_lt HO.out) hs1) (by have := heap_lt HO.out; omega)).trans (row_later HO.out b1))
  have HB2 := Lib.hid (HBA.out.trans ((b1.mono (by have := HSZ.out; have := HBW.out; omega)).trans (hon.below (by have := HSZ.out; have := HBW.out; omega) (fun g e => by have := HSZ.out; have := HBW.out; omega))))
  have HFN := Lib.hid (show N < w1.heap.size by have := HSZ.out; omega)
  clear hV hon o0 o1 o2 b1 HA HO HBA hs1
  generalize w1.heap.size = F at *
  obtain ⟨o0, o1, o2⟩ := cells3 HO2.out
  obtain ⟨f0, f1, f2⟩ := cells3 HF.out
  obtain ⟨p0, p1, p2, p3, p4, p5, p6, p7, p8⟩ := cells9 HP.out.blk
  dsimp only [onS] at p0 p1 p2 p3 p4 p5 p6 p7 p8
  have hf5 : V.frozen? ⟨N, 0, none⟩ = false := frozen_row HP.out.blk
  have hz2 : ¬ ((zs.length : Int) < 0) := by omega
  have hw1 : IntKind.i64.wrap (x + 1) = x + 1 := by rw [IntKind.wrap_i64]; omega
  skip
  go_quiet (fail)
  go_upto_region 3 with fail
  go_quiet (fail)
  go_upto_region 5 with fail
  clear o0 o1 o2 f0 f1 f2 p0 p1 p2 p3 p4 p5 p6 p7 p8 hf5
  generalize hQ : World.drewN _ _ = V2
  have HP2 := Lib.hid (show Pl V2 B N (onS ⟨x, zs, bs, rs, 0⟩) (.slice As ss.length cs) (.slice A1 zs.length c1) u2 u3 from by rw [← hQ]; first | exact (HP.out.drewN _).drewN _ | exact HP.out.drewN _ | exact HP.out)
  have HF2 := Lib.hid (show V2.heap[F]? = some (.cells #[.int .i64 0, .bool false, .func (.func 135) #[] #[]] 124 (0, 0)) from by rw [← hQ]; exact HF.out)
  have HO3 := Lib.hid (show V2.heap[w.heap.size]? = some (.cells #[.int .i64 1, .int .i64 m, str s] 41 (0, 0)) from by rw [← hQ]; exact HO2.out)
  have HB3 := Lib.hid (show Below B w V2 from by rw [← hQ]; first | exact below_drewN (below_drewN HB2.out _) _ | exact below_drewN HB2.out _ | exact HB2.out)
  clear hQ HP HF HO2 HB2
  obtain ⟨p0, p1, p2, p3, p4, p5, p6, p7, p8⟩ := cells9 HP2.out.blk
  dsimp only [onS] at p0 p1 p2 p3 p4 p5 p6 p7 p8
  have hf5 : V2.frozen? ⟨N, 0, none⟩ = false := frozen_row HP2.out.blk
  go_upto_region 6 with fail
  generalize hQ : World.setCell _ _ _ = V3
  have HP3 := Lib.hid (show Pl V3 B N (onS ⟨x + 1, zs, bs, rs, 0⟩) (.slice As ss.length cs) (.slice A1 zs.length c1) u2 u3 from by rw [← hQ]; exact HP2.out.at _)
  have HF3 := Lib.hid (show V3.heap[F]? = some (.cells #[.int .i64 0, .bool false, .func (.func 135) #[] #[]] 124 (0, 0)) from by rw [← hQ, Below.heap_setCell _ _ _ _ (by have := HFN.out; show F ≠ N; omega)]; exact HF2.out)
  have HO4 := Lib.hid (show V3.heap[w.heap.size]? = some (.cells #[.int .i64 1, .int .i64 m, str s] 41 (0, 0)) from by rw [← hQ, Below.heap_setCell _ _ _ _ (by show w.heap.size ≠ N; omega)]; exact HO3.out)
  have HB4 := Lib.hid (show Below B w V3 from by rw [← hQ]; exact HB3.out.setCell hB _)
  clear hQ HP2 HF2 HO3 HB3 p0 p1 p2 p3 p4 p5 p6 p7 p8 hf5
  obtain ⟨o0, o1, o2⟩ := cells3 HO4.out
  obtain ⟨f0, f1, f2⟩ := cells3 HF3.out
  go_wp2_with fail
  refine (HM V3 HP3.out HB4.out).mono ?_
  intro e w5 hd
  obtain rfl := hd.ret
  go_wp2_with fail
  go_ret
  exact hd.since HB4.out

set_option maxHeartbeats 8000000 in
set_option maxRecDepth 100000 in
theorem does_go_2
(B N : Nat) (x m : Int) (s : List UInt8) (As : Option Addr) (cs : Nat) (u1 u2 u3 : Value) (zs : List Int) (bs : List Bx) (rs : List Int) (ss : List (List Int)) (w : World) (h : Pl w B N (onS ⟨x, zs, bs, rs, 0⟩) (.slice As ss.length cs) u1 u2 u3) (hx : 0 ≤ x ∧ x ≤ 300) (hzl : zs.length ≤ 60)
    (hz : 0 ≤ zs.length) (hgg : True) (st : St)
    (HM : ∀ W, Pl W B N (onS ⟨x + 1, zs, bs, rs, 0⟩) (.slice As ss.length cs) u1 u2 u3 → Below B w W → Calls Tryz.prog 136 #[.pointer (some ⟨N, 0, none⟩), .agg #[.int .i64 2, .int .i64 m, str s]] W (DoOut B N (.slice As ss.length cs) st W)) :
    Calls Tryz.prog 47 #[.pointer (some ⟨N, 0, none⟩), .agg #[.int .i64 2, .int .i64 m, str s]] w (DoOut B N (.slice As ss.length cs) st w) := by
  obtain ⟨A1, c1, e1⟩ := h.own.o1.see.shape
  dsimp only [onS] at e1
  subst e1
  have hN := h.lt
  have hB := h.hB
  have hBw : B ≤ w.heap.size := by omega
  have bA := below_new w (.cells #[.int .i64 2, .int .i64 m, str s] 41)
  have HA := Lib.hid (h.later bA)
  have HO := Lib.hid (heap_alloc_new w (.cells #[.int .i64 2, .int .i64 m, str s] 41))
  have HBA := Lib.hid (bA.mono hBw)
  have HBW := Lib.hid hBw
  clear bA hBw h
  obtain ⟨hx0, hx1⟩ := hx
  have hst : ∀ (W : World) (p : Addr) (f : Nat), (W.cell? p).isSome = true → W.frozen? p = false → (store p (.func (.func f) #[] #[])).run Tryz.prog W = .ok () (W.setCell p (.func (.func f) #[] #[])) := fun W p f h1 h2 => store_func W p f h1 h2
  go_enter Tryz.func47, Tryz.ntmps47
  go_upto_region 1 with fail
  generalize hW : w.alloc _ = W at *
  have HSZ := Lib.hid (show W.heap.size = w.heap.size + 1 by rw [← hW]; simp)
  clear hW
  obtain ⟨o0, o1, o2⟩ := cells3 HO.out
  go_upto_region 2 with (go_at_call 99; refine (form_2 W).mono ?_; rintro e w1 ⟨rfl, b1⟩)
  generalize hV : w1.alloc _ = V
  have HF := Lib.hid (show V.heap[w1.heap.size]? = some (.cells #[.int .i64 0, .bool false, .func (.func 136) #[] #[]] 124 (0, 0)) from by rw [← hV]; exact heap_alloc_new _ _)
  have hon : Only (fun g => g = w1.heap.size) w1 V := by rw [← hV]; exact Only.of_below (below_new _ _)
  have hs1 := b1.size
  have HP := Lib.hid ((HA.out.later b1).only hon (fun g q e => by omega))
  have HO2 := Lib.hid ((hon.block _ (Nat.lt_of_lt_of_le (heap_lt HO.out) hs1) (by have := heap_lt HO.out; omega)).trans (row_later HO.out b1))
  have HB2 := Lib.hid (HBA.out.trans ((b1.mono (by have := HSZ.out; have := HBW.out; omega)).trans (hon.below (by have := HSZ.out; have := HBW.out; omega) (fun g e => by have := HSZ.out; have := HBW.out; omega))))
  have HFN := Lib.hid (show N < w1.heap.size by have := HSZ.out; omega)
  clear hV hon o0 o1 o2 b1 HA HO HBA hs1
  generalize w1.heap.size = F at *
  obtain ⟨o0, o1, o2⟩ := cells3 HO2.out
  obtain ⟨f0, f1, f2⟩ := cells3 HF.out
  obtain ⟨p0, p1, p2, p3, p4, p5, p6, p7, p8⟩ := cells9 HP.out.blk
  dsimp only [onS] at p0 p1 p2 p3 p4 p5 p6 p7 p8
  have hf5 : V.frozen? ⟨N, 0, none⟩ = false := frozen_row HP.out.blk
  have hz2 : ¬ ((zs.length : Int) < 0) := by omega
  have hw1 : IntKind.i64.wrap (x + 1) = x + 1 := by rw [IntKind.wrap_i64]; omega
  skip
  go_quiet (fail)
  go_upto_region 3 with fail
  go_quiet (fail)
  go_upto_region 5 with fail
  clear o0 o1 o2 f0 f1 f2 p0 p1 p2 p3 p4 p5 p6 p7 p8 hf5
  generalize hQ : World.drewN _ _ = V2
  have HP2 := Lib.hid (show Pl V2 B N (onS ⟨x, zs, bs, rs, 0⟩) (.slice As ss.length cs) (.slice A1 zs.length c1) u2 u3 from by rw [← hQ]; first | exact (HP.out.drewN _).drewN _ | exact HP.out.drewN _ | exact HP.out)
  have HF2 := Lib.hid (show V2.heap[F]? = some (.cells #[.int .i64 0, .bool false, .func (.func 136) #[] #[]] 124 (0, 0)) from by rw [← hQ]; exact HF.out)
  have HO3 := Lib.hid (show V2.heap[w.heap.size]? = some (.cells #[.int .i64 2, .int .i64 m, str s] 41 (0, 0)) from by rw [← hQ]; exact HO2.out)
  have HB3 := Lib.hid (show Below B w V2 from by rw [← hQ]; first | exact below_drewN (below_drewN HB2.out _) _ | exact below_drewN HB2.out _ | exact HB2.out)
  clear hQ HP HF HO2 HB2
  obtain ⟨p0, p1, p2, p3, p4, p5, p6, p7, p8⟩ := cells9 HP2.out.blk
  dsimp only [onS] at p0 p1 p2 p3 p4 p5 p6 p7 p8
  have hf5 : V2.frozen? ⟨N, 0, none⟩ = false := frozen_row HP2.out.blk
  go_upto_region 6 with fail
  generalize hQ : World.setCell _ _ _ = V3
  have HP3 := Lib.hid (show Pl V3 B N (onS ⟨x + 1, zs, bs, rs, 0⟩) (.slice As ss.length cs) (.slice A1 zs.length c1) u2 u3 from by rw [← hQ]; exact HP2.out.at _)
  have HF3 := Lib.hid (show V3.heap[F]? = some (.cells #[.int .i64 0, .bool false, .func (.func 136) #[] #[]] 124 (0, 0)) from by rw [← hQ, Below.heap_setCell _ _ _ _ (by have := HFN.out; show F ≠ N; omega)]; exact HF2.out)
  have HO4 := Lib.hid (show V3.heap[w.heap.size]? = some (.cells #[.int .i64 2, .int .i64 m, str s] 41 (0, 0)) from by rw [← hQ, Below.heap_setCell _ _ _ _ (by show w.heap.size ≠ N; omega)]; exact HO3.out)
  have HB4 := Lib.hid (show Below B w V3 from by rw [← hQ]; exact HB3.out.setCell hB _)
  clear hQ HP2 HF2 HO3 HB3 p0 p1 p2 p3 p4 p5 p6 p7 p8 hf5
  obtain ⟨o0, o1, o2⟩ := cells3 HO4.out
  obtain ⟨f0, f1, f2⟩ := cells3 HF3.out
  go_wp2_with fail
  refine (HM V3 HP3.out HB4.out).mono ?_
  intro e w5 hd
  obtain rfl := hd.ret
  go_wp2_with fail
  go_ret
  exact hd.since HB4.out

set_option maxHeartbeats 8000000 in
set_option maxRecDepth 100000 in
theorem does_go_3
(B N : Nat) (x m : Int) (s : List UInt8) (As : Option Addr) (cs : Nat) (u1 u2 u3 : Value) (zs : List Int) (bs : List Bx) (rs : List Int) (ss : List (List Int)) (w : World) (h : Pl w B N (onS ⟨x, zs, bs, rs, 0⟩) (.slice As ss.length cs) u1 u2 u3) (hx : 0 ≤ x ∧ x ≤ 300) (hzl : zs.length ≤ 60)
    (hz : 2 ≤ zs.length) (hgg : True) (st : St)
    (HM : ∀ W, Pl W B N (onS ⟨x + 1, zs, bs, rs, 0⟩) (.slice As ss.length cs) u1 u2 u3 → Below B w W → Calls Tryz.prog 137 #[.pointer (some ⟨N, 0, none⟩), .agg #[.int .i64 3, .int .i64 m, str s]] W (DoOut B N (.slice As ss.length cs) st W)) :
    Calls Tryz.prog 47 #[.pointer (some ⟨N, 0, none⟩), .agg #[.int .i64 3, .int .i64 m, str s]] w (DoOut B N (.slice As ss.length cs) st w) := by
  obtain ⟨A1, c1, e1⟩ := h.own.o1.see.shape
  dsimp only [onS] at e1
  subst e1
  have hN := h.lt
  have hB := h.hB
  have hBw : B ≤ w.heap.size := by omega
  have bA := below_new w (.cells #[.int .i64 3, .int .i64 m, str s] 41)
  have HA := Lib.hid (h.later bA)
  have HO := Lib.hid (heap_alloc_new w (.cells #[.int .i64 3, .int .i64 m, str s] 41))
  have HBA := Lib.hid (bA.mono hBw)
  have HBW := Lib.hid hBw
  clear bA hBw h
  obtain ⟨hx0, hx1⟩ := hx
  have hst : ∀ (W : World) (p : Addr) (f : Nat), (W.cell? p).isSome = true → W.frozen? p = false → (store p (.func (.func f) #[] #[])).run Tryz.prog W = .ok () (W.setCell p (.func (.func f) #[] #[])) := fun W p f h1 h2 => store_func W p f h1 h2
  go_enter Tryz.func47, Tryz.ntmps47
  go_upto_region 1 with fail
  generalize hW : w.alloc _ = W at *
  have HSZ := Lib.hid (show W.heap.size = w.heap.size + 1 by rw [← hW]; simp)
  clear hW
  obtain ⟨o0, o1, o2⟩ := cells3 HO.out
  go_upto_region 2 with (go_at_call 99; refine (form_3 W).mono ?_; rintro e w1 ⟨rfl, b1⟩)
  generalize hV : w1.alloc _ = V
  have HF := Lib.hid (show V.heap[w1.heap.size]? = some (.cells #[.int .i64 2, .bool false, .func (.func 137) #[] #[]] 124 (0, 0)) from by rw [← hV]; exact heap_alloc_new _ _)
  have hon : Only (fun g => g = w1.heap.size) w1 V := by rw [← hV]; exact Only.of_below (below_new _ _)
  have hs1 := b1.size
  have HP := Lib.hid ((HA.out.later b1).only hon (fun g q e => by omega))
  have HO2 := Lib.hid ((hon.block _ (Nat.lt_of_lt_of_le (heap_lt HO.out) hs1) (by have := heap_lt HO.out; omega)).trans (row_later HO.out b1))
  have HB2 := Lib.hid (HBA.out.trans ((b1.mono (by have := HSZ.out; have := HBW.out; omega)).trans (hon.below (by have := HSZ.out; have := HBW.out; omega) (fun g e => by have := HSZ.out; have := HBW.out; omega))))
  have HFN := Lib.hid (show N < w1.heap.size by have := HSZ.out; omega)
  clear hV hon o0 o1 o2 b1 HA HO HBA hs1
  generalize w1.heap.size = F at *
  obtain ⟨o0, o1, o2⟩ := cells3 HO2.out
  obtain ⟨f0, f1, f2⟩ := cells3 HF.out
  obtain ⟨p0, p1, p2, p3, p4, p5, p6, p7, p8⟩ := cells9 HP.out.blk
  dsimp only [onS] at p0 p1 p2 p3 p4 p5 p6 p7 p8
  have hf5 : V.frozen? ⟨N, 0, none⟩ = false := frozen_row HP.out.blk
  have hz2 : ¬ ((zs.length : Int) < 2) := by omega
  have hw1 : IntKind.i64.wrap (x + 1) = x + 1 := by rw [IntKind.wrap_i64]; omega
  skip
  go_quiet (fail)
  go_upto_region 3 with fail
  go_quiet (fail)
  go_upto_region 5 with fail
  clear o0 o1 o2 f0 f1 f2 p0 p1 p2 p3 p4 p5 p6 p7 p8 hf5
  generalize hQ : World.drewN _ _ = V2
  have HP2 := Lib.hid (show Pl V2 B N (onS ⟨x, zs, bs, rs, 0⟩) (.slice As ss.length cs) (.slice A1 zs.length c1) u2 u3 from by rw [← hQ]; first | exact (HP.out.drewN _).drewN _ | exact HP.out.drewN _ | exact HP.out)
  have HF2 := Lib.hid (show V2.heap[F]? = some (.cells #[.int .i64 2, .bool false, .func (.func 137) #[] #[]] 124 (0, 0)) from by rw [← hQ]; exact HF.out)
  have HO3 := Lib.hid (show V2.heap[w.heap.size]? = some (.cells #[.int .i64 3, .int .i64 m, str s] 41 (0, 0)) from by rw [← hQ]; exact HO2.out)
  have HB3 := Lib.hid (show Below B w V2 from by rw [← hQ]; first | exact below_drewN (below_drewN HB2.out _) _ | exact below_drewN HB2.out _ | exact HB2.out)
  clear hQ HP HF HO2 HB2
  obtain ⟨p0, p1, p2, p3, p4, p5, p6, p7, p8⟩ := cells9 HP2.out.blk
  dsimp only [onS] at p0 p1 p2 p3 p4 p5 p6 p7 p8
  have hf5 : V2.frozen? ⟨N, 0, none⟩ = false := frozen_row HP2.out.blk
  go_upto_region 6 with fail
  generalize hQ : World.setCell _ _ _ = V3
  have HP3 := Lib.hid (show Pl V3 B N (onS ⟨x + 1, zs, bs, rs, 0⟩) (.slice As ss.length cs) (.slice A1 zs.length c1) u2 u3 from by rw [← hQ]; exact HP2.out.at _)
  have HF3 := Lib.hid (show V3.heap[F]? = some (.cells #[.int .i64 2, .bool false, .func (.func 137) #[] #[]] 124 (0, 0)) from by rw [← hQ, Below.heap_setCell _ _ _ _ (by have := HFN.out; show F ≠ N; omega)]; exact HF2.out)
  have HO4 := Lib.hid (show V3.heap[w.heap.size]? = some (.cells #[.int .i64 3, .int .i64 m, str s] 41 (0, 0)) from by rw [← hQ, Below.heap_setCell _ _ _ _ (by show w.heap.size ≠ N; omega)]; exact HO3.out)
  have HB4 := Lib.hid (show Below B w V3 from by rw [← hQ]; exact HB3.out.setCell hB _)
  clear hQ HP2 HF2 HO3 HB3 p0 p1 p2 p3 p4 p5 p6 p7 p8 hf5
  obtain ⟨o0, o1, o2⟩ := cells3 HO4.out
  obtain ⟨f0, f1, f2⟩ := cells3 HF3.out
  go_wp2_with fail
  refine (HM V3 HP3.out HB4.out).mono ?_
  intro e w5 hd
  obtain rfl := hd.ret
  go_wp2_with fail
  go_ret
  exact hd.since HB4.out

set_option maxHeartbeats 8000000 in
set_option maxRecDepth 100000 in
theorem does_go_4
(B N : Nat) (x m : Int) (s : List UInt8) (As : Option Addr) (cs : Nat) (u1 u2 u3 : Value) (zs : List Int) (bs : List Bx) (rs : List Int) (ss : List (List Int)) (w : World) (h : Pl w B N (onS ⟨x, zs, bs, rs, 0⟩) (.slice As ss.length cs) u1 u2 u3) (hx : 0 ≤ x ∧ x ≤ 300) (hzl : zs.length ≤ 60)
    (hz : 1 ≤ zs.length) (hgg : True) (st : St)
    (HM : ∀ W, Pl W B N (onS ⟨x + 1, zs, bs, rs, 0⟩) (.slice As ss.length cs) u1 u2 u3 → Below B w W → Calls Tryz.prog 138 #[.pointer (some ⟨N, 0, none⟩), .agg #[.int .i64 4, .int .i64 m, str s]] W (DoOut B N (.slice As ss.length cs) st W)) :
    Calls Tryz.prog 47 #[.pointer (some ⟨N, 0, none⟩), .agg #[.int .i64 4, .int .i64 m, str s]] w (DoOut B N (.slice As ss.length cs) st w) := by
  obtain ⟨A1, c1, e1⟩ := h.own.o1.see.shape
  dsimp only [onS] at e1
  subst e1
  have hN := h.lt
  have hB := h.hB
  have hBw : B ≤ w.heap.size := by omega
  have bA := below_new w (.cells #[.int .i64 4, .int .i64 m, str s] 41)
  have HA := Lib.hid (h.later bA)
  have HO := Lib.hid (heap_alloc_new w (.cells #[.int .i64 4, .int .i64 m, str s] 41))
  have HBA := Lib.hid (bA.mono hBw)
  have HBW := Lib.hid hBw
  clear bA hBw h
  obtain ⟨hx0, hx1⟩ := hx
  have hst : ∀ (W : World) (p : Addr) (f : Nat), (W.cell? p).isSome = true → W.frozen? p = false → (store p (.func (.func f) #[] #[])).run Tryz.prog W = .ok () (W.setCell p (.func (.func f) #[] #[])) := fun W p f h1 h2 => store_func W p f h1 h2
  go_enter Tryz.func47, Tryz.ntmps47
  go_upto_region 1 with fail
  generalize hW : w.alloc _ = W at *
  have HSZ := Lib.hid (show W.heap.size = w.heap.size + 1 by rw [← hW]; simp)
  clear hW
  obtain ⟨o0, o1, o2⟩ := cells3 HO.out
  go_upto_region 2 with (go_at_call 99; refine (form_4 W).mono ?_; rintro e w1 ⟨rfl, b1⟩)
  generalize hV : w1.alloc _ = V
  have HF := Lib.hid (show V.heap[w1.heap.size]? = some (.cells #[.int .i64 1, .bool false, .func (.func 138) #[] #[]] 124 (0, 0)) from by rw [← hV]; exact heap_alloc_new _ _)
  have hon : Only (fun g => g = w1.heap.size) w1 V := by rw [← hV]; exact Only.of_below (below_new _ _)
  have hs1 := b1.size
  have HP := Lib.hid ((HA.out.later b1).only hon (fun g q e => by omega))
  have HO2 := Lib.hid ((hon.block _ (Nat.lt_of_lt_of_le (heap_lt HO.out) hs1) (by have := heap_lt HO.out; omega)).trans (row_later HO.out b1))
  have HB2 := Lib.hid (HBA.out.trans ((b1.mono (by have := HSZ.out; have := HBW.out; omega)).trans (hon.below (by have := HSZ.out; have := HBW.out; omega) (fun g e => by have := HSZ.out; have := HBW.out; omega))))
  have HFN := Lib.hid (show N < w1.heap.size by have := HSZ.out; omega)
  clear hV hon o0 o1 o2 b1 HA HO HBA hs1
  generalize w1.heap.size = F at *
  obtain ⟨o0, o1, o2⟩ := cells3 HO2.out
  obtain ⟨f0, f1, f2⟩ := cells3 HF.out
  obtain ⟨p0, p1, p2, p3, p4, p5, p6, p7, p8⟩ := cells9 HP.out.blk
  dsimp only [onS] at p0 p1 p2 p3 p4 p5 p6 p7 p8
  have hf5 : V.frozen? ⟨N, 0, none⟩ = false := frozen_row HP.out.blk
  have hz2 : ¬ ((zs.length : Int) < 1) := by omega
  have hw1 : IntKind.i64.wrap (x + 1) = x + 1 := by rw [IntKind.wrap_i64]; omega
  skip
  go_quiet (fail)
  go_upto_region 3 with fail
  go_quiet (fail)
  go_upto_region 5 with fail
  clear o0 o1 o2 f0 f1 f2 p0 p1 p2 p3 p4 p5 p6 p7 p8 hf5
  generalize hQ : World.drewN _ _ = V2
  have HP2 := Lib.hid (show Pl V2 B N (onS ⟨x, zs, bs, rs, 0⟩) (.slice As ss.length cs) (.slice A1 zs.length c1) u2 u3 from by rw [← hQ]; first | exact (HP.out.drewN _).drewN _ | exact HP.out.drewN _ | exact HP.out)
  have HF2 := Lib.hid (show V2.heap[F]? = some (.cells #[.int .i64 1, .bool false, .func (.func 138) #[] #[]] 124 (0, 0)) from by rw [← hQ]; exact HF.out)
  have HO3 := Lib.hid (show V2.heap[w.heap.size]? = some (.cells #[.int .i64 4, .int .i64 m, str s] 41 (0, 0)) from by rw [← hQ]; exact HO2.out)
  have HB3 := Lib.hid (show Below B w V2 from by rw [← hQ]; first | exact below_drewN (below_drewN HB2.out _) _ | exact below_drewN HB2.out _ | exact HB2.out)
  clear hQ HP HF HO2 HB2
  obtain ⟨p0, p1, p2, p3, p4, p5, p6, p7, p8⟩ := cells9 HP2.out.blk
  dsimp only [onS] at p0 p1 p2 p3 p4 p5 p6 p7 p8
  have hf5 : V2.frozen? ⟨N, 0, none⟩ = false := frozen_row HP2.out.blk
  go_upto_region 6 with fail
  generalize hQ : World.setCell _ _ _ = V3
  have HP3 := Lib.hid (show Pl V3 B N (onS ⟨x + 1, zs, bs, rs, 0⟩) (.slice As ss.length cs) (.slice A1 zs.length c1) u2 u3 from by rw [← hQ]; exact HP2.out.at _)
  have HF3 := Lib.hid (show V3.heap[F]? = some (.cells #[.int .i64 1, .bool false, .func (.func 138) #[] #[]] 124 (0, 0)) from by rw [← hQ, Below.heap_setCell _ _ _ _ (by have := HFN.out; show F ≠ N; omega)]; exact HF2.out)
  have HO4 := Lib.hid (show V3.heap[w.heap.size]? = some (.cells #[.int .i64 4, .int .i64 m, str s] 41 (0, 0)) from by rw [← hQ, Below.heap_setCell _ _ _ _ (by show w.heap.size ≠ N; omega)]; exact HO3.out)
  have HB4 := Lib.hid (show Below B w V3 from by rw [← hQ]; exact HB3.out.setCell hB _)
  clear hQ HP2 HF2 HO3 HB3 p0 p1 p2 p3 p4 p5 p6 p7 p8 hf5
  obtain ⟨o0, o1, o2⟩ := cells3 HO4.out
  obtain ⟨f0, f1, f2⟩ := cells3 HF3.out
  go_wp2_with fail
  refine (HM V3 HP3.out HB4.out).mono ?_
  intro e w5 hd
  obtain rfl := hd.ret
  go_wp2_with fail
  go_ret
  exact hd.since HB4.out

set_option maxHeartbeats 8000000 in
set_option maxRecDepth 100000 in
theorem does_go_5
(B N : Nat) (x m : Int) (s : List UInt8) (As : Option Addr) (cs : Nat) (u1 u2 u3 : Value) (zs : List Int) (bs : List Bx) (rs : List Int) (ss : List (List Int)) (w : World) (h : Pl w B N (onS ⟨x, zs, bs, rs, 0⟩) (.slice As ss.length cs) u1 u2 u3) (hx : 0 ≤ x ∧ x ≤ 300) (hzl : zs.length ≤ 60)
    (hz : 0 ≤ zs.length) (hgg : m < (ss.length : Int)) (st : St)
    (HM : ∀ W, Pl W B N (onS ⟨x + 1, zs, bs, rs, 0⟩) (.slice As ss.length cs) u1 u2 u3 → Below B w W → Calls Tryz.prog 139 #[.pointer (some ⟨N, 0, none⟩), .agg #[.int .i64 5, .int .i64 m, str s]] W (DoOut B N (.slice As ss.length cs) st W)) :
    Calls Tryz.prog 47 #[.pointer (some ⟨N, 0, none⟩), .agg #[.int .i64 5, .int .i64 m, str s]] w (DoOut B N (.slice As ss.length cs) st w) := by
  obtain ⟨A1, c1, e1⟩ := h.own.o1.see.shape
  dsimp only [onS] at e1
  subst e1
  have hN := h.lt
  have hB := h.hB
  have hBw : B ≤ w.heap.size := by omega
  have bA := below_new w (.cells #[.int .i64 5, .int .i64 m, str s] 41)
  have HA := Lib.hid (h.later bA)
  have HO := Lib.hid (heap_alloc_new w (.cells #[.int .i64 5, .int .i64 m, str s] 41))
  have HBA := Lib.hid (bA.mono hBw)
  have HBW := Lib.hid hBw
  clear bA hBw h
  obtain ⟨hx0, hx1⟩ := hx
  have hst : ∀ (W : World) (p : Addr) (f : Nat), (W.cell? p).isSome = true → W.frozen? p = false → (store p (.func (.func f) #[] #[])).run Tryz.prog W = .ok () (W.setCell p (.func (.func f) #[] #[])) := fun W p f h1 h2 => store_func W p f h1 h2
  go_enter Tryz.func47, Tryz.ntmps47
  go_upto_region 1 with fail
  generalize hW : w.alloc _ = W at *
  have HSZ := Lib.hid (show W.heap.size = w.heap.size + 1 by rw [← hW]; simp)
  clear hW
  obtain ⟨o0, o1, o2⟩ := cells3 HO.out
  go_upto_region 2 with (go_at_call 99; refine (form_5 W).mono ?_; rintro e w1 ⟨rfl, b1⟩)
  generalize hV : w1.alloc _ = V
  have HF := Lib.hid (show V.heap[w1.heap.size]? = some (.cells #[.int .i64 0, .bool true, .func (.func 139) #[] #[]] 124 (0, 0)) from by rw [← hV]; exact heap_alloc_new _ _)
  have hon : Only (fun g => g = w1.heap.size) w1 V := by rw [← hV]; exact Only.of_below (below_new _ _)
  have hs1 := b1.size
  have HP := Lib.hid ((HA.out.later b1).only hon (fun g q e => by omega))
  have HO2 := Lib.hid ((hon.block _ (Nat.lt_of_lt_of_le (heap_lt HO.out) hs1) (by have := heap_lt HO.out; omega)).trans (row_later HO.out b1))
  have HB2 := Lib.hid (HBA.out.trans ((b1.mono (by have := HSZ.out; have := HBW.out; omega)).trans (hon.below (by have := HSZ.out; have := HBW.out; omega) (fun g e => by have := HSZ.out; have := HBW.out; omega))))
  have HFN := Lib.hid (show N < w1.heap.size by have := HSZ.out; omega)
  clear hV hon o0 o1 o2 b1 HA HO HBA hs1
  generalize w1.heap.size = F at *
  obtain ⟨o0, o1, o2⟩ := cells3 HO2.out
  obtain ⟨f0, f1, f2⟩ := cells3 HF.out
  obtain ⟨p0, p1, p2, p3, p4, p5, p6, p7, p8⟩ := cells9 HP.out.blk
  dsimp only [onS] at p0 p1 p2 p3 p4 p5 p6 p7 p8
  have hf5 : V.frozen? ⟨N, 0, none⟩ = false := frozen_row HP.out.blk
  have hz2 : ¬ ((zs.length : Int) < 0) := by omega
  have hw1 : IntKind.i64.wrap (x + 1) = x + 1 := by rw [IntKind.wrap_i64]; omega
  have hgg2 : ¬ ((ss.length : Int) ≤ m) := by omega
  go_quiet (fail)
  go_upto_region 3 with fail
  go_quiet (fail)
  go_upto_region 5 with fail
  clear o0 o1 o2 f0 f1 f2 p0 p1 p2 p3 p4 p5 p6 p7 p8 hf5
  generalize hQ : World.drewN _ _ = V2
  have HP2 := Lib.hid (show Pl V2 B N (onS ⟨x, zs, bs, rs, 0⟩) (.slice As ss.length cs) (.slice A1 zs.length c1) u2 u3 from by rw [← hQ]; first | exact (HP.out.drewN _).drewN _ | exact HP.out.drewN _ | exact HP.out)
  have HF2 := Lib.hid (show V2.heap[F]? = some (.cells #[.int .i64 0, .bool true, .func (.func 139) #[] #[]] 124 (0, 0)) from by rw [← hQ]; exact HF.out)
  have HO3 := Lib.hid (show V2.heap[w.heap.size]? = some (.cells #[.int .i64 5, .int .i64 m, str s] 41 (0, 0)) from by rw [← hQ]; exact HO2.out)
  have HB3 := Lib.hid (show Below B w V2 from by rw [← hQ]; first | exact below_drewN (below_drewN HB2.out _) _ | exact below_drewN HB2.out _ | exact HB2.out)
  clear hQ HP HF HO2 HB2
  obtain ⟨p0, p1, p2, p3, p4, p5, p6, p7, p8⟩ := cells9 HP2.out.blk
  dsimp only [onS] at p0 p1 p2 p3 p4 p5 p6 p7 p8
  have hf5 : V2.frozen? ⟨N, 0, none⟩ = false := frozen_row HP2.out.blk
  go_upto_region 6 with fail
  generalize hQ : World.setCell _ _ _ = V3
  have HP3 := Lib.hid (show Pl V3 B N (onS ⟨x + 1, zs, bs, rs, 0⟩) (.slice As ss.length cs) (.slice A1 zs.length c1) u2 u3 from by rw [← hQ]; exact HP2.out.at _)
  have HF3 := Lib.hid (show V3.heap[F]? = some (.cells #[.int .i64 0, .bool true, .func (.func 139) #[] #[]] 124 (0, 0)) from by rw [← hQ, Below.heap_setCell _ _ _ _ (by have := HFN.out; show F ≠ N; omega)]; exact HF2.out)
  have HO4 := Lib.hid (show V3.heap[w.heap.size]? = some (.cells #[.int .i64 5, .int .i64 m, str s] 41 (0, 0)) from by rw [← hQ, Below.heap_setCell _ _ _ _ (by show w.heap.size ≠ N; omega)]; exact HO3.out)
  have HB4 := Lib.hid (show Below B w V3 from by rw [← hQ]; exact HB3.out.setCell hB _)
  clear hQ HP2 HF2 HO3 HB3 p0 p1 p2 p3 p4 p5 p6 p7 p8 hf5
  obtain ⟨o0, o1, o2⟩ := cells3 HO4.out
  obtain ⟨f0, f1, f2⟩ := cells3 HF3.out
  go_wp2_with fail
  refine (HM V3 HP3.out HB4.out).mono ?_
  intro e w5 hd
  obtain rfl := hd.ret
  go_wp2_with fail
  go_ret
  exact hd.since HB4.out

set_option maxHeartbeats 8000000 in
set_option maxRecDepth 100000 in
theorem does_go_6
(B N : Nat) (x m : Int) (s : List UInt8) (As : Option Addr) (cs : Nat) (u1 u2 u3 : Value) (zs : List Int) (bs : List Bx) (rs : List Int) (ss : List (List Int)) (w : World) (h : Pl w B N (onS ⟨x, zs, bs, rs, 0⟩) (.slice As ss.length cs) u1 u2 u3) (hx : 0 ≤ x ∧ x ≤ 300) (hzl : zs.length ≤ 60)
    (hz : 1 ≤ zs.length) (hgg : m < (ss.length : Int)) (st : St)
    (HM : ∀ W, Pl W B N (onS ⟨x + 1, zs, bs, rs, 0⟩) (.slice As ss.length cs) u1 u2 u3 → Below B w W → Calls Tryz.prog 140 #[.pointer (some ⟨N, 0, none⟩), .agg #[.int .i64 6, .int .i64 m, str s]] W (DoOut B N (.slice As ss.length cs) st W)) :
    Calls Tryz.prog 47 #[.pointer (some ⟨N, 0, none⟩), .agg #[.int .i64 6, .int .i64 m, str s]] w (DoOut B N (.slice As ss.length cs) st w) := by
  obtain ⟨A1, c1, e1⟩ := h.own.o1.see.shape
  dsimp only [onS] at e1
  subst e1
  have hN := h.lt
  have hB := h.hB
  have hBw : B ≤ w.heap.size := by omega
  have bA := below_new w (.cells #[.int .i64 6, .int .i64 m, str s] 41)
  have HA := Lib.hid (h.later bA)
  have HO := Lib.hid (heap_alloc_new w (.cells #[.int .i64 6, .int .i64 m, str s] 41))
  have HBA := Lib.hid (bA.mono hBw)
  have HBW := Lib.hid hBw
  clear bA hBw h
  obtain ⟨hx0, hx1⟩ := hx
  have hst : ∀ (W : World) (p : Addr) (f : Nat), (W.cell? p).isSome = true → W.frozen? p = false → (store p (.func (.func f) #[] #[])).run Tryz.prog W = .ok () (W.setCell p (.func (.func f) #[] #[])) := fun W p f h1 h2 => store_func W p f h1 h2
  go_enter Tryz.func47, Tryz.ntmps47
  go_upto_region 1 with fail
  generalize hW : w.alloc _ = W at *
  have HSZ := Lib.hid (show W.heap.size = w.heap.size + 1 by rw [← hW]; simp)
  clear hW
  obtain ⟨o0, o1, o2⟩ := cells3 HO.out
  go_upto_region 2 with (go_at_call 99; refine (form_6 W).mono ?_; rintro e w1 ⟨rfl, b1⟩)
  generalize hV : w1.alloc _ = V
  have HF := Lib.hid (show V.heap[w1.heap.size]? = some (.cells #[.int .i64 1, .bool true, .func (.func 140) #[] #[]] 124 (0, 0)) from by rw [← hV]; exact heap_alloc_new _ _)
  have hon : Only (fun g => g = w1.heap.size) w1 V := by rw [← hV]; exact Only.of_below (below_new _ _)
  have hs1 := b1.size
  have HP := Lib.hid ((HA.out.later b1).only hon (fun g q e => by omega))
  have HO2 := Lib.hid ((hon.block _ (Nat.lt_of_lt_of_le (heap_lt HO.out) hs1) (by have := heap_lt HO.out; omega)).trans (row_later HO.out b1))
  have HB2 := Lib.hid (HBA.out.trans ((b1.mono (by have := HSZ.out; have := HBW.out; omega)).trans (hon.below (by have := HSZ.out; have := HBW.out; omega) (fun g e => by have := HSZ.out; have := HBW.out; omega))))
  have HFN := Lib.hid (show N < w1.heap.size by have := HSZ.out; omega)
  clear hV hon o0 o1 o2 b1 HA HO HBA hs1
  generalize w1.heap.size = F at *
  obtain ⟨o0, o1, o2⟩ := cells3 HO2.out
  obtain ⟨f0, f1, f2⟩ := cells3 HF.out
  obtain ⟨p0, p1, p2, p3, p4, p5, p6, p7, p8⟩ := cells9 HP.out.blk
  dsimp only [onS] at p0 p1 p2 p3 p4 p5 p6 p7 p8
  have hf5 : V.frozen? ⟨N, 0, none⟩ = false := frozen_row HP.out.blk
  have hz2 : ¬ ((zs.length : Int) < 1) := by omega
  have hw1 : IntKind.i64.wrap (x + 1) = x + 1 := by rw [IntKind.wrap_i64]; omega
  have hgg2 : ¬ ((ss.length : Int) ≤ m) := by omega
  go_quiet (fail)
  go_upto_region 3 with fail
  go_quiet (fail)
  go_upto_region 5 with fail
  clear o0 o1 o2 f0 f1 f2 p0 p1 p2 p3 p4 p5 p6 p7 p8 hf5
  generalize hQ : World.drewN _ _ = V2
  have HP2 := Lib.hid (show Pl V2 B N (onS ⟨x, zs, bs, rs, 0⟩) (.slice As ss.length cs) (.slice A1 zs.length c1) u2 u3 from by rw [← hQ]; first | exact (HP.out.drewN _).drewN _ | exact HP.out.drewN _ | exact HP.out)
  have HF2 := Lib.hid (show V2.heap[F]? = some (.cells #[.int .i64 1, .bool true, .func (.func 140) #[] #[]] 124 (0, 0)) from by rw [← hQ]; exact HF.out)
  have HO3 := Lib.hid (show V2.heap[w.heap.size]? = some (.cells #[.int .i64 6, .int .i64 m, str s] 41 (0, 0)) from by rw [← hQ]; exact HO2.out)
  have HB3 := Lib.hid (show Below B w V2 from by rw [← hQ]; first | exact below_drewN (below_drewN HB2.out _) _ | exact below_drewN HB2.out _ | exact HB2.out)
  clear hQ HP HF HO2 HB2
  obtain ⟨p0, p1, p2, p3, p4, p5, p6, p7, p8⟩ := cells9 HP2.out.blk
  dsimp only [onS] at p0 p1 p2 p3 p4 p5 p6 p7 p8
  have hf5 : V2.frozen? ⟨N, 0, none⟩ = false := frozen_row HP2.out.blk
  go_upto_region 6 with fail
  generalize hQ : World.setCell _ _ _ = V3
  have HP3 := Lib.hid (show Pl V3 B N (onS ⟨x + 1, zs, bs, rs, 0⟩) (.slice As ss.length cs) (.slice A1 zs.length c1) u2 u3 from by rw [← hQ]; exact HP2.out.at _)
  have HF3 := Lib.hid (show V3.heap[F]? = some (.cells #[.int .i64 1, .bool true, .func (.func 140) #[] #[]] 124 (0, 0)) from by rw [← hQ, Below.heap_setCell _ _ _ _ (by have := HFN.out; show F ≠ N; omega)]; exact HF2.out)
  have HO4 := Lib.hid (show V3.heap[w.heap.size]? = some (.cells #[.int .i64 6, .int .i64 m, str s] 41 (0, 0)) from by rw [← hQ, Below.heap_setCell _ _ _ _ (by show w.heap.size ≠ N; omega)]; exact HO3.out)
  have HB4 := Lib.hid (show Below B w V3 from by rw [← hQ]; exact HB3.out.setCell hB _)
  clear hQ HP2 HF2 HO3 HB3 p0 p1 p2 p3 p4 p5 p6 p7 p8 hf5
  obtain ⟨o0, o1, o2⟩ := cells3 HO4.out
  obtain ⟨f0, f1, f2⟩ := cells3 HF3.out
  go_wp2_with fail
  refine (HM V3 HP3.out HB4.out).mono ?_
  intro e w5 hd
  obtain rfl := hd.ret
  go_wp2_with fail
  go_ret
  exact hd.since HB4.out

set_option maxHeartbeats 8000000 in
set_option maxRecDepth 100000 in
theorem does_go_7
(B N : Nat) (x m : Int) (s : List UInt8) (As : Option Addr) (cs : Nat) (u1 u2 u3 : Value) (zs : List Int) (bs : List Bx) (rs : List Int) (ss : List (List Int)) (w : World) (h : Pl w B N (onS ⟨x, zs, bs, rs, 0⟩) (.slice As ss.length cs) u1 u2 u3) (hx : 0 ≤ x ∧ x ≤ 300) (hzl : zs.length ≤ 60)
    (hz : 0 ≤ zs.length) (hgg : True) (st : St)
    (HM : ∀ W, Pl W B N (onS ⟨x + 1, zs, bs, rs, 0⟩) (.slice As ss.length cs) u1 u2 u3 → Below B w W → Calls Tryz.prog 141 #[.pointer (some ⟨N, 0, none⟩), .agg #[.int .i64 7, .int .i64 m, str s]] W (DoOut B N (.slice As ss.length cs) st W)) :
    Calls Tryz.prog 47 #[.pointer (some ⟨N, 0, none⟩), .agg #[.int .i64 7, .int .i64 m, str s]] w (DoOut B N (.slice As ss.length cs) st w) := by
  obtain ⟨A1, c1, e1⟩ := h.own.o1.see.shape
  dsimp only [onS] at e1
  subst e1
  have hN := h.lt
  have hB := h.hB
  have hBw : B ≤ w.heap.size := by omega
  have bA := below_new w (.cells #[.int .i64 7, .int .i64 m, str s] 41)
  have HA := Lib.hid (h.later bA)
  have HO := Lib.hid (heap_alloc_new w (.cells #[.int .i64 7, .int .i64 m, str s] 41))
  have HBA := Lib.hid (bA.mono hBw)
  have HBW := Lib.hid hBw
  clear bA hBw h
  obtain ⟨hx0, hx1⟩ := hx
  have hst : ∀ (W : World) (p : Addr) (f : Nat), (W.cell? p).isSome = true → W.frozen? p = false → (store p (.func (.func f) #[] #[])).run Tryz.prog W = .ok () (W.setCell p (.func (.func f) #[] #[])) := fun W p f h1 h2 => store_func W p f h1 h2
  go_enter Tryz.func47, Tryz.ntmps47
  go_upto_region 1 with fail
  generalize hW : w.alloc _ = W at *
  have HSZ := Lib.hid (show W.heap.size = w.heap.size + 1 by rw [← hW]; simp)
  clear hW
  obtain ⟨o0, o1, o2⟩ := cells3 HO.out
  go_upto_region 2 with (go_at_call 99; refine (form_7 W).mono ?_; rintro e w1 ⟨rfl, b1⟩)
  generalize hV : w1.alloc _ = V
  have HF := Lib.hid (show V.heap[w1.heap.size]? = some (.cells #[.int .i64 0, .bool false, .func (.func 141) #[] #[]] 124 (0, 0)) from by rw [← hV]; exact heap_alloc_new _ _)
  have hon : Only (fun g => g = w1.heap.size) w1 V := by rw [← hV]; exact Only.of_below (below_new _ _)
  have hs1 := b1.size
  have HP := Lib.hid ((HA.out.later b1).only hon (fun g q e => by omega))
  have HO2 := Lib.hid ((hon.block _ (Nat.lt_of_lt_of_le (heap_lt HO.out) hs1) (by have := heap_lt HO.out; omega)).trans (row_later HO.out b1))
  have HB2 := Lib.hid (HBA.out.trans ((b1.mono (by have := HSZ.out; have := HBW.out; omega)).trans (hon.below (by have := HSZ.out; have := HBW.out; omega) (fun g e => by have := HSZ.out; have := HBW.out; omega))))
  have HFN := Lib.hid (show N < w1.heap.size by have := HSZ.out; omega)
  clear hV hon o0 o1 o2 b1 HA HO HBA hs1
  generalize w1.heap.size = F at *
  obtain ⟨o0, o1, o2⟩ := cells3 HO2.out
  obtain ⟨f0, f1, f2⟩ := cells3 HF.out
  obtain ⟨p0, p1, p2, p3, p4, p5, p6, p7, p8⟩ := cells9 HP.out.blk
  dsimp only [onS] at p0 p1 p2 p3 p4 p5 p6 p7 p8
  have hf5 : V.frozen? ⟨N, 0, none⟩ = false := frozen_row HP.out.blk
  have hz2 : ¬ ((zs.length : Int) < 0) := by omega
  have hw1 : IntKind.i64.wrap (x + 1) = x + 1 := by rw [IntKind.wrap_i64]; omega
  skip
  go_quiet (fail)
  go_upto_region 3 with fail
  go_quiet (fail)
  go_upto_region 5 with fail
  clear o0 o1 o2 f0 f1 f2 p0 p1 p2 p3 p4 p5 p6 p7 p8 hf5
  generalize hQ : World.drewN _ _ = V2
  have HP2 := Lib.hid (show Pl V2 B N (onS ⟨x, zs, bs, rs, 0⟩) (.slice As ss.length cs) (.slice A1 zs.length c1) u2 u3 from by rw [← hQ]; first | exact (HP.out.drewN _).drewN _ | exact HP.out.drewN _ | exact HP.out)
  have HF2 := Lib.hid (show V2.heap[F]? = some (.cells #[.int .i64 0, .bool false, .func (.func 141) #[] #[]] 124 (0, 0)) from by rw [← hQ]; exact HF.out)
  have HO3 := Lib.hid (show V2.heap[w.heap.size]? = some (.cells #[.int .i64 7, .int .i64 m, str s] 41 (0, 0)) from by rw [← hQ]; exact HO2.out)
  have HB3 := Lib.hid (show Below B w V2 from by rw [← hQ]; first | exact below_drewN (below_drewN HB2.out _) _ | exact below_drewN HB2.out _ | exact HB2.out)
  clear hQ HP HF HO2 HB2
  obtain ⟨p0, p1, p2, p3, p4, p5, p6, p7, p8⟩ := cells9 HP2.out.blk
  dsimp only [onS] at p0 p1 p2 p3 p4 p5 p6 p7 p8
  have hf5 : V2.frozen? ⟨N, 0, none⟩ = false := frozen_row HP2.out.blk
  go_upto_region 6 with fail
  generalize hQ : World.setCell _ _ _ = V3
  have HP3 := Lib.hid (show Pl V3 B N (onS ⟨x + 1, zs, bs, rs, 0⟩) (.slice As ss.length cs) (.slice A1 zs.length c1) u2 u3 from by rw [← hQ]; exact HP2.out.at _)
  have HF3 := Lib.hid (show V3.heap[F]? = some (.cells #[.int .i64 0, .bool false, .func (.func 141) #[] #[]] 124 (0, 0)) from by rw [← hQ, Below.heap_setCell _ _ _ _ (by have := HFN.out; show F ≠ N; omega)]; exact HF2.out)
  have HO4 := Lib.hid (show V3.heap[w.heap.size]? = some (.cells #[.int .i64 7, .int .i64 m, str s] 41 (0, 0)) from by rw [← hQ, Below.heap_setCell _ _ _ _ (by show w.heap.size ≠ N; omega)]; exact HO3.out)
  have HB4 := Lib.hid (show Below B w V3 from by rw [← hQ]; exact HB3.out.setCell hB _)
  clear hQ HP2 HF2 HO3 HB3 p0 p1 p2 p3 p4 p5 p6 p7 p8 hf5
  obtain ⟨o0, o1, o2⟩ := cells3 HO4.out
  obtain ⟨f0, f1, f2⟩ := cells3 HF3.out
  go_wp2_with fail
  refine (HM V3 HP3.out HB4.out).mono ?_
  intro e w5 hd
  obtain rfl := hd.ret
  go_wp2_with fail
  go_ret
  exact hd.since HB4.out

set_option maxHeartbeats 8000000 in
set_option maxRecDepth 100000 in
theorem does_go_8
(B N : Nat) (x m : Int) (s : List UInt8) (As : Option Addr) (cs : Nat) (u1 u2 u3 : Value) (zs : List Int) (bs : List Bx) (rs : List Int) (ss : List (List Int)) (w : World) (h : Pl w B N (onS ⟨x, zs, bs, rs, 0⟩) (.slice As ss.length cs) u1 u2 u3) (hx : 0 ≤ x ∧ x ≤ 300) (hzl : zs.length ≤ 60)
    (hz : 1 ≤ zs.length) (hgg : True) (st : St)
    (HM : ∀ W, Pl W B N (onS ⟨x + 1, zs, bs, rs, 0⟩) (.slice As ss.length cs) u1 u2 u3 → Below B w W → Calls Tryz.prog 142 #[.pointer (some ⟨N, 0, none⟩), .agg #[.int .i64 8, .int .i64 m, str s]] W (DoOut B N (.slice As ss.length cs) st W)) :
    Calls Tryz.prog 47 #[.pointer (some ⟨N, 0, none⟩), .agg #[.int .i64 8, .int .i64 m, str s]] w (DoOut B N (.slice As ss.length cs) st w) := by
  obtain ⟨A1, c1, e1⟩ := h.own.o1.see.shape
  dsimp only [onS] at e1
  subst e1
  have hN := h.lt
  have hB := h.hB
  have hBw : B ≤ w.heap.size := by omega
  have bA := below_new w (.cells #[.int .i64 8, .int .i64 m, str s] 41)
  have HA := Lib.hid (h.later bA)
  have HO := Lib.hid (heap_alloc_new w (.cells #[.int .i64 8, .int .i64 m, str s] 41))
  have HBA := Lib.hid (bA.mono hBw)
  have HBW := Lib.hid hBw
  clear bA hBw h
  obtain ⟨hx0, hx1⟩ := hx
  have hst : ∀ (W : World) (p : Addr) (f : Nat), (W.cell? p).isSome = true → W.frozen? p = false → (store p (.func (.func f) #[] #[])).run Tryz.prog W = .ok () (W.setCell p (.func (.func f) #[] #[])) := fun W p f h1 h2 => store_func W p f h1 h2
  go_enter Tryz.func47, Tryz.ntmps47
  go_upto_region 1 with fail
  generalize hW : w.alloc _ = W at *
  have HSZ := Lib.hid (show W.heap.size = w.heap.size + 1 by rw [← hW]; simp)
  clear hW
  obtain ⟨o0, o1, o2⟩ := cells3 HO.out
  go_upto_region 2 with (go_at_call 99; refine (form_8 W).mono ?_; rintro e w1 ⟨rfl, b1⟩)
  generalize hV : w1.alloc _ = V
  have HF := Lib.hid (show V.heap[w1.heap.size]? = some (.cells #[.int .i64 1, .bool false, .func (.func 142) #[] #[]] 124 (0, 0)) from by rw [← hV]; exact heap_alloc_new _ _)
  have hon : Only (fun g => g = w1.heap.size) w1 V := by rw [← hV]; exact Only.of_below (below_new _ _)
  have hs1 := b1.size
  have HP := Lib.hid ((HA.out.later b1).only hon (fun g q e => by omega))
  have HO2 := Lib.hid ((hon.block _ (Nat.lt_of_lt_of_le (heap_lt HO.out) hs1) (by have := heap_lt HO.out; omega)).trans (row_later HO.out b1))
  have HB2 := Lib.hid (HBA.out.trans ((b1.mono (by have := HSZ.out; have := HBW.out; omega)).trans (hon.below (by have := HSZ.out; have := HBW.out; omega) (fun g e => by have := HSZ.out; have := HBW.out; omega))))
  have HFN := Lib.hid (show N < w1.heap.size by have := HSZ.out; omega)
  clear hV hon o0 o1 o2 b1 HA HO HBA hs1
  generalize w1.heap.size = F at *
  obtain ⟨o0, o1, o2⟩ := cells3 HO2.out
  obtain ⟨f0, f1, f2⟩ := cells3 HF.out
  obtain ⟨p0, p1, p2, p3, p4, p5, p6, p7, p8⟩ := cells9 HP.out.blk
  dsimp only [onS] at p0 p1 p2 p3 p4 p5 p6 p7 p8
  have hf5 : V.frozen? ⟨N, 0, none⟩ = false := frozen_row HP.out.blk
  have hz2 : ¬ ((zs.length : Int) < 1) := by omega
  have hw1 : IntKind.i64.wrap (x + 1) = x + 1 := by rw [IntKind.wrap_i64]; omega
  skip
  go_quiet (fail)
  go_upto_region 3 with fail
  go_quiet (fail)
  go_upto_region 5 with fail
  clear o0 o1 o2 f0 f1 f2 p0 p1 p2 p3 p4 p5 p6 p7 p8 hf5
  generalize hQ : World.drewN _ _ = V2
  have HP2 := Lib.hid (show Pl V2 B N (onS ⟨x, zs, bs, rs, 0⟩) (.slice As ss.length cs) (.slice A1 zs.length c1) u2 u3 from by rw [← hQ]; first | exact (HP.out.drewN _).drewN _ | exact HP.out.drewN _ | exact HP.out)
  have HF2 := Lib.hid (show V2.heap[F]? = some (.cells #[.int .i64 1, .bool false, .func (.func 142) #[] #[]] 124 (0, 0)) from by rw [← hQ]; exact HF.out)
  have HO3 := Lib.hid (show V2.heap[w.heap.size]? = some (.cells #[.int .i64 8, .int .i64 m, str s] 41 (0, 0)) from by rw [← hQ]; exact HO2.out)
  have HB3 := Lib.hid (show Below B w V2 from by rw [← hQ]; first | exact below_drewN (below_drewN HB2.out _) _ | exact below_drewN HB2.out _ | exact HB2.out)
  clear hQ HP HF HO2 HB2
  obtain ⟨p0, p1, p2, p3, p4, p5, p6, p7, p8⟩ := cells9 HP2.out.blk
  dsimp only [onS] at p0 p1 p2 p3 p4 p5 p6 p7 p8
  have hf5 : V2.frozen? ⟨N, 0, none⟩ = false := frozen_row HP2.out.blk
  go_upto_region 6 with fail
  generalize hQ : World.setCell _ _ _ = V3
  have HP3 := Lib.hid (show Pl V3 B N (onS ⟨x + 1, zs, bs, rs, 0⟩) (.slice As ss.length cs) (.slice A1 zs.length c1) u2 u3 from by rw [← hQ]; exact HP2.out.at _)
  have HF3 := Lib.hid (show V3.heap[F]? = some (.cells #[.int .i64 1, .bool false, .func (.func 142) #[] #[]] 124 (0, 0)) from by rw [← hQ, Below.heap_setCell _ _ _ _ (by have := HFN.out; show F ≠ N; omega)]; exact HF2.out)
  have HO4 := Lib.hid (show V3.heap[w.heap.size]? = some (.cells #[.int .i64 8, .int .i64 m, str s] 41 (0, 0)) from by rw [← hQ, Below.heap_setCell _ _ _ _ (by show w.heap.size ≠ N; omega)]; exact HO3.out)
  have HB4 := Lib.hid (show Below B w V3 from by rw [← hQ]; exact HB3.out.setCell hB _)
  clear hQ HP2 HF2 HO3 HB3 p0 p1 p2 p3 p4 p5 p6 p7 p8 hf5
  obtain ⟨o0, o1, o2⟩ := cells3 HO4.out
  obtain ⟨f0, f1, f2⟩ := cells3 HF3.out
  go_wp2_with fail
  refine (HM V3 HP3.out HB4.out).mono ?_
  intro e w5 hd
  obtain rfl := hd.ret
  go_wp2_with fail
  go_ret
  exact hd.since HB4.out

set_option maxHeartbeats 8000000 in
set_option maxRecDepth 100000 in
theorem does_go_9
(B N : Nat) (x m : Int) (s : List UInt8) (As : Option Addr) (cs : Nat) (u1 u2 u3 : Value) (zs : List Int) (bs : List Bx) (rs : List Int) (ss : List (List Int)) (w : World) (h : Pl w B N (onS ⟨x, zs, bs, rs, 0⟩) (.slice As ss.length cs) u1 u2 u3) (hx : 0 ≤ x ∧ x ≤ 300) (hzl : zs.length ≤ 60)
    (hz : 0 ≤ zs.length) (hgg : True) (st : St)
    (HM : ∀ W, Pl W B N (onS ⟨x + 1, zs, bs, rs, 0⟩) (.slice As ss.length cs) u1 u2 u3 → Below B w W → Calls Tryz.prog 143 #[.pointer (some ⟨N, 0, none⟩), .agg #[.int .i64 9, .int .i64 m, str s]] W (DoOut B N (.slice As ss.length cs) st W)) :
    Calls Tryz.prog 47 #[.pointer (some ⟨N, 0, none⟩), .agg #[.int .i64 9, .int .i64 m, str s]] w (DoOut B N (.slice As ss.length cs) st w) := by
  obtain ⟨A1, c1, e1⟩ := h.own.o1.see.shape
  dsimp only [onS] at e1
  subst e1
  have hN := h.lt
  have hB := h.hB
  have hBw : B ≤ w.heap.size := by omega
  have bA := below_new w (.cells #[.int .i64 9, .int .i64 m, str s] 41)
  have HA := Lib.hid (h.later bA)
  have HO := Lib.hid (heap_alloc_new w (.cells #[.int .i64 9, .int .i64 m, str s] 41))
  have HBA := Lib.hid (bA.mono hBw)
  have HBW := Lib.hid hBw
  clear bA hBw h
  obtain ⟨hx0, hx1⟩ := hx
  have hst : ∀ (W : World) (p : Addr) (f : Nat), (W.cell? p).isSome = true → W.frozen? p = false → (store p (.func (.func f) #[] #[])).run Tryz.prog W = .ok () (W.setCell p (.func (.func f) #[] #[])) := fun W p f h1 h2 => store_func W p f h1 h2
  go_enter Tryz.func47, Tryz.ntmps47
  go_upto_region 1 with fail
  generalize hW : w.alloc _ = W at *
  have HSZ := Lib.hid (show W.heap.size = w.heap.size + 1 by rw [← hW]; simp)
  clear hW
  obtain ⟨o0, o1, o2⟩ := cells3 HO.out
  go_upto_region 2 with (go_at_call 99; refine (form_9 W).mono ?_; rintro e w1 ⟨rfl, b1⟩)
  generalize hV : w1.alloc _ = V
  have HF := Lib.hid (show V.heap[w1.heap.size]? = some (.cells #[.int .i64 0, .bool false, .func (.func 143) #[] #[]] 124 (0, 0)) from by rw [← hV]; exact heap_alloc_new _ _)
  have hon : Only (fun g => g = w1.heap.size) w1 V := by rw [← hV]; exact Only.of_below (below_new _ _)
  have hs1 := b1.size
  have HP := Lib.hid ((HA.out.later b1).only hon (fun g q e => by omega))
  have HO2 := Lib.hid ((hon.block _ (Nat.lt_of_lt_of_le (heap_lt HO.out) hs1) (by have := heap_lt HO.out; omega)).trans (row_later HO.out b1))
  have HB2 := Lib.hid (HBA.out.trans ((b1.mono (by have := HSZ.out; have := HBW.out; omega)).trans (hon.below (by have := HSZ.out; have := HBW.out; omega) (fun g e => by have := HSZ.out; have := HBW.out; omega))))
  have HFN := Lib.hid (show N < w1.heap.size by have := HSZ.out; omega)
  clear hV hon o0 o1 o2 b1 HA HO HBA hs1
  generalize w1.heap.size = F at *
  obtain ⟨o0, o1, o2⟩ := cells3 HO2.out
  obtain ⟨f0, f1, f2⟩ := cells3 HF.out
  obtain ⟨p0, p1, p2, p3, p4, p5, p6, p7, p8⟩ := cells9 HP.out.blk
  dsimp only [onS] at p0 p1 p2 p3 p4 p5 p6 p7 p8
  have hf5 : V.frozen? ⟨N, 0, none⟩ = false := frozen_row HP.out.blk
  have hz2 : ¬ ((zs.length : Int) < 0) := by omega
  have hw1 : IntKind.i64.wrap (x + 1) = x + 1 := by rw [IntKind.wrap_i64]; omega
  skip
  go_quiet (fail)
  go_upto_region 3 with fail
  go_quiet (fail)
  go_upto_region 5 with fail
  clear o0 o1 o2 f0 f1 f2 p0 p1 p2 p3 p4 p5 p6 p7 p8 hf5
  generalize hQ : World.drewN _ _ = V2
  have HP2 := Lib.hid (show Pl V2 B N (onS ⟨x, zs, bs, rs, 0⟩) (.slice As ss.length cs) (.slice A1 zs.length c1) u2 u3 from by rw [← hQ]; first | exact (HP.out.drewN _).drewN _ | exact HP.out.drewN _ | exact HP.out)
  have HF2 := Lib.hid (show V2.heap[F]? = some (.cells #[.int .i64 0, .bool false, .func (.func 143) #[] #[]] 124 (0, 0)) from by rw [← hQ]; exact HF.out)
  have HO3 := Lib.hid (show V2.heap[w.heap.size]? = some (.cells #[.int .i64 9, .int .i64 m, str s] 41 (0, 0)) from by rw [← hQ]; exact HO2.out)
  have HB3 := Lib.hid (show Below B w V2 from by rw [← hQ]; first | exact below_drewN (below_drewN HB2.out _) _ | exact below_drewN HB2.out _ | exact HB2.out)
  clear hQ HP HF HO2 HB2
  obtain ⟨p0, p1, p2, p3, p4, p5, p6, p7, p8⟩ := cells9 HP2.out.blk
  dsimp only [onS] at p0 p1 p2 p3 p4 p5 p6 p7 p8
  have hf5 : V2.frozen? ⟨N, 0, none⟩ = false := frozen_row HP2.out.blk
  go_upto_region 6 with fail
  generalize hQ : World.setCell _ _ _ = V3
  have HP3 := Lib.hid (show Pl V3 B N (onS ⟨x + 1, zs, bs, rs, 0⟩) (.slice As ss.length cs) (.slice A1 zs.length c1) u2 u3 from by rw [← hQ]; exact HP2.out.at _)
  have HF3 := Lib.hid (show V3.heap[F]? = some (.cells #[.int .i64 0, .bool false, .func (.func 143) #[] #[]] 124 (0, 0)) from by rw [← hQ, Below.heap_setCell _ _ _ _ (by have := HFN.out; show F ≠ N; omega)]; exact HF2.out)
  have HO4 := Lib.hid (show V3.heap[w.heap.size]? = some (.cells #[.int .i64 9, .int .i64 m, str s] 41 (0, 0)) from by rw [← hQ, Below.heap_setCell _ _ _ _ (by show w.heap.size ≠ N; omega)]; exact HO3.out)
  have HB4 := Lib.hid (show Below B w V3 from by rw [← hQ]; exact HB3.out.setCell hB _)
  clear hQ HP2 HF2 HO3 HB3 p0 p1 p2 p3 p4 p5 p6 p7 p8 hf5
  obtain ⟨o0, o1, o2⟩ := cells3 HO4.out
  obtain ⟨f0, f1, f2⟩ := cells3 HF3.out
  go_wp2_with fail
  refine (HM V3 HP3.out HB4.out).mono ?_
  intro e w5 hd
  obtain rfl := hd.ret
  go_wp2_with fail
  go_ret
  exact hd.since HB4.out

set_option maxHeartbeats 8000000 in
set_option maxRecDepth 100000 in
theorem does_go_10
(B N : Nat) (x m : Int) (s : List UInt8) (As : Option Addr) (cs : Nat) (u1 u2 u3 : Value) (zs : List Int) (bs : List Bx) (rs : List Int) (ss : List (List Int)) (w : World) (h : Pl w B N (onS ⟨x, zs, bs, rs, 0⟩) (.slice As ss.length cs) u1 u2 u3) (hx : 0 ≤ x ∧ x ≤ 300) (hzl : zs.length ≤ 60)
    (hz : 0 ≤ zs.length) (hgg : True) (st : St)
    (HM : ∀ W, Pl W B N (onS ⟨x + 1, zs, bs, rs, 0⟩) (.slice As ss.length cs) u1 u2 u3 → Below B w W → Calls Tryz.prog 144 #[.pointer (some ⟨N, 0, none⟩), .agg #[.int .i64 10, .int .i64 m, str s]] W (DoOut B N (.slice As ss.length cs) st W)) :
    Calls Tryz.prog 47 #[.pointer (some ⟨N, 0, none⟩), .agg #[.int .i64 10, .int .i64 m, str s]] w (DoOut B N (.slice As ss.length cs) st w) := by
  obtain ⟨A1, c1, e1⟩ := h.own.o1.see.shape
  dsimp only [onS] at e1
  subst e1
  have hN := h.lt
  have hB := h.hB
  have hBw : B ≤ w.heap.size := by omega
  have bA := below_new w (.cells #[.int .i64 10, .int .i64 m, str s] 41)
  have HA := Lib.hid (h.later bA)
  have HO := Lib.hid (heap_alloc_new w (.cells #[.int .i64 10, .int .i64 m, str s] 41))
  have HBA := Lib.hid (bA.mono hBw)
  have HBW := Lib.hid hBw
  clear bA hBw h
  obtain ⟨hx0, hx1⟩ := hx
  have hst : ∀ (W : World) (p : Addr) (f : Nat), (W.cell? p).isSome = true → W.frozen? p = false → (store p (.func (.func f) #[] #[])).run Tryz.prog W = .ok () (W.setCell p (.func (.func f) #[] #[])) := fun W p f h1 h2 => store_func W p f h1 h2
  go_enter Tryz.func47, Tryz.ntmps47
  go_upto_region 1 with fail
  generalize hW : w.alloc _ = W at *
  have HSZ := Lib.hid (show W.heap.size = w.heap.size + 1 by rw [← hW]; simp)
  clear hW
  obtain ⟨o0, o1, o2⟩ := cells3 HO.out
  go_upto_region 2 with (go_at_call 99; refine (form_10 W).mono ?_; rintro e w1 ⟨rfl, b1⟩)
  generalize hV : w1.alloc _ = V
  have HF := Lib.hid (show V.heap[w1.heap.size]? = some (.cells #[.int .i64 0, .bool false, .func (.func 144) #[] #[]] 124 (0, 0)) from by rw [← hV]; exact heap_alloc_new _ _)
  have hon : Only (fun g => g = w1.heap.size) w1 V := by rw [← hV]; exact Only.of_below (below_new _ _)
  have hs1 := b1.size
  have HP := Lib.hid ((HA.out.later b1).only hon (fun g q e => by omega))
  have HO2 := Lib.hid ((hon.block _ (Nat.lt_of_lt_of_le (heap_lt HO.out) hs1) (by have := heap_lt HO.out; omega)).trans (row_later HO.out b1))
  have HB2 := Lib.hid (HBA.out.trans ((b1.mono (by have := HSZ.out; have := HBW.out; omega)).trans (hon.below (by have := HSZ.out; have := HBW.out; omega) (fun g e => by have := HSZ.out; have := HBW.out; omega))))
  have HFN := Lib.hid (show N < w1.heap.size by have := HSZ.out; omega)
  clear hV hon o0 o1 o2 b1 HA HO HBA hs1
  generalize w1.heap.size = F at *
  obtain ⟨o0, o1, o2⟩ := cells3 HO2.out
  obtain ⟨f0, f1, f2⟩ := cells3 HF.out
  obtain ⟨p0, p1, p2, p3, p4, p5, p6, p7, p8⟩ := cells9 HP.out.blk
  dsimp only [onS] at p0 p1 p2 p3 p4 p5 p6 p7 p8
  have hf5 : V.frozen? ⟨N, 0, none⟩ = false := frozen_row HP.out.blk
  have hz2 : ¬ ((zs.length : Int) < 0) := by omega
  have hw1 : IntKind.i64.wrap (x + 1) = x + 1 := by rw [IntKind.wrap_i64]; omega
  skip
  go_quiet (fail)
  go_upto_region 3 with fail
  go_quiet (fail)
  go_upto_region 5 with fail
  clear o0 o1 o2 f0 f1 f2 p0 p1 p2 p3 p4 p5 p6 p7 p8 hf5
  generalize hQ : World.drewN _ _ = V2
  have HP2 := Lib.hid (show Pl V2 B N (onS ⟨x, zs, bs, rs, 0⟩) (.slice As ss.length cs) (.slice A1 zs.length c1) u2 u3 from by rw [← hQ]; first | exact (HP.out.drewN _).drewN _ | exact HP.out.drewN _ | exact HP.out)
  have HF2 := Lib.hid (show V2.heap[F]? = some (.cells #[.int .i64 0, .bool false, .func (.func 144) #[] #[]] 124 (0, 0)) from by rw [← hQ]; exact HF.out)
  have HO3 := Lib.hid (show V2.heap[w.heap.size]? = some (.cells #[.int .i64 10, .int .i64 m, str s] 41 (0, 0)) from by rw [← hQ]; exact HO2.out)
  have HB3 := Lib.hid (show Below B w V2 from by rw [← hQ]; first | exact below_drewN (below_drewN HB2.out _) _ | exact below_drewN HB2.out _ | exact HB2.out)
  clear hQ HP HF HO2 HB2
  obtain ⟨p0, p1, p2, p3, p4, p5, p6, p7, p8⟩ := cells9 HP2.out.blk
  dsimp only [onS] at p0 p1 p2 p3 p4 p5 p6 p7 p8
  have hf5 : V2.frozen? ⟨N, 0, none⟩ = false := frozen_row HP2.out.blk
  go_upto_region 6 with fail
  generalize hQ : World.setCell _ _ _ = V3
  have HP3 := Lib.hid (show Pl V3 B N (onS ⟨x + 1, zs, bs, rs, 0⟩) (.slice As ss.length cs) (.slice A1 zs.length c1) u2 u3 from by rw [← hQ]; exact HP2.out.at _)
  have HF3 := Lib.hid (show V3.heap[F]? = some (.cells #[.int .i64 0, .bool false, .func (.func 144) #[] #[]] 124 (0, 0)) from by rw [← hQ, Below.heap_setCell _ _ _ _ (by have := HFN.out; show F ≠ N; omega)]; exact HF2.out)
  have HO4 := Lib.hid (show V3.heap[w.heap.size]? = some (.cells #[.int .i64 10, .int .i64 m, str s] 41 (0, 0)) from by rw [← hQ, Below.heap_setCell _ _ _ _ (by show w.heap.size ≠ N; omega)]; exact HO3.out)
  have HB4 := Lib.hid (show Below B w V3 from by rw [← hQ]; exact HB3.out.setCell hB _)
  clear hQ HP2 HF2 HO3 HB3 p0 p1 p2 p3 p4 p5 p6 p7 p8 hf5
  obtain ⟨o0, o1, o2⟩ := cells3 HO4.out
  obtain ⟨f0, f1, f2⟩ := cells3 HF3.out
  go_wp2_with fail
  refine (HM V3 HP3.out HB4.out).mono ?_
  intro e w5 hd
  obtain rfl := hd.ret
  go_wp2_with fail
  go_ret
  exact hd.since HB4.out

set_option maxHeartbeats 8000000 in
set_option maxRecDepth 100000 in
theorem does_few_3
(B N : Nat) (x m : Int) (s : List UInt8) (As : Option Addr) (cs : Nat) (u1 u2 u3 : Value) (zs : List Int) (bs : List Bx) (rs : List Int) (ss : List (List Int)) (w : World) (h : Pl w B N (onS ⟨x, zs, bs, rs, 0⟩) (.slice As ss.length cs) u1 u2 u3) (hx : 0 ≤ x ∧ x ≤ 300) (hzl : zs.length ≤ 60)
    (hgg : zs.length < 2) :
    Calls Tryz.prog 47 #[.pointer (some ⟨N, 0, none⟩), .agg #[.int .i64 3, .int .i64 m, str s]] w (DoOut B N (.slice As ss.length cs) (endS ⟨x, zs, bs, rs, 0⟩ 4) w) := by
  obtain ⟨A1, c1, e1⟩ := h.own.o1.see.shape
  dsimp only [onS] at e1
  subst e1
  have hN := h.lt
  have hB := h.hB
  have hBw : B ≤ w.heap.size := by omega
  have bA := below_new w (.cells #[.int .i64 3, .int .i64 m, str s] 41)
  have HA := Lib.hid (h.later bA)
  have HO := Lib.hid (heap_alloc_new w (.cells #[.int .i64 3, .int .i64 m, str s] 41))
  have HBA := Lib.hid (bA.mono hBw)
  have HBW := Lib.hid hBw
  clear bA hBw h
  obtain ⟨hx0, hx1⟩ := hx
  have hst : ∀ (W : World) (p : Addr) (f : Nat), (W.cell? p).isSome = true → W.frozen? p = false → (store p (.func (.func f) #[] #[])).run Tryz.prog W = .ok () (W.setCell p (.func (.func f) #[] #[])) := fun W p f h1 h2 => store_func W p f h1 h2
  go_enter Tryz.func47, Tryz.ntmps47
  go_upto_region 1 with fail
  generalize hW : w.alloc _ = W at *
  have HSZ := Lib.hid (show W.heap.size = w.heap.size + 1 by rw [← hW]; simp)
  clear hW
  obtain ⟨o0, o1, o2⟩ := cells3 HO.out
  go_upto_region 2 with (go_at_call 99; refine (form_3 W).mono ?_; rintro e w1 ⟨rfl, b1⟩)
  generalize hV : w1.alloc _ = V
  have HF := Lib.hid (show V.heap[w1.heap.size]? = some (.cells #[.int .i64 2, .bool false, .func (.func 137) #[] #[]] 124 (0, 0)) from by rw [← hV]; exact heap_alloc_new _ _)
  have hon : Only (fun g => g = w1.heap.size) w1 V := by rw [← hV]; exact Only.of_below (below_new _ _)
  have hs1 := b1.size
  have HP := Lib.hid ((HA.out.later b1).only hon (fun g q e => by omega))
  have HO2 := Lib.hid ((hon.block _ (Nat.lt_of_lt_of_le (heap_lt HO.out) hs1) (by have := heap_lt HO.out; omega)).trans (row_later HO.out b1))
  have HB2 := Lib.hid (HBA.out.trans ((b1.mono (by have := HSZ.out; have := HBW.out; omega)).trans (hon.below (by have := HSZ.out; have := HBW.out; omega) (fun g e => by have := HSZ.out; have := HBW.out; omega))))
  have HFN := Lib.hid (show N < w1.heap.size by have := HSZ.out; omega)
  clear hV hon o0 o1 o2 b1 HA HO HBA hs1
  generalize w1.heap.size = F at *
  obtain ⟨o0, o1, o2⟩ := cells3 HO2.out
  obtain ⟨f0, f1, f2⟩ := cells3 HF.out
  obtain ⟨p0, p1, p2, p3, p4, p5, p6, p7, p8⟩ := cells9 HP.out.blk
  dsimp only [onS] at p0 p1 p2 p3 p4 p5 p6 p7 p8
  have hgg2 : ((zs.length : Int) < 2) := by omega
  go_quiet (fail)
  go_upto_region 3 with fail
  go_quiet (fail)
  clear o0 o1 o2 f0 f1 f2 p0 p1 p2 p3 p4 p5 p6 p7 p8
  generalize hQ : World.drewN _ _ = V2
  have HB3 := Lib.hid (show Below B w V2 from by rw [← hQ]; first | exact below_drewN (below_drewN HB2.out _) _ | exact below_drewN HB2.out _ | exact HB2.out)
  clear hQ HP HF HO2 HB2
  go_wp2_with fail
  go_ret
  exact DoOut.ends (by decide) HB3.out

set_option maxHeartbeats 8000000 in
set_option maxRecDepth 100000 in
theorem does_few_4
(B N : Nat) (x m : Int) (s : List UInt8) (As : Option Addr) (cs : Nat) (u1 u2 u3 : Value) (zs : List Int) (bs : List Bx) (rs : List Int) (ss : List (List Int)) (w : World) (h : Pl w B N (onS ⟨x, zs, bs, rs, 0⟩) (.slice As ss.length cs) u1 u2 u3) (hx : 0 ≤ x ∧ x ≤ 300) (hzl : zs.length ≤ 60)
    (hgg : zs.length < 1) :
    Calls Tryz.prog 47 #[.pointer (some ⟨N, 0, none⟩), .agg #[.int .i64 4, .int .i64 m, str s]] w (DoOut B N (.slice As ss.length cs) (endS ⟨x, zs, bs, rs, 0⟩ 4) w) := by
  obtain ⟨A1, c1, e1⟩ := h.own.o1.see.shape
  dsimp only [onS] at e1
  subst e1
  have hN := h.lt
  have hB := h.hB
  have hBw : B ≤ w.heap.size := by omega
  have bA := below_new w (.cells #[.int .i64 4, .int .i64 m, str s] 41)
  have HA := Lib.hid (h.later bA)
  have HO := Lib.hid (heap_alloc_new w (.cells #[.int .i64 4, .int .i64 m, str s] 41))
  have HBA := Lib.hid (bA.mono hBw)
  have HBW := Lib.hid hBw
  clear bA hBw h
  obtain ⟨hx0, hx1⟩ := hx
  have hst : ∀ (W : World) (p : Addr) (f : Nat), (W.cell? p).isSome = true → W.frozen? p = false → (store p (.func (.func f) #[] #[])).run Tryz.prog W = .ok () (W.setCell p (.func (.func f) #[] #[])) := fun W p f h1 h2 => store_func W p f h1 h2
  go_enter Tryz.func47, Tryz.ntmps47
  go_upto_region 1 with fail
  generalize hW : w.alloc _ = W at *
  have HSZ := Lib.hid (show W.heap.size = w.heap.size + 1 by rw [← hW]; simp)
  clear hW
  obtain ⟨o0, o1, o2⟩ := cells3 HO.out
  go_upto_region 2 with (go_at_call 99; refine (form_4 W).mono ?_; rintro e w1 ⟨rfl, b1⟩)
  generalize hV : w1.alloc _ = V
  have HF := Lib.hid (show V.heap[w1.heap.size]? = some (.cells #[.int .i64 1, .bool false, .func (.func 138) #[] #[]] 124 (0, 0)) from by rw [← hV]; exact heap_alloc_new _ _)
  have hon : Only (fun g => g = w1.heap.size) w1 V := by rw [← hV]; exact Only.of_below (below_new _ _)
  have hs1 := b1.size
  have HP := Lib.hid ((HA.out.later b1).only hon (fun g q e => by omega))
  have HO2 := Lib.hid ((hon.block _ (Nat.lt_of_lt_of_le (heap_lt HO.out) hs1) (by have := heap_lt HO.out; omega)).trans (row_later HO.out b1))
  have HB2 := Lib.hid (HBA.out.trans ((b1.mono (by have := HSZ.out; have := HBW.out; omega)).trans (hon.below (by have := HSZ.out; have := HBW.out; omega) (fun g e => by have := HSZ.out; have := HBW.out; omega))))
  have HFN := Lib.hid (show N < w1.heap.size by have := HSZ.out; omega)
  clear hV hon o0 o1 o2 b1 HA HO HBA hs1
  generalize w1.heap.size = F at *
  obtain ⟨o0, o1, o2⟩ := cells3 HO2.out
  obtain ⟨f0, f1, f2⟩ := cells3 HF.out
  obtain ⟨p0, p1, p2, p3, p4, p5, p6, p7, p8⟩ := cells9 HP.out.blk
  dsimp only [onS] at p0 p1 p2 p3 p4 p5 p6 p7 p8
  have hgg2 : ((zs.length : Int) < 1) := by omega
  go_quiet (fail)
  go_upto_region 3 with fail
  go_quiet (fail)
  clear o0 o1 o2 f0 f1 f2 p0 p1 p2 p3 p4 p5 p6 p7 p8
  generalize hQ : World.drewN _ _ = V2
  have HB3 := Lib.hid (show Below B w V2 from by rw [← hQ]; first | exact below_drewN (below_drewN HB2.out _) _ | exact below_drewN HB2.out _ | exact HB2.out)
  clear hQ HP HF HO2 HB2
  go_wp2_with fail
  go_ret
  exact DoOut.ends (by decide) HB3.out

set_option maxHeartbeats 8000000 in
set_option maxRecDepth 100000 in
theorem does_gone_5
(B N : Nat) (x m : Int) (s : List UInt8) (As : Option Addr) (cs : Nat) (u1 u2 u3 : Value) (zs : List Int) (bs : List Bx) (rs : List Int) (ss : List (List Int)) (w : World) (h : Pl w B N (onS ⟨x, zs, bs, rs, 0⟩) (.slice As ss.length cs) u1 u2 u3) (hx : 0 ≤ x ∧ x ≤ 300) (hzl : zs.length ≤ 60)
    (hgg : (ss.length : Int) ≤ m) :
    Calls Tryz.prog 47 #[.pointer (some ⟨N, 0, none⟩), .agg #[.int .i64 5, .int .i64 m, str s]] w (DoOut B N (.slice As ss.length cs) (endS ⟨x, zs, bs, rs, 0⟩ 4) w) := by
  obtain ⟨A1, c1, e1⟩ := h.own.o1.see.shape
  dsimp only [onS] at e1
  subst e1
  have hN := h.lt
  have hB := h.hB
  have hBw : B ≤ w.heap.size := by omega
  have bA := below_new w (.cells #[.int .i64 5, .int .i64 m, str s] 41)
  have HA := Lib.hid (h.later bA)
  have HO := Lib.hid (heap_alloc_new w (.cells #[.int .i64 5, .int .i64 m, str s] 41))
  have HBA := Lib.hid (bA.mono hBw)
  have HBW := Lib.hid hBw
  clear bA hBw h
  obtain ⟨hx0, hx1⟩ := hx
  have hst : ∀ (W : World) (p : Addr) (f : Nat), (W.cell? p).isSome = true → W.frozen? p = false → (store p (.func (.func f) #[] #[])).run Tryz.prog W = .ok () (W.setCell p (.func (.func f) #[] #[])) := fun W p f h1 h2 => store_func W p f h1 h2
  go_enter Tryz.func47, Tryz.ntmps47
  go_upto_region 1 with fail
  generalize hW : w.alloc _ = W at *
  have HSZ := Lib.hid (show W.heap.size = w.heap.size + 1 by rw [← hW]; simp)
  clear hW
  obtain ⟨o0, o1, o2⟩ := cells3 HO.out
  go_upto_region 2 with (go_at_call 99; refine (form_5 W).mono ?_; rintro e w1 ⟨rfl, b1⟩)
  generalize hV : w1.alloc _ = V
  have HF := Lib.hid (show V.heap[w1.heap.size]? = some (.cells #[.int .i64 0, .bool true, .func (.func 139) #[] #[]] 124 (0, 0)) from by rw [← hV]; exact heap_alloc_new _ _)
  have hon : Only (fun g => g = w1.heap.size) w1 V := by rw [← hV]; exact Only.of_below (below_new _ _)
  have hs1 := b1.size
  have HP := Lib.hid ((HA.out.later b1).only hon (fun g q e => by omega))
  have HO2 := Lib.hid ((hon.block _ (Nat.lt_of_lt_of_le (heap_lt HO.out) hs1) (by have := heap_lt HO.out; omega)).trans (row_later HO.out b1))
  have HB2 := Lib.hid (HBA.out.trans ((b1.mono (by have := HSZ.out; have := HBW.out; omega)).trans (hon.below (by have := HSZ.out; have := HBW.out; omega) (fun g e => by have := HSZ.out; have := HBW.out; omega))))
  have HFN := Lib.hid (show N < w1.heap.size by have := HSZ.out; omega)
  clear hV hon o0 o1 o2 b1 HA HO HBA hs1
  generalize w1.heap.size = F at *
  obtain ⟨o0, o1, o2⟩ := cells3 HO2.out
  obtain ⟨f0, f1, f2⟩ := cells3 HF.out
  obtain ⟨p0, p1, p2, p3, p4, p5, p6, p7, p8⟩ := cells9 HP.out.blk
  dsimp only [onS] at p0 p1 p2 p3 p4 p5 p6 p7 p8
  skip
  go_quiet (fail)
  go_upto_region 3 with fail
  go_quiet (fail)
  clear o0 o1 o2 f0 f1 f2 p0 p1 p2 p3 p4 p5 p6 p7 p8
  generalize hQ : World.drewN _ _ = V2
  have HB3 := Lib.hid (show Below B w V2 from by rw [← hQ]; first | exact below_drewN (below_drewN HB2.out _) _ | exact below_drewN HB2.out _ | exact HB2.out)
  clear hQ HP HF HO2 HB2
  go_wp2_with fail
  go_ret
  exact DoOut.ends (by decide) HB3.out

set_option maxHeartbeats 8000000 in
set_option maxRecDepth 100000 in
theorem does_gone_6
(B N : Nat) (x m : Int) (s : List UInt8) (As : Option Addr) (cs : Nat) (u1 u2 u3 : Value) (zs : List Int) (bs : List Bx) (rs : List Int) (ss : List (List Int)) (w : World) (h : Pl w B N (onS ⟨x, zs, bs, rs, 0⟩) (.slice As ss.length cs) u1 u2 u3) (hx : 0 ≤ x ∧ x ≤ 300) (hzl : zs.length ≤ 60)
    (hgg : (ss.length : Int) ≤ m) :
    Calls Tryz.prog 47 #[.pointer (some ⟨N, 0, none⟩), .agg #[.int .i64 6, .int .i64 m, str s]] w (DoOut B N (.slice As ss.length cs) (endS ⟨x, zs, bs, rs, 0⟩ 4) w) := by
  obtain ⟨A1, c1, e1⟩ := h.own.o1.see.shape
  dsimp only [onS] at e1
  subst e1
  have hN := h.lt
  have hB := h.hB
  have hBw : B ≤ w.heap.size := by omega
  have bA := below_new w (.cells #[.int .i64 6, .int .i64 m, str s] 41)
  have HA := Lib.hid (h.later bA)
  have HO := Lib.hid (heap_alloc_new w (.cells #[.int .i64 6, .int .i64 m, str s] 41))
  have HBA := Lib.hid (bA.mono hBw)
  have HBW := Lib.hid hBw
  clear bA hBw h
  obtain ⟨hx0, hx1⟩ := hx
  have hst : ∀ (W : World) (p : Addr) (f : Nat), (W.cell? p).isSome = true → W.frozen? p = false → (store p (.func (.func f) #[] #[])).run Tryz.prog W = .ok () (W.setCell p (.func (.func f) #[] #[])) := fun W p f h1 h2 => store_func W p f h1 h2
  go_enter Tryz.func47, Tryz.ntmps47
  go_upto_region 1 with fail
  generalize hW : w.alloc _ = W at *
  have HSZ := Lib.hid (show W.heap.size = w.heap.size + 1 by rw [← hW]; simp)
  clear hW
  obtain ⟨o0, o1, o2⟩ := cells3 HO.out
  go_upto_region 2 with (go_at_call 99; refine (form_6 W).mono ?_; rintro e w1 ⟨rfl, b1⟩)
  generalize hV : w1.alloc _ = V
  have HF := Lib.hid (show V.heap[w1.heap.size]? = some (.cells #[.int .i64 1, .bool true, .func (.func 140) #[] #[]] 124 (0, 0)) from by rw [← hV]; exact heap_alloc_new _ _)
  have hon : Only (fun g => g = w1.heap.size) w1 V := by rw [← hV]; exact Only.of_below (below_new _ _)
  have hs1 := b1.size
  have HP := Lib.hid ((HA.out.later b1).only hon (fun g q e => by omega))
  have HO2 := Lib.hid ((hon.block _ (Nat.lt_of_lt_of_le (heap_lt HO.out) hs1) (by have := heap_lt HO.out; omega)).trans (row_later HO.out b1))
  have HB2 := Lib.hid (HBA.out.trans ((b1.mono (by have := HSZ.out; have := HBW.out; omega)).trans (hon.below (by have := HSZ.out; have := HBW.out; omega) (fun g e => by have := HSZ.out; have := HBW.out; omega))))
  have HFN := Lib.hid (show N < w1.heap.size by have := HSZ.out; omega)
  clear hV hon o0 o1 o2 b1 HA HO HBA hs1
  generalize w1.heap.size = F at *
  obtain ⟨o0, o1, o2⟩ := cells3 HO2.out
  obtain ⟨f0, f1, f2⟩ := cells3 HF.out
  obtain ⟨p0, p1, p2, p3, p4, p5, p6, p7, p8⟩ := cells9 HP.out.blk
  dsimp only [onS] at p0 p1 p2 p3 p4 p5 p6 p7 p8
  skip
  go_quiet (fail)
  go_upto_region 3 with fail
  go_quiet (fail)
  clear o0 o1 o2 f0 f1 f2 p0 p1 p2 p3 p4 p5 p6 p7 p8
  generalize hQ : World.drewN _ _ = V2
  have HB3 := Lib.hid (show Below B w V2 from by rw [← hQ]; first | exact below_drewN (below_drewN HB2.out _) _ | exact below_drewN HB2.out _ | exact HB2.out)
  clear hQ HP HF HO2 HB2
  go_wp2_with fail
  go_ret
  exact DoOut.ends (by decide) HB3.out

set_option maxHeartbeats 8000000 in
set_option maxRecDepth 100000 in
theorem does_few_6
(B N : Nat) (x m : Int) (s : List UInt8) (As : Option Addr) (cs : Nat) (u1 u2 u3 : Value) (zs : List Int) (bs : List Bx) (rs : List Int) (ss : List (List Int)) (w : World) (h : Pl w B N (onS ⟨x, zs, bs, rs, 0⟩) (.slice As ss.length cs) u1 u2 u3) (hx : 0 ≤ x ∧ x ≤ 300) (hzl : zs.length ≤ 60)
    (hgg : zs.length < 1 ∧ m < (ss.length : Int)) :
    Calls Tryz.prog 47 #[.pointer (some ⟨N, 0, none⟩), .agg #[.int .i64 6, .int .i64 m, str s]] w (DoOut B N (.slice As ss.length cs) (endS ⟨x, zs, bs, rs, 0⟩ 4) w) := by
  obtain ⟨A1, c1, e1⟩ := h.own.o1.see.shape
  dsimp only [onS] at e1
  subst e1
  have hN := h.lt
  have hB := h.hB
  have hBw : B ≤ w.heap.size := by omega
  have bA := below_new w (.cells #[.int .i64 6, .int .i64 m, str s] 41)
  have HA := Lib.hid (h.later bA)
  have HO := Lib.hid (heap_alloc_new w (.cells #[.int .i64 6, .int .i64 m, str s] 41))
  have HBA := Lib.hid (bA.mono hBw)
  have HBW := Lib.hid hBw
  clear bA hBw h
  obtain ⟨hx0, hx1⟩ := hx
  have hst : ∀ (W : World) (p : Addr) (f : Nat), (W.cell? p).isSome = true → W.frozen? p = false → (store p (.func (.func f) #[] #[])).run Tryz.prog W = .ok () (W.setCell p (.func (.func f) #[] #[])) := fun W p f h1 h2 => store_func W p f h1 h2
  go_enter Tryz.func47, Tryz.ntmps47
  go_upto_region 1 with fail
  generalize hW : w.alloc _ = W at *
  have HSZ := Lib.hid (show W.heap.size = w.heap.size + 1 by rw [← hW]; simp)
  clear hW
  obtain ⟨o0, o1, o2⟩ := cells3 HO.out
  go_upto_region 2 with (go_at_call 99; refine (form_6 W).mono ?_; rintro e w1 ⟨rfl, b1⟩)
  generalize hV : w1.alloc _ = V
  have HF := Lib.hid (show V.heap[w1.heap.size]? = some (.cells #[.int .i64 1, .bool true, .func (.func 140) #[] #[]] 124 (0, 0)) from by rw [← hV]; exact heap_alloc_new _ _)
  have hon : Only (fun g => g = w1.heap.size) w1 V := by rw [← hV]; exact Only.of_below (below_new _ _)
  have hs1 := b1.size
  have HP := Lib.hid ((HA.out.later b1).only hon (fun g q e => by omega))
  have HO2 := Lib.hid ((hon.block _ (Nat.lt_of_lt_of_le (heap_lt HO.out) hs1) (by have := heap_lt HO.out; omega)).trans (row_later HO.out b1))
  have HB2 := Lib.hid (HBA.out.trans ((b1.mono (by have := HSZ.out; have := HBW.out; omega)).trans (hon.below (by have := HSZ.out; have := HBW.out; omega) (fun g e => by have := HSZ.out; have := HBW.out; omega))))
  have HFN := Lib.hid (show N < w1.heap.size by have := HSZ.out; omega)
  clear hV hon o0 o1 o2 b1 HA HO HBA hs1
  generalize w1.heap.size = F at *
  obtain ⟨o0, o1, o2⟩ := cells3 HO2.out
  obtain ⟨f0, f1, f2⟩ := cells3 HF.out
  obtain ⟨p0, p1, p2, p3, p4, p5, p6, p7, p8⟩ := cells9 HP.out.blk
  dsimp only [onS] at p0 p1 p2 p3 p4 p5 p6 p7 p8
  have ⟨hgg2, hgg3⟩ : ((zs.length : Int) < 1) ∧ ¬ ((ss.length : Int) ≤ m) := by omega
  go_quiet (fail)
  go_upto_region 3 with fail
  go_quiet (fail)
  clear o0 o1 o2 f0 f1 f2 p0 p1 p2 p3 p4 p5 p6 p7 p8
  generalize hQ : World.drewN _ _ = V2
  have HB3 := Lib.hid (show Below B w V2 from by rw [← hQ]; first | exact below_drewN (below_drewN HB2.out _) _ | exact below_drewN HB2.out _ | exact HB2.out)
  clear hQ HP HF HO2 HB2
  go_wp2_with fail
  go_ret
  exact DoOut.ends (by decide) HB3.out

set_option maxHeartbeats 8000000 in
set_option maxRecDepth 100000 in
theorem does_few_8
(B N : Nat) (x m : Int) (s : List UInt8) (As : Option Addr) (cs : Nat) (u1 u2 u3 : Value) (zs : List Int) (bs : List Bx) (rs : List Int) (ss : List (List Int)) (w : World) (h : Pl w B N (onS ⟨x, zs, bs, rs, 0⟩) (.slice As ss.length cs) u1 u2 u3) (hx : 0 ≤ x ∧ x ≤ 300) (hzl : zs.length ≤ 60)
    (hgg : zs.length < 1) :
    Calls Tryz.prog 47 #[.pointer (some ⟨N, 0, none⟩), .agg #[.int .i64 8, .int .i64 m, str s]] w (DoOut B N (.slice As ss.length cs) (endS ⟨x, zs, bs, rs, 0⟩ 4) w) := by
  obtain ⟨A1, c1, e1⟩ := h.own.o1.see.shape
  dsimp only [onS] at e1
  subst e1
  have hN := h.lt
  have hB := h.hB
  have hBw : B ≤ w.heap.size := by omega
  have bA := below_new w (.cells #[.int .i64 8, .int .i64 m, str s] 41)
  have HA := Lib.hid (h.later bA)
  have HO := Lib.hid (heap_alloc_new w (.cells #[.int .i64 8, .int .i64 m, str s] 41))
  have HBA := Lib.hid (bA.mono hBw)
  have HBW := Lib.hid hBw
  clear bA hBw h
  obtain ⟨hx0, hx1⟩ := hx
  have hst : ∀ (W : World) (p : Addr) (f : Nat), (W.cell? p).isSome = true → W.frozen? p = false → (store p (.func (.func f) #[] #[])).run Tryz.prog W = .ok () (W.setCell p (.func (.func f) #[] #[])) := fun W p f h1 h2 => store_func W p f h1 h2
  go_enter Tryz.func47, Tryz.ntmps47
  go_upto_region 1 with fail
  generalize hW : w.alloc _ = W at *
  have HSZ := Lib.hid (show W.heap.size = w.heap.size + 1 by rw [← hW]; simp)
  clear hW
  obtain ⟨o0, o1, o2⟩ := cells3 HO.out
  go_upto_region 2 with (go_at_call 99; refine (form_8 W).mono ?_; rintro e w1 ⟨rfl, b1⟩)
  generalize hV : w1.alloc _ = V
  have HF := Lib.hid (show V.heap[w1.heap.size]? = some (.cells #[.int .i64 1, .bool false, .func (.func 142) #[] #[]] 124 (0, 0)) from by rw [← hV]; exact heap_alloc_new _ _)
  have hon : Only (fun g => g = w1.heap.size) w1 V := by rw [← hV]; exact Only.of_below (below_new _ _)
  have hs1 := b1.size
  have HP := Lib.hid ((HA.out.later b1).only hon (fun g q e => by omega))
  have HO2 := Lib.hid ((hon.block _ (Nat.lt_of_lt_of_le (heap_lt HO.out) hs1) (by have := heap_lt HO.out; omega)).trans (row_later HO.out b1))
  have HB2 := Lib.hid (HBA.out.trans ((b1.mono (by have := HSZ.out; have := HBW.out; omega)).trans (hon.below (by have := HSZ.out; have := HBW.out; omega) (fun g e => by have := HSZ.out; have := HBW.out; omega))))
  have HFN := Lib.hid (show N < w1.heap.size by have := HSZ.out; omega)
  clear hV hon o0 o1 o2 b1 HA HO HBA hs1
  generalize w1.heap.size = F at *
  obtain ⟨o0, o1, o2⟩ := cells3 HO2.out
  obtain ⟨f0, f1, f2⟩ := cells3 HF.out
  obtain ⟨p0, p1, p2, p3, p4, p5, p6, p7, p8⟩ := cells9 HP.out.blk
  dsimp only [onS] at p0 p1 p2 p3 p4 p5 p6 p7 p8
  have hgg2 : ((zs.length : Int) < 1) := by omega
  go_quiet (fail)
  go_upto_region 3 with fail
  go_quiet (fail)
  clear o0 o1 o2 f0 f1 f2 p0 p1 p2 p3 p4 p5 p6 p7 p8
  generalize hQ : World.drewN _ _ = V2
  have HB3 := Lib.hid (show Below B w V2 from by rw [← hQ]; first | exact below_drewN (below_drewN HB2.out _) _ | exact below_drewN HB2.out _ | exact HB2.out)
  clear hQ HP HF HO2 HB2
  go_wp2_with fail
  go_ret
  exact DoOut.ends (by decide) HB3.out

end Go.Proofs.YtpmdfogncoapjaaGreatDoor
