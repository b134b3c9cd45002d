/- The draws of gates. -/
import Derived.Test.YtkobngclcnfojaaLatY
import Derived.Test.YtkobngclcnfojaaGateR
namespace Go.Proofs.Ytkobngclcnfojaa
open Go.RowKit
set_option linter.unusedVariables false

theorem Cur.grown {w w' : World} {g : Nat} (h : Cur w g) {row : Option Nat} (hg : w.grownBy w' row) (hr : ∀ b, row = some b → g < b) : Cur w' g := by
  have hlt := h.lt
  obtain ⟨A, n, c, i, x, hh, hs, hi⟩ := h
  exact ⟨A, n, c, i, x, (hg.block g hlt (fun e => by have := hr g e.symm; omega)).trans hh, hs.keep fun p hp => World.cell?_of_block (hg.block p.block (by omega) (fun e => by have := hr _ e.symm; omega)), hi⟩
theorem grown_own {w w1 w2 : World} {g : Nat} {row : Option Nat} (h : w.grownBy w1 (some g)) (k : w1.grownBy w2 row) (hr : ∀ b, row = some b → w.heap.size ≤ b) : w.grownBy w2 (some g) :=
  ⟨k.os.trans h.os, k.tape.trans h.tape, k.output.trans h.output, Nat.le_trans h.size k.size, fun i hi hne => (k.block i (Nat.lt_of_lt_of_le hi h.size) (fun e => by have := hr i e.symm; omega)).trans (h.block i hi hne)⟩

theorem SeeI.pastB {w w' : World} {B C g : Nat} {v : Value} {zs : List Int} (h : SeeI w B v zs) (hf : From C v) (hg : w.grownBy w' (some g)) (hgC : g < C) (hB : B ≤ w.heap.size) : SeeI w' B v zs := by
  obtain ⟨h0, A, c, rfl, h1⟩ := h
  refine ⟨h0, A, c, rfl, fun k hk' => ?_⟩
  obtain ⟨b, o, rfl, hq, hc⟩ := h1 k hk'
  have := hf _ _ _ rfl
  exact ⟨b, o, rfl, hq, (World.cell?_of_block (hg.block b (by omega) (fun e => by injection e; simp at this; omega))).trans hc⟩

set_option maxHeartbeats 400000 in
theorem l1Max_one (n : Nat) (w : World) : Calls Try.prog 62 #[.int .i64 1, .int .i64 n] w fun e w' => e = .returned (.int .i64 ((max 1 n : Nat) : Int)) ∧ w = w' := by
  by_cases h : (n : Int) < 1
  · have HE : Hid (((max 1 n : Nat) : Int) = 1) := Lib.hid (by omega)
    go_enter Try.func62, Try.ntmps62
    go_wp2_with fail
    go_ret
    exact ⟨by rw [HE.out]; rfl, rfl⟩
  · have HE : Hid (((max 1 n : Nat) : Int) = n) := Lib.hid (by omega)
    have h' : ¬ (n : Int) ≤ 0 := by omega
    go_enter Try.func62, Try.ntmps62
    go_wp2_with fail
    go_ret
    exact ⟨by rw [HE.out]; rfl, rfl⟩

/-- Gates drawn. -/
def GsOut (w : World) (g : Nat) (e : Ending) (w' : World) : Prop :=
  ∃ u gs, e = .returned u ∧ gs.length ≤ 4 ∧ OwnI w' w.heap.size 2 u gs ∧ Cur w' g ∧ w.grownBy w' (some g)

set_option maxHeartbeats 4000000 in
set_option maxRecDepth 100000 in
theorem l4Draw_any (g : Nat) (A : Option Addr) (n c : Nat) (hn : n ≤ 6) (w : World) (hc : Cur w g) : Calls Try.prog 48 #[.pointer (some ⟨g, 0, none⟩), .agg #[.slice A n c]] w (GsOut w g) := by
  obtain ⟨i0, hi, hz0, hz1, hz2⟩ := info_parts Try.infoInt64
  have hlt := hc.lt
  have b0 : Below w.heap.size w ((w.alloc (.cells #[.slice A n c] 26)).alloc (.cells #[] 2)) := ((Below.refl _ _).alloc (Nat.le_refl _) _).alloc (by simp) _
  have x0 : ((w.alloc (.cells #[.slice A n c] 26)).alloc (.cells #[] 2)).cell? ⟨w.heap.size, 0, none⟩ = some (.slice A n c) := by
    rw [World.cell?_alloc_lt _ _ _ (by simp)]
    exact cell_of_row _ _ 0 _ _ (0, 0) (heap_alloc_new _ _)
  have O0 := OwnI.empty (w.alloc (.cells #[.slice A n c] 26)) (w.heap.size + 1) 2 (by simp)
  rw [World.size_alloc] at O0
  have z0 : w.heap.size + 1 < ((w.alloc (.cells #[.slice A n c] 26)).alloc (.cells #[] 2)).heap.size := by simp
  have k0 := hc.later b0
  have q0 := grown_of_below b0 (some g)
  go_enter Try.func48, Try.ntmps48
  go_wp2_with fail
  generalize World.alloc _ (.cells #[] 2) = W at b0 x0 O0 z0 k0 q0 ⊢
  clear b0
  refine (l1Below_any g _ (by decide) (by decide) _ k0).mono ?_
  rintro e w1 ⟨y, rfl, hy0, hy1, k1, q1⟩
  have x1 := (off_cell q1 (b := w.heap.size) (o := 0) (by omega) (by omega)).trans x0
  have O1 := O0.apart q1 (fun b e => by injection e; omega)
  have z1 : w.heap.size + 1 < w1.heap.size := by have := q1.size; omega
  replace q1 := grown_trans q0 q1
  clear x0 O0 z0 k0 q0
  obtain ⟨m, rfl⟩ := Int.eq_ofNat_of_zero_le hy0
  go_wp2_with fail
  go_loopw [5, 6] (fun z i wr => ∃ (k : Nat) (gs : List Int), i = .int .i64 k ∧ gs.length + k = m + 1 ∧ OwnI wr (w.heap.size + 1) 2 z gs ∧ wr.cell? ⟨w.heap.size, 0, none⟩ = some (.slice A n c) ∧ w.heap.size + 1 < wr.heap.size ∧ Cur wr g ∧ w.grownBy wr (some g)) (fun _ i _ => (intOf i).toNat)
  case atStart => exact ⟨m + 1, [], by go_num, by simp, O1, x1, z1, k1, q1⟩
  case round =>
    obtain ⟨k, gs, rfl, hkl, o2, x2, z2, k2, q2⟩ := hrel
    clear O1 x1 z1 k1 q1
    by_cases hk : 0 < k
    · have hk' : (0 : Int) < k := by omega
      go_wp2_with fail
      refine (l1Max_one n _).mono ?_
      rintro e w' ⟨rfl, rfl⟩
      go_wp2_with fail
      refine (l1Below_any g _ (by omega) (by omega) _ k2).mono ?_
      rintro e w3 ⟨y, rfl, hy0', hy1', k3, q3⟩
      have x3 := (off_cell q3 (b := w.heap.size) (o := 0) (by omega) (by omega)).trans x2
      have o3 := o2.apart q3 (fun b e => by injection e; omega)
      have z3 : w.heap.size + 1 < w3.heap.size := by have := q3.size; omega
      replace q3 := grown_trans q2 q3
      clear x2 o2 z2 k2 q2
      go_wp2_with (at_builtin; refine wpList_append_own _ rfl _ _ 24 rfl (w.heap.size + 1) 2 i0 (.int .i64 0) 1 8 Try.underlying24 hi hz0 hz1 hz2 rfl (by decide) _ _ _ rfl (o3.alloc _) ⟨w3.heap.size, 0, none⟩ 1 1 [.int .i64 y] rfl rfl ?c1 ?c2 ?c3 ?c4 ?c5 ?_)
      case c1 =>
        intro j u hj
        match j, hj with
        | 0, hj => simp at hj; subst hj; simp [Addr.add]
      case c2 => intro u hu; simp at hu; subst hu; rfl
      case c3 => unfold maxLen; omega
      case c4 => omega
      case c5 => simp; omega
      intro v' w4 hown' hgrow _
      have o4 := own_more hown'
      replace hgrow := grown_alloc' _ hgrow
      have k4 := k3.grown hgrow (fun b e => by have := (o3.lt b e).1; omega)
      have q4 := grown_own q3 hgrow (fun b e => by have := (o3.lt b e).1; omega)
      have x4 : w4.cell? ⟨w.heap.size, 0, none⟩ = some (.slice A n c) := (World.cell?_of_block (hgrow.block w.heap.size (by omega) (fun e => by have := (o3.lt _ e.symm).1; omega))).trans x3
      have z4 : w.heap.size + 1 < w4.heap.size := by have := hgrow.size; omega
      clear hown' hgrow x3 o3 z3 k3 q3
      go_wp2
      go_roundw
      case rel => exact ⟨k - 1, gs ++ [y], by go_num, by simp; omega, o4, x4, z4, k4, q4⟩
      case measure => simp [intOf]; omega
    · obtain rfl : k = 0 := by omega
      go_wp2_with fail
      go_ret
      exact ⟨_, gs, rfl, by omega, o2.less (by omega), k2, q2⟩

/-- An order and gates drawn. -/
def GatesDrawn (w : World) (e : Ending) (w' : World) : Prop :=
  ∃ v us u gs, e = .returned (.tuple #[.agg #[v], u]) ∧ us.length ≤ 6 ∧ gs.length ≤ 5 ∧ SeeI w' w'.heap.size v us ∧ SeeI w' w'.heap.size u gs ∧ Below w.heap.size w w'

set_option maxHeartbeats 4000000 in
set_option maxRecDepth 100000 in
theorem drawGatesOk_any (A : Option Addr) (n c : Nat) (hn : n ≤ 4096) (w : World) (hs : SeeB w w.heap.size A n) : Calls Try.prog 30 #[.slice A n c] w (GatesDrawn w) := by
  obtain ⟨i0, hi, hz0, hz1, hz2⟩ := info_parts Try.infoInt64
  have r0 : (w.alloc (.cells #[.slice none 0 0] 26)).cell? ⟨w.heap.size, 0, none⟩ = some (.slice none 0 0) := cell_of_row _ _ 0 _ _ (0, 0) (heap_alloc_new _ _)
  have z0 : (w.alloc (.cells #[.slice none 0 0] 26)).frozen? ⟨w.heap.size, 0, none⟩ = false := frozen_row (heap_alloc_new _ _)
  have g0 : w.heap.size < (w.alloc (.cells #[.slice none 0 0] 26)).heap.size := by simp
  have b0 : Below w.heap.size w (w.alloc (.cells #[.slice none 0 0] 26)) := (Below.refl _ _).alloc (Nat.le_refl _) _
  have s0 : SeeB (w.alloc (.cells #[.slice none 0 0] 26)) (w.alloc (.cells #[.slice none 0 0] 26)).heap.size A n := (hs.keep fun p hp => b0.cell hp).more b0.size
  go_enter Try.func30, Try.ntmps30
  go_wp2_with fail
  generalize w.alloc _ = W at r0 z0 g0 b0 s0 ⊢
  refine (l1New_any A n c hn _ s0).mono ?_
  rintro e w1 ⟨rfl, k1, b1⟩
  have r1 := (b1.cell (p := ⟨w.heap.size, 0, none⟩) g0).trans r0
  have z1 := (b1.frozen (p := ⟨w.heap.size, 0, none⟩) g0).trans z0
  have g1 := k1.lt
  have B1 := below_then b0 b1 (Nat.le_refl _)
  clear r0 z0 b0 b1 s0
  generalize W.heap.size = g at *
  go_wp2_with fail
  refine (l2DrawAny_any g _ k1).mono ?_
  rintro e w2 ⟨v, us, rfl, hus, s2, f2, k2, q2⟩
  obtain ⟨A2, c2, rfl⟩ := s2.shape
  have h2 := q2.size
  have r2 := (off_cell q2 (b := w.heap.size) (o := 0) (by omega) (by omega)).trans r1
  have z2 := (off_frozen q2 (b := w.heap.size) (o := 0) (by omega) (by omega)).trans z1
  have B2 := below_grown B1 q2 (Nat.le_of_lt g0)
  have r3 := (World.cell?_alloc_lt w2 (.cells #[.slice A2 us.length c2] 26) ⟨w.heap.size, 0, none⟩ (by simp; omega)).trans r2
  have z3 : (w2.alloc (.cells #[.slice A2 us.length c2] 26)).frozen? ⟨w.heap.size, 0, none⟩ = false := (World.frozen?_of_block (Below.heap_alloc w2 _ w.heap.size (by omega))).trans z2
  have o3 : (w2.alloc (.cells #[.slice A2 us.length c2] 26)).cell? ⟨w2.heap.size, 0, none⟩ = some (.slice A2 us.length c2) := cell_of_row _ _ 0 _ _ (0, 0) (heap_alloc_new _ _)
  have k3 := k2.alloc (.cells #[.slice A2 us.length c2] 26)
  have B3 := B2.alloc B2.size (.cells #[.slice A2 us.length c2] 26)
  have s3 := s2.alloc (Nat.le_refl _) (.cells #[.slice A2 us.length c2] 26)
  have g3 : w2.heap.size < (w2.alloc (.cells #[.slice A2 us.length c2] 26)).heap.size := by simp
  clear r1 z1 B1 k1 q2 r2 z2 B2 k2 s2
  go_wp2_with fail
  generalize w2.alloc _ = W3 at r3 z3 o3 k3 B3 s3 g3 ⊢
  refine (l4Draw_any g _ _ _ hus _ k3).mono ?_
  rintro e w4 ⟨u, gs, rfl, hgs, y4, k4, q4⟩
  have r4 := (off_cell q4 (b := w.heap.size) (o := 0) (by omega) (by omega)).trans r3
  have z4 := (off_frozen q4 (b := w.heap.size) (o := 0) (by omega) (by omega)).trans z3
  have o4 := (off_cell q4 (b := w2.heap.size) (o := 0) (by omega) (by omega)).trans o3
  have B4 := below_grown B3 q4 (Nat.le_of_lt g0)
  have s4 := s3.pastB f2 q4 g1 (by omega)
  have g4 : W3.heap.size ≤ w4.heap.size := q4.size
  generalize W3.heap.size = n3 at y4 g3 g4
  clear r3 z3 o3 k3 B3 s3 q4
  go_wp2_with fail
  refine (l1Once_any g _ (by decide) (by decide) _ k4).mono ?_
  rintro e w5 ⟨t, rfl, k5, q5⟩
  have r5 := (off_cell q5 (b := w.heap.size) (o := 0) (by omega) (by omega)).trans r4
  have z5 := (off_frozen q5 (b := w.heap.size) (o := 0) (by omega) (by omega)).trans z4
  have o5 := (off_cell q5 (b := w2.heap.size) (o := 0) (by omega) (by omega)).trans o4
  have B5 := below_grown B4 q5 (Nat.le_of_lt g0)
  have s5 := s4.pastB f2 q5 g1 (by omega)
  have y5 := y4.apart q5 (fun b e => by injection e; omega)
  have g5 : n3 ≤ w5.heap.size := by have := q5.size; omega
  clear r4 z4 o4 B4 s4 y4 k4 g4 q5
  cases t with
  | false =>
    have t5 := y5.see
    have f5 := y5.from_
    obtain ⟨A5, c5, rfl⟩ := t5.shape
    go_wp2_with fail
    exact bodyPost_ret (v := .tuple #[.agg #[.slice A2 us.length c2], .slice A5 gs.length c5]) (by simp [results, Try.results30, go_sem, r5]) rfl ⟨_, us, _, gs, rfl, hus, by omega, see_apart (s5.more (by omega)) f2 (p := ⟨w.heap.size, 0, none⟩) (by simp; omega) _, see_apart t5 f5 (p := ⟨w.heap.size, 0, none⟩) (by simp; omega) _, B5.setCell (by simp) _⟩
  | true =>
    go_wp2_with fail
    refine (l1From_any g _ _ (by decide) (by decide) (by decide) (by decide) _ k5).mono ?_
    rintro e w6 ⟨x, rfl, hx0, hx1, k6, q6⟩
    have r6 := (off_cell q6 (b := w.heap.size) (o := 0) (by omega) (by omega)).trans r5
    have z6 := (off_frozen q6 (b := w.heap.size) (o := 0) (by omega) (by omega)).trans z5
    have o6 := (off_cell q6 (b := w2.heap.size) (o := 0) (by omega) (by omega)).trans o5
    have B6 := below_grown B5 q6 (Nat.le_of_lt g0)
    have s6 := s5.pastB f2 q6 g1 (by omega)
    have y6 := y5.apart q6 (fun b e => by injection e; omega)
    have g6 : n3 ≤ w6.heap.size := by have := q6.size; omega
    clear r5 z5 o5 B5 s5 y5 k5 g5 q6
    go_wp2_with (at_builtin; refine wpList_append_own _ rfl _ _ 24 rfl n3 2 i0 (.int .i64 0) 1 8 Try.underlying24 hi hz0 hz1 hz2 rfl (by decide) _ _ _ rfl (y6.alloc _) ⟨w6.heap.size, 0, none⟩ 1 1 [.int .i64 x] rfl rfl ?c1 ?c2 ?c3 ?c4 ?c5 ?_)
    case c1 =>
      intro j u hj
      match j, hj with
      | 0, hj => simp at hj; subst hj; simp [Addr.add]
    case c2 => intro u hu; simp at hu; subst hu; rfl
    case c3 => unfold maxLen; omega
    case c4 => omega
    case c5 => simp; omega
    intro v' w7 hown' hgrow _
    have y7 := own_more hown'
    replace hgrow := grown_alloc' _ hgrow
    have far : ∀ b, b < n3 → w7.heap[b]? = w6.heap[b]? := fun b hb => hgrow.block b (by omega) (fun e => by have := (y6.lt b e.symm).1; omega)
    have r7 := (World.cell?_of_block (a := ⟨w.heap.size, 0, none⟩) (far w.heap.size (by omega))).trans r6
    have z7 := (World.frozen?_of_block (a := ⟨w.heap.size, 0, none⟩) (far w.heap.size (by omega))).trans z6
    have o7 := (World.cell?_of_block (a := ⟨w2.heap.size, 0, none⟩) (far w2.heap.size (by omega))).trans o6
    have B7 := B6.grown hgrow B6.size (fun b e => by have := (y6.lt b e).1; omega)
    have t7 := y7.see
    have f7 := y7.from_
    have hl7 : (gs ++ [x]).length ≤ 5 := by simp; omega
    have s7 : SeeI w7 w7.heap.size (.slice A2 us.length c2) us := (s6.grown hgrow (by omega) (fun b e => by have := (y6.lt b e).1; omega)).more (by have := hgrow.size; omega)
    clear hown' hgrow far r6 z6 o6 B6 s6 y6 k6
    generalize gs ++ [x] = hs' at *
    obtain ⟨A7, c7, rfl⟩ := t7.shape
    go_wp2_with fail
    exact bodyPost_ret (v := .tuple #[.agg #[.slice A2 us.length c2], .slice A7 hs'.length c7]) (by simp [results, Try.results30, go_sem, r7]) rfl ⟨_, us, _, hs', rfl, hus, hl7, see_apart s7 f2 (p := ⟨w.heap.size, 0, none⟩) (by simp; omega) _, see_apart t7 f7 (p := ⟨w.heap.size, 0, none⟩) (by simp; omega) _, B7.setCell (by simp) _⟩

/-- An order, gates, a rank and a gate drawn. -/
def SeeDrawn (w : World) (e : Ending) (w' : World) : Prop :=
  ∃ v us u gs r g, e = .returned (.tuple #[.agg #[v], u, .int .i64 r, .int .i64 g]) ∧ us.length ≤ 6 ∧ gs.length ≤ 5 ∧ SeeI w' w'.heap.size v us ∧ SeeI w' w'.heap.size u gs ∧ Below w.heap.size w w'

set_option maxHeartbeats 4000000 in
theorem drawMaySee_any (A : Option Addr) (n c : Nat) (hn : n ≤ 4096) (w : World) (hs : SeeB w w.heap.size A n) : Calls Try.prog 9 #[.slice A n c] w (SeeDrawn w) := by
  have r0 : (w.alloc (.cells #[.slice none 0 0] 26)).cell? ⟨w.heap.size, 0, none⟩ = some (.slice none 0 0) := cell_of_row _ _ 0 _ _ (0, 0) (heap_alloc_new _ _)
  have z0 : (w.alloc (.cells #[.slice none 0 0] 26)).frozen? ⟨w.heap.size, 0, none⟩ = false := frozen_row (heap_alloc_new _ _)
  have g0 : w.heap.size < (w.alloc (.cells #[.slice none 0 0] 26)).heap.size := by simp
  have b0 : Below w.heap.size w (w.alloc (.cells #[.slice none 0 0] 26)) := (Below.refl _ _).alloc (Nat.le_refl _) _
  have s0 : SeeB (w.alloc (.cells #[.slice none 0 0] 26)) (w.alloc (.cells #[.slice none 0 0] 26)).heap.size A n := (hs.keep fun p hp => b0.cell hp).more b0.size
  go_enter Try.func9, Try.ntmps9
  go_wp2_with fail
  generalize w.alloc _ = W at r0 z0 g0 b0 s0 ⊢
  refine (drawGatesOk_any A n c hn _ s0).mono ?_
  rintro e w1 ⟨v, us, u, gs, rfl, hus, hgs, s1, t1, b1⟩
  have r1 := (b1.cell (p := ⟨w.heap.size, 0, none⟩) g0).trans r0
  have z1 := (b1.frozen (p := ⟨w.heap.size, 0, none⟩) g0).trans z0
  have B1 := below_then b0 b1 (Nat.le_refl _)
  have sb1 := (s0.keep fun p hp => b1.cell hp).more b1.size
  have g1 := Nat.lt_of_lt_of_le g0 b1.size
  obtain ⟨A1, c1, rfl⟩ := s1.shape
  obtain ⟨A1', c1', rfl⟩ := t1.shape
  clear r0 z0 b0 s0 b1 g0
  have bb : Below w1.heap.size w1 (w1.alloc (.cells #[.slice A1 us.length c1] 26)) := (Below.refl _ _).alloc (Nat.le_refl _) _
  have r2 := (bb.cell (p := ⟨w.heap.size, 0, none⟩) g1).trans r1
  have z2 := (bb.frozen (p := ⟨w.heap.size, 0, none⟩) g1).trans z1
  have B2 := below_then B1 bb (Nat.le_refl _)
  have sb2 := (sb1.keep fun p hp => bb.cell hp).more bb.size
  have s2 := s1.below bb
  have t2 := t1.below bb
  have x2 : (w1.alloc (.cells #[.slice A1 us.length c1] 26)).cell? ⟨w1.heap.size, 0, none⟩ = some (.slice A1 us.length c1) := cell_of_row _ _ 0 _ _ (0, 0) (heap_alloc_new _ _)
  have g2 : w1.heap.size < (w1.alloc (.cells #[.slice A1 us.length c1] 26)).heap.size := by simp
  clear r1 z1 B1 sb1 bb s1 t1
  go_wp2_with fail
  generalize w1.alloc _ = W2 at r2 z2 B2 sb2 s2 t2 x2 g2 ⊢
  generalize w1.heap.size = o at g1 s2 t2 x2 g2 ⊢
  refine (l1New_any A n c hn _ sb2).mono ?_
  rintro e w3 ⟨rfl, k3, b3⟩
  have r3 := (b3.cell (p := ⟨w.heap.size, 0, none⟩) (Nat.lt_trans g1 g2)).trans r2
  have z3 := (b3.frozen (p := ⟨w.heap.size, 0, none⟩) (Nat.lt_trans g1 g2)).trans z2
  have B3 := below_then B2 b3 (Nat.le_refl _)
  have s3 := s2.below (b3.mono (Nat.le_of_lt g2))
  have t3 := t2.below (b3.mono (Nat.le_of_lt g2))
  have x3 := (b3.cell (p := ⟨o, 0, none⟩) g2).trans x2
  have g3 := k3.lt
  clear r2 z2 B2 sb2 s2 t2 x2 b3
  generalize W2.heap.size = g at *
  go_wp2_with fail
  refine (l1From_any g _ _ (by omega) (by omega) (by omega) (by omega) _ k3).mono ?_
  rintro e w4 ⟨x, rfl, hx0, hx1, k4, q4⟩
  have r4 := (off_cell q4 (b := w.heap.size) (o := 0) (by omega) (by omega)).trans r3
  have z4 := (off_frozen q4 (b := w.heap.size) (o := 0) (by omega) (by omega)).trans z3
  have x4 := (off_cell q4 (b := o) (o := 0) (by omega) (by omega)).trans x3
  have B4 := below_grown B3 q4 (by omega)
  have s4 := s3.grown q4 (by omega) (fun b e => by injection e; omega)
  have t4 := t3.grown q4 (by omega) (fun b e => by injection e; omega)
  have g4 : g < w4.heap.size := k4.lt
  clear r3 z3 B3 s3 t3 x3 k3 g3 q4
  go_wp2_with fail
  go_region_held3 (fun w' => w'.cell? ⟨o, 0, none⟩ = some (.slice A1 us.length c1))
    (first | exact x4 | exact x5 | exact (World.cell?_setCell_other _ _ _ _ (fun e => by injection e; omega)).trans x5)
    (first | (go_at_call 32; refine (l1From_any g _ _ (by omega) (by omega) (by omega) (by omega) _ (show Cur w4.drew g from k4)).mono ?_; rintro e w5 ⟨y, rfl, hy0, hy1, k5, q5⟩; replace q5 := grown_trans (grown_of_below (Below.refl w4.heap.size w4).drew (some g)) q5; have x5 := (off_cell q5 (b := o) (o := 0) (by omega) (by omega)).trans x4; have r5 := (off_cell q5 (b := w.heap.size) (o := 0) (by omega) (by omega)).trans r4; have z5 := (off_frozen q5 (b := w.heap.size) (o := 0) (by omega) (by omega)).trans z4))
  have B5 := below_grown B4 q5 (by omega)
  have s5 := (s4.grown q5 (by omega) (fun b e => by injection e; omega)).more (show o ≤ w5.heap.size by have := q5.size; omega)
  have t5 := (t4.grown q5 (by omega) (fun b e => by injection e; omega)).more (show o ≤ w5.heap.size by have := q5.size; omega)
  go_wp2_with fail
  exact bodyPost_ret (v := .tuple #[.agg #[.slice A1 us.length c1], .slice A1' gs.length c1', .int .i64 x, .int .i64 y]) (by simp [results, Try.results9, go_sem, r5]) rfl ⟨_, us, _, gs, x, y, rfl, hus, hgs, see_other (v' := .nilFunc) s5 r5 _, see_other (v' := .nilFunc) t5 r5 _, B5.setCell (by simp) _⟩

end Go.Proofs.Ytkobngclcnfojaa
