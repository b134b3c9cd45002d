/- The draw of an order and two ranks. -/
import Derived.Test.YtkpaidadofmpfaaDrawC
import Derived.Test.YtkpaidadofmpfaaOrdW
namespace Go.Proofs.Ytkpaidadofmpfaa
open Go.RowKit
set_option linter.unusedVariables false

theorem off_cell {W w' : World} {g : Nat} (q : W.grownBy w' (some g)) {b o : Nat} (h1 : b < W.heap.size) (h2 : b ≠ g) : w'.cell? ⟨b, o, none⟩ = W.cell? ⟨b, o, none⟩ := World.cell?_of_block (q.block b h1 (fun e => h2 (by injection e)))
theorem off_frozen {W w' : World} {g : Nat} (q : W.grownBy w' (some g)) {b o : Nat} (h1 : b < W.heap.size) (h2 : b ≠ g) : w'.frozen? ⟨b, o, none⟩ = W.frozen? ⟨b, o, none⟩ := World.frozen?_of_block (q.block b h1 (fun e => h2 (by injection e)))
theorem below_grown {w w1 w2 : World} {g : Nat} (hb : Below w.heap.size w w1) (hg : w1.grownBy w2 (some g)) (h : w.heap.size ≤ g) : Below w.heap.size w w2 :=
  ⟨hg.os.trans hb.os, hg.tape.trans hb.tape, hg.output.trans hb.output, Nat.le_trans hb.size hg.size, fun k hk => (hg.block k (Nat.lt_of_lt_of_le hk hb.size) (fun e => by injection e; omega)).trans (hb.block k hk)⟩
theorem see_apart {w : World} {B : Nat} {v : Value} {us : List Int} (h : SeeI w w.heap.size v us) (hf : From B v) {p : Addr} (hp : p.block < B) (u : Value) : SeeI (w.setCell p u) (w.setCell p u).heap.size v us := by
  obtain ⟨h0, A, c, rfl, h1⟩ := h
  refine ⟨h0, A, c, rfl, fun k hk' => ?_⟩
  obtain ⟨b, o, rfl, hq, hc⟩ := h1 k hk'
  have := hf _ _ _ rfl
  exact ⟨b, o, rfl, by simpa using hq, (World.cell?_setCell_other w _ _ _ (fun e => by subst e; simp at this; simp at hp; omega)).trans hc⟩

set_option maxHeartbeats 1000000 in
theorem drawBelow_any (A : Option Addr) (n c : Nat) (hn : n ≤ 4096) (w : World) (hs : SeeB w w.heap.size A n) : Calls Try.prog 29 #[.slice A n c] w (BelowDrawn w) := by
  have r0 : (w.alloc (.cells #[.slice none 0 0] 26)).cell? ⟨w.heap.size, 0, none⟩ = some (.slice none 0 0) := cell_of_row _ _ 0 _ _ (0, 0) (heap_alloc_new _ _)
  have z0 : (w.alloc (.cells #[.slice none 0 0] 26)).frozen? ⟨w.heap.size, 0, none⟩ = false := frozen_row (heap_alloc_new _ _)
  have g0 : w.heap.size < (w.alloc (.cells #[.slice none 0 0] 26)).heap.size := by simp
  have b0 : Below w.heap.size w (w.alloc (.cells #[.slice none 0 0] 26)) := (Below.refl _ _).alloc (Nat.le_refl _) _
  have s0 : SeeB (w.alloc (.cells #[.slice none 0 0] 26)) (w.alloc (.cells #[.slice none 0 0] 26)).heap.size A n := (hs.keep fun p hp => b0.cell hp).more b0.size
  go_enter Try.func29, Try.ntmps29
  go_wp2_with fail
  generalize w.alloc _ = W at r0 z0 g0 b0 s0 ⊢
  refine (l1New_any A n c hn _ s0).mono ?_
  rintro e w1 ⟨rfl, k1, b1⟩
  have r1 := (b1.cell (p := ⟨w.heap.size, 0, none⟩) g0).trans r0
  have z1 := (b1.frozen (p := ⟨w.heap.size, 0, none⟩) g0).trans z0
  have g1 := k1.lt
  have B1 := below_then b0 b1 (Nat.le_refl _)
  clear r0 z0 b0 b1 s0
  generalize W.heap.size = g at *
  go_wp2_with fail
  refine (l2DrawAny_any g _ k1).mono ?_
  rintro e w2 ⟨v, us, rfl, hus, s2, f2, k2, q2⟩
  obtain ⟨A2, c2, rfl⟩ := s2.shape
  have h2 := q2.size
  have r2 := (off_cell q2 (b := w.heap.size) (o := 0) (by omega) (by omega)).trans r1
  have z2 := (off_frozen q2 (b := w.heap.size) (o := 0) (by omega) (by omega)).trans z1
  have B2 := below_grown B1 q2 (Nat.le_of_lt g0)
  have r3 := (World.cell?_alloc_lt w2 (.cells #[.slice A2 us.length c2] 26) ⟨w.heap.size, 0, none⟩ (by simp; omega)).trans r2
  have z3 : (w2.alloc (.cells #[.slice A2 us.length c2] 26)).frozen? ⟨w.heap.size, 0, none⟩ = false := (World.frozen?_of_block (Below.heap_alloc w2 _ w.heap.size (by omega))).trans z2
  have o3 : (w2.alloc (.cells #[.slice A2 us.length c2] 26)).cell? ⟨w2.heap.size, 0, none⟩ = some (.slice A2 us.length c2) := cell_of_row _ _ 0 _ _ (0, 0) (heap_alloc_new _ _)
  have k3 := k2.alloc (.cells #[.slice A2 us.length c2] 26)
  have B3 := B2.alloc B2.size (.cells #[.slice A2 us.length c2] 26)
  have s3 := (s2.alloc (Nat.le_refl _) (.cells #[.slice A2 us.length c2] 26)).more (show w2.heap.size ≤ (w2.alloc (.cells #[.slice A2 us.length c2] 26)).heap.size by simp)
  have g3 : w2.heap.size < (w2.alloc (.cells #[.slice A2 us.length c2] 26)).heap.size := by simp
  clear r1 z1 B1 k1 q2 r2 z2 B2 k2 s2
  go_wp2_with fail
  generalize w2.alloc _ = W3 at r3 z3 o3 k3 B3 s3 g3 ⊢
  refine (l1From_any g _ _ (by omega) (by omega) (by omega) (by omega) _ k3).mono ?_
  rintro e w4 ⟨x, rfl, hx0, hx1, k4, q4⟩
  have r4 := (off_cell q4 (b := w.heap.size) (o := 0) (by omega) (by omega)).trans r3
  have z4 := (off_frozen q4 (b := w.heap.size) (o := 0) (by omega) (by omega)).trans z3
  have o4 := (off_cell q4 (b := w2.heap.size) (o := 0) (by omega) (by omega)).trans o3
  have B4 := below_grown B3 q4 (Nat.le_of_lt g0)
  have s4 := s3.past f2 g1 q4
  have g4 : w2.heap.size < w4.heap.size := by have := q4.size; omega
  clear r3 z3 o3 k3 B3 s3 g3 q4
  go_wp2_with fail
  go_region_held3 (fun w' => w'.cell? ⟨w2.heap.size, 0, none⟩ = some (.slice A2 us.length c2))
    (first | exact o4 | exact o5 | exact (World.cell?_setCell_other _ _ _ _ (fun e => by injection e; omega)).trans o5)
    (first | (go_at_call 59; refine (l1From_any g _ _ (by omega) (by omega) (by omega) (by omega) _ (show Cur w4.drew g from k4)).mono ?_; rintro e w5 ⟨y, rfl, hy0, hy1, k5, q5⟩; replace q5 := grown_trans (grown_of_below (Below.refl w4.heap.size w4).drew (some g)) q5; have o5 := (off_cell q5 (b := w2.heap.size) (o := 0) (by omega) (by omega)).trans o4; have r5 := (off_cell q5 (b := w.heap.size) (o := 0) (by omega) (by omega)).trans r4; have z5 := (off_frozen q5 (b := w.heap.size) (o := 0) (by omega) (by omega)).trans z4))
  have B5 := below_grown B4 q5 (Nat.le_of_lt g0)
  have s5 := s4.past f2 g1 q5
  go_wp2_with fail
  exact bodyPost_ret (v := .tuple #[.agg #[.slice A2 us.length c2], .int .i64 x, .int .i64 y]) (by simp [results, Try.results29, go_sem, r5]) rfl ⟨_, us, x, y, rfl, hus, see_apart s5 f2 (p := ⟨w.heap.size, 0, none⟩) (by simp; omega) _, B5.setCell (by simp) _⟩

end Go.Proofs.Ytkpaidadofmpfaa
