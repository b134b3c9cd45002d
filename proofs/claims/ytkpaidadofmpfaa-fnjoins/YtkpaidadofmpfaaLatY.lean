/- The draws of an order with two ranks, and with a set. -/
import Derived.Test.YtkpaidadofmpfaaDrawD
namespace Go.Proofs.Ytkpaidadofmpfaa
open Go.RowKit
set_option linter.unusedVariables false

theorem see_other {w : World} {v v' : Value} {us : List Int} (h : SeeI w w.heap.size v us) {p : Addr} {A : Option Addr} {n c : Nat} (hp : w.cell? p = some (.slice A n c)) (u : Value) : SeeI (w.setCell p u) (w.setCell p u).heap.size v us := by
  obtain ⟨h0, A', c', rfl, h1⟩ := h
  refine ⟨h0, A', c', rfl, fun k hk' => ?_⟩
  obtain ⟨b, o, rfl, hq, hc⟩ := h1 k hk'
  exact ⟨b, o, rfl, by simpa using hq, (World.cell?_setCell_other w _ _ _ (fun e => by subst e; rw [hp] at hc; cases hc)).trans hc⟩

set_option maxHeartbeats 1000000 in
theorem drawJoin_any (A : Option Addr) (n c : Nat) (hn : n ≤ 4096) (w : World) (hs : SeeB w w.heap.size A n) : Calls Try.prog 11 #[.slice A n c] w (BelowDrawn w) := by
  have r0 : (w.alloc (.cells #[.slice none 0 0] 26)).cell? ⟨w.heap.size, 0, none⟩ = some (.slice none 0 0) := cell_of_row _ _ 0 _ _ (0, 0) (heap_alloc_new _ _)
  have z0 : (w.alloc (.cells #[.slice none 0 0] 26)).frozen? ⟨w.heap.size, 0, none⟩ = false := frozen_row (heap_alloc_new _ _)
  have g0 : w.heap.size < (w.alloc (.cells #[.slice none 0 0] 26)).heap.size := by simp
  have b0 : Below w.heap.size w (w.alloc (.cells #[.slice none 0 0] 26)) := (Below.refl _ _).alloc (Nat.le_refl _) _
  have s0 : SeeB (w.alloc (.cells #[.slice none 0 0] 26)) (w.alloc (.cells #[.slice none 0 0] 26)).heap.size A n := (hs.keep fun p hp => b0.cell hp).more b0.size
  go_enter Try.func11, Try.ntmps11
  go_wp2_with fail
  generalize w.alloc _ = W at r0 z0 g0 b0 s0 ⊢
  refine (drawBelow_any A n c hn _ s0).mono ?_
  rintro e w1 ⟨v, us, a, b, rfl, hl, hs1, b1⟩
  have r1 := (b1.cell (p := ⟨w.heap.size, 0, none⟩) g0).trans r0
  have z1 := (b1.frozen (p := ⟨w.heap.size, 0, none⟩) g0).trans z0
  have B1 := below_then b0 b1 (Nat.le_refl _)
  obtain ⟨A2, c2, rfl⟩ := hs1.shape
  clear r0 z0 b0 b1 s0
  go_wp2_with fail
  exact bodyPost_ret (v := .tuple #[.agg #[.slice A2 us.length c2], .int .i64 a, .int .i64 b]) (by simp [results, Try.results11, go_sem, r1]) rfl ⟨_, us, a, b, rfl, hl, see_other (v' := .nilFunc) hs1 r1 _, B1.setCell (by simp) _⟩

/-- An order and a set drawn. -/
def AllDrawn (w : World) (e : Ending) (w' : World) : Prop :=
  ∃ v us s, e = .returned (.tuple #[.agg #[v], .int .i64 s]) ∧ us.length ≤ 6 ∧ SeeI w' w'.heap.size v us ∧ Below w.heap.size w w'

set_option maxHeartbeats 2000000 in
theorem drawJoinAll_any (A : Option Addr) (n c : Nat) (hn : n ≤ 4096) (w : World) (hs : SeeB w w.heap.size A n) : Calls Try.prog 20 #[.slice A n c] w (AllDrawn w) := by
  have r0 : (w.alloc (.cells #[.slice none 0 0] 26)).cell? ⟨w.heap.size, 0, none⟩ = some (.slice none 0 0) := cell_of_row _ _ 0 _ _ (0, 0) (heap_alloc_new _ _)
  have z0 : (w.alloc (.cells #[.slice none 0 0] 26)).frozen? ⟨w.heap.size, 0, none⟩ = false := frozen_row (heap_alloc_new _ _)
  have g0 : w.heap.size < (w.alloc (.cells #[.slice none 0 0] 26)).heap.size := by simp
  have b0 : Below w.heap.size w (w.alloc (.cells #[.slice none 0 0] 26)) := (Below.refl _ _).alloc (Nat.le_refl _) _
  have s0 : SeeB (w.alloc (.cells #[.slice none 0 0] 26)) (w.alloc (.cells #[.slice none 0 0] 26)).heap.size A n := (hs.keep fun p hp => b0.cell hp).more b0.size
  go_enter Try.func20, Try.ntmps20
  go_wp2_with fail
  generalize w.alloc _ = W at r0 z0 g0 b0 s0 ⊢
  refine (l1New_any A n c hn _ s0).mono ?_
  rintro e w1 ⟨rfl, k1, b1⟩
  have r1 := (b1.cell (p := ⟨w.heap.size, 0, none⟩) g0).trans r0
  have z1 := (b1.frozen (p := ⟨w.heap.size, 0, none⟩) g0).trans z0
  have g1 := k1.lt
  have B1 := below_then b0 b1 (Nat.le_refl _)
  clear r0 z0 b0 b1 s0
  generalize W.heap.size = g at *
  go_wp2_with fail
  refine (l2DrawAny_any g _ k1).mono ?_
  rintro e w2 ⟨v, us, rfl, hus, s2, f2, k2, q2⟩
  obtain ⟨A2, c2, rfl⟩ := s2.shape
  have h2 := q2.size
  have r2 := (off_cell q2 (b := w.heap.size) (o := 0) (by omega) (by omega)).trans r1
  have z2 := (off_frozen q2 (b := w.heap.size) (o := 0) (by omega) (by omega)).trans z1
  have B2 := below_grown B1 q2 (Nat.le_of_lt g0)
  have r3 := (World.cell?_alloc_lt w2 (.cells #[.slice A2 us.length c2] 26) ⟨w.heap.size, 0, none⟩ (by simp; omega)).trans r2
  have z3 : (w2.alloc (.cells #[.slice A2 us.length c2] 26)).frozen? ⟨w.heap.size, 0, none⟩ = false := (World.frozen?_of_block (Below.heap_alloc w2 _ w.heap.size (by omega))).trans z2
  have o3 : (w2.alloc (.cells #[.slice A2 us.length c2] 26)).cell? ⟨w2.heap.size, 0, none⟩ = some (.slice A2 us.length c2) := cell_of_row _ _ 0 _ _ (0, 0) (heap_alloc_new _ _)
  have k3 := k2.alloc (.cells #[.slice A2 us.length c2] 26)
  have B3 := B2.alloc B2.size (.cells #[.slice A2 us.length c2] 26)
  have s3 := (s2.alloc (Nat.le_refl _) (.cells #[.slice A2 us.length c2] 26)).more (show w2.heap.size ≤ (w2.alloc (.cells #[.slice A2 us.length c2] 26)).heap.size by simp)
  have g3 : w2.heap.size < (w2.alloc (.cells #[.slice A2 us.length c2] 26)).heap.size := by simp
  clear r1 z1 B1 k1 q2 r2 z2 B2 k2 s2
  go_wp2_with fail
  generalize w2.alloc _ = W3 at r3 z3 o3 k3 B3 s3 g3 ⊢
  refine (l1Once_any g _ (by decide) (by decide) _ k3).mono ?_
  rintro e w4 ⟨t, rfl, k4, q4⟩
  have r4 := (off_cell q4 (b := w.heap.size) (o := 0) (by omega) (by omega)).trans r3
  have z4 := (off_frozen q4 (b := w.heap.size) (o := 0) (by omega) (by omega)).trans z3
  have o4 := (off_cell q4 (b := w2.heap.size) (o := 0) (by omega) (by omega)).trans o3
  have B4 := below_grown B3 q4 (Nat.le_of_lt g0)
  have s4 := s3.past f2 g1 q4
  have g4 : w2.heap.size < w4.heap.size := by have := q4.size; omega
  clear r3 z3 o3 k3 B3 s3 g3 q4
  cases t with
  | true =>
    go_wp2_with fail
    go_region_held3 (fun w' => w'.cell? ⟨w2.heap.size, 0, none⟩ = some (.slice A2 us.length c2))
      (first | exact o4 | exact o5 | exact (World.cell?_setCell_other _ _ _ _ (fun e => by injection e; omega)).trans o5)
      (first | (go_at_call 45; refine (l1DrawSet_any g _ (show Cur w4.drew g from k4)).mono ?_; rintro e w5 ⟨y, rfl, k5, q5⟩; replace q5 := grown_trans (grown_of_below (Below.refl w4.heap.size w4).drew (some g)) q5; have o5 := (off_cell q5 (b := w2.heap.size) (o := 0) (by omega) (by omega)).trans o4; have r5 := (off_cell q5 (b := w.heap.size) (o := 0) (by omega) (by omega)).trans r4; have z5 := (off_frozen q5 (b := w.heap.size) (o := 0) (by omega) (by omega)).trans z4))
    have B5 := below_grown B4 q5 (Nat.le_of_lt g0)
    have s5 := s4.past f2 g1 q5
    go_wp2_with fail
    exact bodyPost_ret (v := .tuple #[.agg #[.slice A2 us.length c2], .int .i64 y]) (by simp [results, Try.results20, go_sem, r5]) rfl ⟨_, us, y, rfl, hus, see_apart s5 f2 (p := ⟨w.heap.size, 0, none⟩) (by simp; omega) _, B5.setCell (by simp) _⟩
  | false =>
    have hp := pow_le64 hus
    have hp0 : (0 : Int) < 2 ^ us.length := Int.pow_pos (by decide)
    go_wp2_with fail
    go_region_held3 (fun w' => w'.cell? ⟨w2.heap.size, 0, none⟩ = some (.slice A2 us.length c2))
      (first | exact o4 | exact o5 | exact (World.cell?_setCell_other _ _ _ _ (fun e => by injection e; omega)).trans o5)
      (first | (go_at_call 47; refine (l1Bit_any _ (by omega) (by omega) _).mono ?_; rintro e _ ⟨rfl, rfl⟩; rw [Int.toNat_natCast]) | (go_at_call 46; refine (l1Below_any g _ hp0 (by omega) _ (show Cur w4.drew g from k4)).mono ?_; rintro e w5 ⟨y, rfl, hy0, hy1, k5, q5⟩; replace q5 := grown_trans (grown_of_below (Below.refl w4.heap.size w4).drew (some g)) q5; have o5 := (off_cell q5 (b := w2.heap.size) (o := 0) (by omega) (by omega)).trans o4; have r5 := (off_cell q5 (b := w.heap.size) (o := 0) (by omega) (by omega)).trans r4; have z5 := (off_frozen q5 (b := w.heap.size) (o := 0) (by omega) (by omega)).trans z4))
    have B5 := below_grown B4 q5 (Nat.le_of_lt g0)
    have s5 := s4.past f2 g1 q5
    go_wp2_with fail
    exact bodyPost_ret (v := .tuple #[.agg #[.slice A2 us.length c2], .int .i64 y]) (by simp [results, Try.results20, go_sem, r5]) rfl ⟨_, us, y, rfl, hus, see_apart s5 f2 (p := ⟨w.heap.size, 0, none⟩) (by simp; omega) _, B5.setCell (by simp) _⟩

end Go.Proofs.Ytkpaidadofmpfaa
