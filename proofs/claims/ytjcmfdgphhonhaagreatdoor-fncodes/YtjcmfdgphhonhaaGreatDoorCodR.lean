/- Layer 8 (steps): the draws of ops. No conditions but those typed. Layer 8 (steps): the draws of ops, one that may be none; lists of them. No conditions but those typed. -/
import Derived.Test.YtjcmfdgphhonhaaGreatDoorCodQ
import Derived.Test.YtjcmfdgphhonhaaGreatDoorDrwJ
import Derived.Test.YtjcmfdgphhonhaaGreatDoorCodK
namespace Go.Proofs.YtjcmfdgphhonhaaGreatDoor
open Go.RowKit
set_option linter.unusedVariables false

def OpOut (w : World) (g : Nat) (e : Ending) (w' : World) : Prop := ∃ o : Opv, e = .returned (.agg #[.int .i64 o.1, .int .i64 o.2.1, str o.2.2]) ∧ o.2.2.length ≤ 10 ∧ Cur w' g ∧ w.grownBy w' (some g)
theorem grown_then {w W W' : World} {r : Option Nat} (h : w.grownBy W r) (b : Below w.heap.size W W') : w.grownBy W' r :=
  ⟨b.os.trans h.os, b.tape.trans h.tape, b.output.trans h.output, Nat.le_trans h.size b.size, fun i hi hne => (b.block i hi).trans (h.block i hi hne)⟩
/-- The op in block N, the result in block R; where the cursor is. -/
structure Dw (w : World) (g R N : Nat) (W : World) (x0 x1 : Int) (x2 : Txt) (a n : Int) (s : Txt) : Prop where
  hg : g < R
  hR : w.heap.size ≤ R
  hN : R < N
  cur : Cur W g
  gr : w.grownBy W (some g)
  rb : W.heap[R]? = some (.cells #[.int .i64 x0, .int .i64 x1, str x2] 30 (0, 0))
  ob : W.heap[N]? = some (.cells #[.int .i64 a, .int .i64 n, str s] 30 (0, 0))
section
variable {w : World} {g R N : Nat} {W W' : World} {x0 x1 : Int} {x2 : Txt} {a n : Int} {s : Txt}
theorem Dw.step (h : Dw w g R N W x0 x1 x2 a n s) (c : Cur W' g) (k : W.grownBy W' (some g)) : Dw w g R N W' x0 x1 x2 a n s := by
  have h1 := (Array.getElem?_eq_some_iff.1 h.rb).1
  have h2 := (Array.getElem?_eq_some_iff.1 h.ob).1
  have h3 := h.hg
  have h4 := h.hN
  exact ⟨h.hg, h.hR, h.hN, c, grown_trans h.gr k, (k.block R h1 (by intro e; injection e with e; omega)).trans h.rb, (k.block N h2 (by intro e; injection e with e; omega)).trans h.ob⟩
theorem Dw.set0 (h : Dw w g R N W x0 x1 x2 a n s) (x : Int) : Dw w g R N (W.setCell ⟨N, 0, none⟩ (.int .i64 x)) x0 x1 x2 x n s := by
  have h3 := h.hg
  have h4 := h.hN
  have h5 := h.hR
  exact ⟨h.hg, h.hR, h.hN, h.cur.far (by simp; omega) _, grown_then h.gr ((Below.refl _ W).setCell (by simp; omega) _), ((((Below.refl (R + 1) W).setCell (p := ⟨N, 0, none⟩) (by simp; omega) (.int .i64 x)).block R (by omega))).trans h.rb, by rw [heap_set h.ob]; rfl⟩
theorem Dw.set1 (h : Dw w g R N W x0 x1 x2 a n s) (x : Int) : Dw w g R N (W.setCell ⟨N, 1, none⟩ (.int .i64 x)) x0 x1 x2 a x s := by
  have h3 := h.hg
  have h4 := h.hN
  have h5 := h.hR
  exact ⟨h.hg, h.hR, h.hN, h.cur.far (by simp; omega) _, grown_then h.gr ((Below.refl _ W).setCell (by simp; omega) _), ((((Below.refl (R + 1) W).setCell (p := ⟨N, 1, none⟩) (by simp; omega) (.int .i64 x)).block R (by omega))).trans h.rb, by rw [heap_set h.ob]; rfl⟩
theorem Dw.set2 (h : Dw w g R N W x0 x1 x2 a n s) (x : Txt) : Dw w g R N (W.setCell ⟨N, 2, none⟩ (str x)) x0 x1 x2 a n x := by
  have h3 := h.hg
  have h4 := h.hN
  have h5 := h.hR
  exact ⟨h.hg, h.hR, h.hN, h.cur.far (by simp; omega) _, grown_then h.gr ((Below.refl _ W).setCell (by simp; omega) _), ((((Below.refl (R + 1) W).setCell (p := ⟨N, 2, none⟩) (by simp; omega) (str x)).block R (by omega))).trans h.rb, by rw [heap_set h.ob]; rfl⟩
theorem Dw.c (h : Dw w g R N W x0 x1 x2 a n s) : W.cell? ⟨N, 0, none⟩ = some (.int .i64 a) ∧ W.cell? ⟨N, 1, none⟩ = some (.int .i64 n) ∧ W.cell? ⟨N, 2, none⟩ = some (str s) := by
  refine ⟨?_, ?_, ?_⟩
  · rw [cell_of_row _ _ 0 _ _ (0, 0) h.ob]; rfl
  · rw [cell_of_row _ _ 1 _ _ (0, 0) h.ob]; rfl
  · rw [cell_of_row _ _ 2 _ _ (0, 0) h.ob]; rfl
theorem Dw.z (h : Dw w g R N W x0 x1 x2 a n s) : W.cell? ⟨R, 0, none⟩ = some (.int .i64 x0) ∧ W.cell? ⟨R, 1, none⟩ = some (.int .i64 x1) ∧ W.cell? ⟨R, 2, none⟩ = some (str x2) := by
  refine ⟨?_, ?_, ?_⟩
  · rw [cell_of_row _ _ 0 _ _ (0, 0) h.rb]; rfl
  · rw [cell_of_row _ _ 1 _ _ (0, 0) h.rb]; rfl
  · rw [cell_of_row _ _ 2 _ _ (0, 0) h.rb]; rfl
theorem Dw.f (h : Dw w g R N W x0 x1 x2 a n s) (k : Nat) : W.frozen? ⟨R, k, none⟩ = false ∧ W.frozen? ⟨N, k, none⟩ = false := ⟨frozen_row h.rb, frozen_row h.ob⟩
def set3 (W : World) (R : Nat) (u0 u1 u2 : Value) : World := ((W.setCell ⟨R, 0, none⟩ u0).setCell ⟨R, 1, none⟩ u1).setCell ⟨R, 2, none⟩ u2
theorem Dw.last (h : Dw w g R N W x0 x1 x2 a n s) : Cur (set3 W R (.int .i64 a) (.int .i64 n) (str s)) g ∧ w.grownBy (set3 W R (.int .i64 a) (.int .i64 n) (str s)) (some g) ∧ (set3 W R (.int .i64 a) (.int .i64 n) (str s)).heap[R]? = some (.cells #[.int .i64 a, .int .i64 n, str s] 30 (0, 0)) := by
  unfold set3
  have h3 := h.hg
  have h5 := h.hR
  refine ⟨((h.cur.far (by simp; omega) _).far (by simp; omega) _).far (by simp; omega) _, grown_then h.gr ((((Below.refl _ W).setCell (by simp; omega) _).setCell (by simp; omega) _).setCell (by simp; omega) _), ?_⟩
  rw [heap_set (heap_set (heap_set h.rb _) _) _]
  rfl
end

set_option maxHeartbeats 4000000 in
theorem l8DrawOp_any (g : Nat) (w : World) (hc : Cur w g) : Calls Tryz.prog 119 #[.pointer (some ⟨g, 0, none⟩)] w (OpOut w g) := by
  have hlt := hc.lt
  have hc0 := hc.alloc (.cells #[.int .i64 0, .int .i64 0, .string ⟨#[]⟩] 30)
  go_enter Tryz.func119, Tryz.ntmps119
  go_wp2_with fail
  refine (l1Below_any g 10 (by decide) (by decide) _ hc0).mono ?_
  rintro e w1 ⟨x, rfl, hx0, hx1, c1, g1⟩
  have hn1 := g1.size
  rw [World.size_alloc] at hn1
  have dw : ∀ a : Int, Dw w g w.heap.size w1.heap.size (w1.alloc (.cells #[.int .i64 a, .int .i64 0, str []] 30)) 0 0 [] a 0 [] := fun a =>
    ⟨hlt, Nat.le_refl _, by omega, c1.alloc _, grown_then (grown_of_alloc _ g1) ((Below.refl _ w1).alloc (by omega) _), ((((Below.refl w1.heap.size w1).alloc (Nat.le_refl _) (.cells #[.int .i64 a, .int .i64 0, str []] 30)).block w.heap.size (by omega))).trans ((g1.block w.heap.size (by simp) (by intro e; injection e with e; omega)).trans (heap_alloc_new _ _)), heap_alloc_new _ _⟩
  clear hc hc0 c1 g1
  rcases (show x = 0 ∨ x = 1 ∨ x = 2 ∨ x = 3 ∨ x = 4 ∨ x = 5 ∨ x = 6 ∨ x = 7 ∨ x = 8 ∨ x = 9 by omega) with rfl | rfl | rfl | rfl | rfl | rfl | rfl | rfl | rfl | rfl
  · have d := dw 1
    clear dw
    have k0 := d.c.1
    go_wp2_with fail
    refine (l1Below_any g 3 (by decide) (by decide) _ d.cur).mono ?_
    rintro e w2 ⟨y, rfl, hy0, hy1, c2, g2⟩
    have d2 := d.step c2 g2
    have d3 := d2.set1 (y)
    have p1 := d2.c.2.1
    have q1 := (d2.f 1).2
    have r0 := d3.c.1
    clear c2 g2 d
    have hZ := Lib.hid (Dw.last d3)
    obtain ⟨p0, p1, p2⟩ := Dw.c d3
    obtain ⟨z0, z1, z2⟩ := Dw.z d3
    have f0 := (Dw.f d3 0).1
    have f1 := (Dw.f d3 1).1
    have f2 := (Dw.f d3 2).1
    unfold set3 at hZ
    go_wp2_with fail
    generalize World.setCell _ _ _ = W6 at hZ ⊢
    obtain ⟨cZ, gZ, bZ⟩ := hZ.out
    have y0 : W6.cell? ⟨w.heap.size, 0, none⟩ = some (.int .i64 1) := by rw [cell_of_row _ _ 0 _ _ (0, 0) bZ]; rfl
    have y1 : W6.cell? ⟨w.heap.size, 1, none⟩ = some (.int .i64 (y)) := by rw [cell_of_row _ _ 1 _ _ (0, 0) bZ]; rfl
    have y2 : W6.cell? ⟨w.heap.size, 2, none⟩ = some (str []) := by rw [cell_of_row _ _ 2 _ _ (0, 0) bZ]; rfl
    exact bodyPost_ret (v := .agg #[.int .i64 1, .int .i64 (y), str []]) (by simp [results, Tryz.results119, go_sem, y0, y1, y2]) rfl ⟨(1, (y), []), rfl, by simp, cZ, gZ⟩
  · have d := dw 2
    clear dw
    have k0 := d.c.1
    go_wp2_with fail
    refine (l5DrawName_any g _ d.cur).mono ?_
    rintro e w3 ⟨t, rfl, ht, c3, g3⟩
    have d4 := d.step c3 g3
    have d5 := d4.set2 t
    have p3 := d4.c.2.2
    have q3 := (d4.f 2).2
    clear c3 g3 d
    have r4 := d5.c.1
    have hZ := Lib.hid (Dw.last d5)
    obtain ⟨p0, p1, p2⟩ := Dw.c d5
    obtain ⟨z0, z1, z2⟩ := Dw.z d5
    have f0 := (Dw.f d5 0).1
    have f1 := (Dw.f d5 1).1
    have f2 := (Dw.f d5 2).1
    unfold set3 at hZ
    go_wp2_with fail
    generalize World.setCell _ _ _ = W6 at hZ ⊢
    obtain ⟨cZ, gZ, bZ⟩ := hZ.out
    have y0 : W6.cell? ⟨w.heap.size, 0, none⟩ = some (.int .i64 2) := by rw [cell_of_row _ _ 0 _ _ (0, 0) bZ]; rfl
    have y1 : W6.cell? ⟨w.heap.size, 1, none⟩ = some (.int .i64 0) := by rw [cell_of_row _ _ 1 _ _ (0, 0) bZ]; rfl
    have y2 : W6.cell? ⟨w.heap.size, 2, none⟩ = some (str t) := by rw [cell_of_row _ _ 2 _ _ (0, 0) bZ]; rfl
    exact bodyPost_ret (v := .agg #[.int .i64 2, .int .i64 0, str t]) (by simp [results, Tryz.results119, go_sem, y0, y1, y2]) rfl ⟨(2, 0, t), rfl, ht, cZ, gZ⟩
  · have d := dw 3
    clear dw
    have k0 := d.c.1
    go_wp2_with fail
    refine (l1Below_any g 6 (by decide) (by decide) _ d.cur).mono ?_
    rintro e w2 ⟨y, rfl, hy0, hy1, c2, g2⟩
    have d2 := d.step c2 g2
    have d3 := d2.set1 (1 + y)
    have p1 := d2.c.2.1
    have q1 := (d2.f 1).2
    have r0 := d3.c.1
    clear c2 g2 d
    have hZ := Lib.hid (Dw.last d3)
    obtain ⟨p0, p1, p2⟩ := Dw.c d3
    obtain ⟨z0, z1, z2⟩ := Dw.z d3
    have f0 := (Dw.f d3 0).1
    have f1 := (Dw.f d3 1).1
    have f2 := (Dw.f d3 2).1
    unfold set3 at hZ
    go_wp2_with fail
    generalize World.setCell _ _ _ = W6 at hZ ⊢
    obtain ⟨cZ, gZ, bZ⟩ := hZ.out
    have y0 : W6.cell? ⟨w.heap.size, 0, none⟩ = some (.int .i64 3) := by rw [cell_of_row _ _ 0 _ _ (0, 0) bZ]; rfl
    have y1 : W6.cell? ⟨w.heap.size, 1, none⟩ = some (.int .i64 (1 + y)) := by rw [cell_of_row _ _ 1 _ _ (0, 0) bZ]; rfl
    have y2 : W6.cell? ⟨w.heap.size, 2, none⟩ = some (str []) := by rw [cell_of_row _ _ 2 _ _ (0, 0) bZ]; rfl
    exact bodyPost_ret (v := .agg #[.int .i64 3, .int .i64 (1 + y), str []]) (by simp [results, Tryz.results119, go_sem, y0, y1, y2]) rfl ⟨(3, (1 + y), []), rfl, by simp, cZ, gZ⟩
  · have d := dw 4
    clear dw
    have k0 := d.c.1
    go_wp2_with fail
    refine (l5DrawName_any g _ d.cur).mono ?_
    rintro e w3 ⟨t, rfl, ht, c3, g3⟩
    have d4 := d.step c3 g3
    have d5 := d4.set2 t
    have p3 := d4.c.2.2
    have q3 := (d4.f 2).2
    clear c3 g3 d
    have r4 := d5.c.1
    have hZ := Lib.hid (Dw.last d5)
    obtain ⟨p0, p1, p2⟩ := Dw.c d5
    obtain ⟨z0, z1, z2⟩ := Dw.z d5
    have f0 := (Dw.f d5 0).1
    have f1 := (Dw.f d5 1).1
    have f2 := (Dw.f d5 2).1
    unfold set3 at hZ
    go_wp2_with fail
    generalize World.setCell _ _ _ = W6 at hZ ⊢
    obtain ⟨cZ, gZ, bZ⟩ := hZ.out
    have y0 : W6.cell? ⟨w.heap.size, 0, none⟩ = some (.int .i64 4) := by rw [cell_of_row _ _ 0 _ _ (0, 0) bZ]; rfl
    have y1 : W6.cell? ⟨w.heap.size, 1, none⟩ = some (.int .i64 0) := by rw [cell_of_row _ _ 1 _ _ (0, 0) bZ]; rfl
    have y2 : W6.cell? ⟨w.heap.size, 2, none⟩ = some (str t) := by rw [cell_of_row _ _ 2 _ _ (0, 0) bZ]; rfl
    exact bodyPost_ret (v := .agg #[.int .i64 4, .int .i64 0, str t]) (by simp [results, Tryz.results119, go_sem, y0, y1, y2]) rfl ⟨(4, 0, t), rfl, ht, cZ, gZ⟩
  · have d := dw 5
    clear dw
    have k0 := d.c.1
    go_wp2_with fail
    refine (l1Below_any g 3 (by decide) (by decide) _ d.cur).mono ?_
    rintro e w2 ⟨y, rfl, hy0, hy1, c2, g2⟩
    have d2 := d.step c2 g2
    have d3 := d2.set1 (y)
    have p1 := d2.c.2.1
    have q1 := (d2.f 1).2
    have r0 := d3.c.1
    clear c2 g2 d
    go_wp2_with fail
    refine (l5DrawName_any g _ d3.cur).mono ?_
    rintro e w3 ⟨t, rfl, ht, c3, g3⟩
    have d4 := d3.step c3 g3
    have d5 := d4.set2 t
    have p3 := d4.c.2.2
    have q3 := (d4.f 2).2
    clear c3 g3 d3
    have hZ := Lib.hid (Dw.last d5)
    obtain ⟨p0, p1, p2⟩ := Dw.c d5
    obtain ⟨z0, z1, z2⟩ := Dw.z d5
    have f0 := (Dw.f d5 0).1
    have f1 := (Dw.f d5 1).1
    have f2 := (Dw.f d5 2).1
    unfold set3 at hZ
    go_wp2_with fail
    generalize World.setCell _ _ _ = W6 at hZ ⊢
    obtain ⟨cZ, gZ, bZ⟩ := hZ.out
    have y0 : W6.cell? ⟨w.heap.size, 0, none⟩ = some (.int .i64 5) := by rw [cell_of_row _ _ 0 _ _ (0, 0) bZ]; rfl
    have y1 : W6.cell? ⟨w.heap.size, 1, none⟩ = some (.int .i64 (y)) := by rw [cell_of_row _ _ 1 _ _ (0, 0) bZ]; rfl
    have y2 : W6.cell? ⟨w.heap.size, 2, none⟩ = some (str t) := by rw [cell_of_row _ _ 2 _ _ (0, 0) bZ]; rfl
    exact bodyPost_ret (v := .agg #[.int .i64 5, .int .i64 (y), str t]) (by simp [results, Tryz.results119, go_sem, y0, y1, y2]) rfl ⟨(5, (y), t), rfl, ht, cZ, gZ⟩
  · have d := dw 6
    clear dw
    have k0 := d.c.1
    go_wp2_with fail
    refine (l1Below_any g 3 (by decide) (by decide) _ d.cur).mono ?_
    rintro e w2 ⟨y, rfl, hy0, hy1, c2, g2⟩
    have d2 := d.step c2 g2
    have d3 := d2.set1 (y)
    have p1 := d2.c.2.1
    have q1 := (d2.f 1).2
    have r0 := d3.c.1
    clear c2 g2 d
    have hZ := Lib.hid (Dw.last d3)
    obtain ⟨p0, p1, p2⟩ := Dw.c d3
    obtain ⟨z0, z1, z2⟩ := Dw.z d3
    have f0 := (Dw.f d3 0).1
    have f1 := (Dw.f d3 1).1
    have f2 := (Dw.f d3 2).1
    unfold set3 at hZ
    go_wp2_with fail
    generalize World.setCell _ _ _ = W6 at hZ ⊢
    obtain ⟨cZ, gZ, bZ⟩ := hZ.out
    have y0 : W6.cell? ⟨w.heap.size, 0, none⟩ = some (.int .i64 6) := by rw [cell_of_row _ _ 0 _ _ (0, 0) bZ]; rfl
    have y1 : W6.cell? ⟨w.heap.size, 1, none⟩ = some (.int .i64 (y)) := by rw [cell_of_row _ _ 1 _ _ (0, 0) bZ]; rfl
    have y2 : W6.cell? ⟨w.heap.size, 2, none⟩ = some (str []) := by rw [cell_of_row _ _ 2 _ _ (0, 0) bZ]; rfl
    exact bodyPost_ret (v := .agg #[.int .i64 6, .int .i64 (y), str []]) (by simp [results, Tryz.results119, go_sem, y0, y1, y2]) rfl ⟨(6, (y), []), rfl, by simp, cZ, gZ⟩
  · have d := dw 7
    clear dw
    have k0 := d.c.1
    go_wp2_with fail
    refine (l1Below_any g 9 (by decide) (by decide) _ d.cur).mono ?_
    rintro e w2 ⟨y, rfl, hy0, hy1, c2, g2⟩
    have d2 := d.step c2 g2
    have d3 := d2.set1 (y)
    have p1 := d2.c.2.1
    have q1 := (d2.f 1).2
    have r0 := d3.c.1
    clear c2 g2 d
    have hZ := Lib.hid (Dw.last d3)
    obtain ⟨p0, p1, p2⟩ := Dw.c d3
    obtain ⟨z0, z1, z2⟩ := Dw.z d3
    have f0 := (Dw.f d3 0).1
    have f1 := (Dw.f d3 1).1
    have f2 := (Dw.f d3 2).1
    unfold set3 at hZ
    go_wp2_with fail
    generalize World.setCell _ _ _ = W6 at hZ ⊢
    obtain ⟨cZ, gZ, bZ⟩ := hZ.out
    have y0 : W6.cell? ⟨w.heap.size, 0, none⟩ = some (.int .i64 7) := by rw [cell_of_row _ _ 0 _ _ (0, 0) bZ]; rfl
    have y1 : W6.cell? ⟨w.heap.size, 1, none⟩ = some (.int .i64 (y)) := by rw [cell_of_row _ _ 1 _ _ (0, 0) bZ]; rfl
    have y2 : W6.cell? ⟨w.heap.size, 2, none⟩ = some (str []) := by rw [cell_of_row _ _ 2 _ _ (0, 0) bZ]; rfl
    exact bodyPost_ret (v := .agg #[.int .i64 7, .int .i64 (y), str []]) (by simp [results, Tryz.results119, go_sem, y0, y1, y2]) rfl ⟨(7, (y), []), rfl, by simp, cZ, gZ⟩
  · have d := dw 8
    clear dw
    have k0 := d.c.1
    go_wp2_with fail
    refine (l1Below_any g 9 (by decide) (by decide) _ d.cur).mono ?_
    rintro e w2 ⟨y, rfl, hy0, hy1, c2, g2⟩
    have d2 := d.step c2 g2
    have d3 := d2.set1 (y)
    have p1 := d2.c.2.1
    have q1 := (d2.f 1).2
    have r0 := d3.c.1
    clear c2 g2 d
    have hZ := Lib.hid (Dw.last d3)
    obtain ⟨p0, p1, p2⟩ := Dw.c d3
    obtain ⟨z0, z1, z2⟩ := Dw.z d3
    have f0 := (Dw.f d3 0).1
    have f1 := (Dw.f d3 1).1
    have f2 := (Dw.f d3 2).1
    unfold set3 at hZ
    go_wp2_with fail
    generalize World.setCell _ _ _ = W6 at hZ ⊢
    obtain ⟨cZ, gZ, bZ⟩ := hZ.out
    have y0 : W6.cell? ⟨w.heap.size, 0, none⟩ = some (.int .i64 8) := by rw [cell_of_row _ _ 0 _ _ (0, 0) bZ]; rfl
    have y1 : W6.cell? ⟨w.heap.size, 1, none⟩ = some (.int .i64 (y)) := by rw [cell_of_row _ _ 1 _ _ (0, 0) bZ]; rfl
    have y2 : W6.cell? ⟨w.heap.size, 2, none⟩ = some (str []) := by rw [cell_of_row _ _ 2 _ _ (0, 0) bZ]; rfl
    exact bodyPost_ret (v := .agg #[.int .i64 8, .int .i64 (y), str []]) (by simp [results, Tryz.results119, go_sem, y0, y1, y2]) rfl ⟨(8, (y), []), rfl, by simp, cZ, gZ⟩
  · have d := dw 9
    clear dw
    have k0 := d.c.1
    have hZ := Lib.hid (Dw.last d)
    obtain ⟨p0, p1, p2⟩ := Dw.c d
    obtain ⟨z0, z1, z2⟩ := Dw.z d
    have f0 := (Dw.f d 0).1
    have f1 := (Dw.f d 1).1
    have f2 := (Dw.f d 2).1
    unfold set3 at hZ
    go_wp2_with fail
    generalize World.setCell _ _ _ = W6 at hZ ⊢
    obtain ⟨cZ, gZ, bZ⟩ := hZ.out
    have y0 : W6.cell? ⟨w.heap.size, 0, none⟩ = some (.int .i64 9) := by rw [cell_of_row _ _ 0 _ _ (0, 0) bZ]; rfl
    have y1 : W6.cell? ⟨w.heap.size, 1, none⟩ = some (.int .i64 0) := by rw [cell_of_row _ _ 1 _ _ (0, 0) bZ]; rfl
    have y2 : W6.cell? ⟨w.heap.size, 2, none⟩ = some (str []) := by rw [cell_of_row _ _ 2 _ _ (0, 0) bZ]; rfl
    exact bodyPost_ret (v := .agg #[.int .i64 9, .int .i64 0, str []]) (by simp [results, Tryz.results119, go_sem, y0, y1, y2]) rfl ⟨(9, 0, []), rfl, by simp, cZ, gZ⟩
  · have d := dw 10
    clear dw
    have k0 := d.c.1
    have hZ := Lib.hid (Dw.last d)
    obtain ⟨p0, p1, p2⟩ := Dw.c d
    obtain ⟨z0, z1, z2⟩ := Dw.z d
    have f0 := (Dw.f d 0).1
    have f1 := (Dw.f d 1).1
    have f2 := (Dw.f d 2).1
    unfold set3 at hZ
    go_wp2_with fail
    generalize World.setCell _ _ _ = W6 at hZ ⊢
    obtain ⟨cZ, gZ, bZ⟩ := hZ.out
    have y0 : W6.cell? ⟨w.heap.size, 0, none⟩ = some (.int .i64 10) := by rw [cell_of_row _ _ 0 _ _ (0, 0) bZ]; rfl
    have y1 : W6.cell? ⟨w.heap.size, 1, none⟩ = some (.int .i64 0) := by rw [cell_of_row _ _ 1 _ _ (0, 0) bZ]; rfl
    have y2 : W6.cell? ⟨w.heap.size, 2, none⟩ = some (str []) := by rw [cell_of_row _ _ 2 _ _ (0, 0) bZ]; rfl
    exact bodyPost_ret (v := .agg #[.int .i64 10, .int .i64 0, str []]) (by simp [results, Tryz.results119, go_sem, y0, y1, y2]) rfl ⟨(10, 0, []), rfl, by simp, cZ, gZ⟩

end Go.Proofs.YtjcmfdgphhonhaaGreatDoor

namespace Go.Proofs.YtjcmfdgphhonhaaGreatDoor
open Go.RowKit
set_option linter.unusedVariables false

theorem Dw.alloc {w : World} {g R N : Nat} {W : World} {x0 x1 : Int} {x2 : Txt} {a n : Int} {s : Txt} (h : Dw w g R N W x0 x1 x2 a n s) (o : Obj) : Dw w g R N (W.alloc o) x0 x1 x2 a n s :=
  h.step (h.cur.alloc o) (grown_of_below ((Below.refl _ W).alloc (Nat.le_refl _) o) _)

set_option maxHeartbeats 4000000 in
theorem l8DrawAny_any (g : Nat) (w : World) (hc : Cur w g) : Calls Tryz.prog 60 #[.pointer (some ⟨g, 0, none⟩)] w (OpOut w g) := by
  have hlt := hc.lt
  have hc0 := hc.alloc (.cells #[.int .i64 0, .int .i64 0, .string ⟨#[]⟩] 30)
  go_enter Tryz.func60, Tryz.ntmps60
  go_wp2_with fail
  refine (l8DrawOp_any g _ hc0).mono ?_
  rintro e w1 ⟨⟨a, n, s⟩, rfl, ho, c1, g1⟩
  have hn1 := g1.size
  rw [World.size_alloc] at hn1
  have d : Dw w g w.heap.size w1.heap.size (w1.alloc (.cells #[.int .i64 a, .int .i64 n, str s] 30)) 0 0 [] a n s :=
    ⟨hlt, Nat.le_refl _, by omega, c1.alloc _, grown_then (grown_of_alloc _ g1) ((Below.refl _ w1).alloc (by omega) _), ((((Below.refl w1.heap.size w1).alloc (Nat.le_refl _) (.cells #[.int .i64 a, .int .i64 n, str s] 30)).block w.heap.size (by omega))).trans ((g1.block w.heap.size (by simp) (by intro e; injection e with e; omega)).trans (heap_alloc_new _ _)), heap_alloc_new _ _⟩
  clear hc hc0 c1 g1
  dsimp only at ho ⊢
  go_wp2_with fail
  refine (l1Once_any g _ (by decide) (by decide) _ d.cur).mono ?_
  rintro e w2 ⟨b, rfl, c2, g2⟩
  have d2 := d.step c2 g2
  clear c2 g2 d
  cases b
  · 
    have hZ := Lib.hid (Dw.last d2)
    obtain ⟨p0, p1, p2⟩ := Dw.c d2
    obtain ⟨z0, z1, z2⟩ := Dw.z d2
    have f0 := (Dw.f d2 0).1
    have f1 := (Dw.f d2 1).1
    have f2 := (Dw.f d2 2).1
    unfold set3 at hZ
    go_wp2_with fail
    generalize World.setCell _ _ _ = W6 at hZ ⊢
    obtain ⟨cZ, gZ, bZ⟩ := hZ.out
    have y0 : W6.cell? ⟨w.heap.size, 0, none⟩ = some (.int .i64 a) := by rw [cell_of_row _ _ 0 _ _ (0, 0) bZ]; rfl
    have y1 : W6.cell? ⟨w.heap.size, 1, none⟩ = some (.int .i64 n) := by rw [cell_of_row _ _ 1 _ _ (0, 0) bZ]; rfl
    have y2 : W6.cell? ⟨w.heap.size, 2, none⟩ = some (str s) := by rw [cell_of_row _ _ 2 _ _ (0, 0) bZ]; rfl
    exact bodyPost_ret (v := .agg #[.int .i64 a, .int .i64 n, str s]) (by simp [results, Tryz.results60, go_sem, y0, y1, y2]) rfl ⟨(a, n, s), rfl, ho, cZ, gZ⟩
  · go_wp2_with fail
    refine (l1Below_any g _ (by decide) (by decide) _ d2.cur).mono ?_
    rintro e w3 ⟨y, rfl, hy0, hy1, c3, g3⟩
    have d3 := d2.step c3 g3
    clear c3 g3 d2
    rcases (show y = 0 ∨ y = 1 ∨ y = 2 by omega) with rfl | rfl | rfl
    · go_wp2_with fail
      refine (l1From_any g (-1) 11 (by decide) (by decide) (by decide) (by decide) _ d3.cur).mono ?_
      rintro e w4 ⟨z, rfl, hz0, hz1, c4, g4⟩
      have d4 := d3.step c4 g4
      have d5 := d4.set0 z
      have q0 := d4.c.1
      have k0 := (d4.f 0).2
      clear c4 g4 d3
      have hZ := Lib.hid (Dw.last d5)
      obtain ⟨p0, p1, p2⟩ := Dw.c d5
      obtain ⟨z0, z1, z2⟩ := Dw.z d5
      have f0 := (Dw.f d5 0).1
      have f1 := (Dw.f d5 1).1
      have f2 := (Dw.f d5 2).1
      unfold set3 at hZ
      go_wp2_with fail
      generalize World.setCell _ _ _ = W6 at hZ ⊢
      obtain ⟨cZ, gZ, bZ⟩ := hZ.out
      have y0 : W6.cell? ⟨w.heap.size, 0, none⟩ = some (.int .i64 z) := by rw [cell_of_row _ _ 0 _ _ (0, 0) bZ]; rfl
      have y1 : W6.cell? ⟨w.heap.size, 1, none⟩ = some (.int .i64 n) := by rw [cell_of_row _ _ 1 _ _ (0, 0) bZ]; rfl
      have y2 : W6.cell? ⟨w.heap.size, 2, none⟩ = some (str s) := by rw [cell_of_row _ _ 2 _ _ (0, 0) bZ]; rfl
      exact bodyPost_ret (v := .agg #[.int .i64 z, .int .i64 n, str s]) (by simp [results, Tryz.results60, go_sem, y0, y1, y2]) rfl ⟨(z, n, s), rfl, ho, cZ, gZ⟩
    · have hA0 := heap_alloc_new w3 (.cells #[.int .i64 (-1), .int .i64 3, .int .i64 4, .int .i64 300, .int .i64 301, .int .i64 1099511627776] 2)
      have dA := d3.alloc (.cells #[.int .i64 (-1), .int .i64 3, .int .i64 4, .int .i64 300, .int .i64 301, .int .i64 1099511627776] 2)
      have hg3 : g < w3.heap.size := d3.cur.lt
      clear d3
      go_wp2_with fail
      refine (l1Below_any g _ (by decide) (by decide) _ dA.cur).mono ?_
      rintro e w5 ⟨z, rfl, hz0, hz1, c5, g5⟩
      have hA := (g5.block w3.heap.size (by simp) (by intro e; injection e with e; omega)).trans hA0
      have d5 := dA.step c5 g5
      have q1 := d5.c.2.1
      have k1 := (d5.f 1).2
      clear c5 g5 hA0 dA
      rcases (show z = 0 ∨ z = 1 ∨ z = 2 ∨ z = 3 ∨ z = 4 ∨ z = 5 by omega) with rfl | rfl | rfl | rfl | rfl | rfl
      · have v0 : w5.cell? ⟨w3.heap.size, 0, none⟩ = some (.int .i64 (-1)) := by rw [cell_of_row _ _ 0 _ _ (0, 0) hA]; rfl
        have d7 := d5.set1 (-1)
        clear hA
        have hZ := Lib.hid (Dw.last d7)
        obtain ⟨p0, p1, p2⟩ := Dw.c d7
        obtain ⟨z0, z1, z2⟩ := Dw.z d7
        have f0 := (Dw.f d7 0).1
        have f1 := (Dw.f d7 1).1
        have f2 := (Dw.f d7 2).1
        unfold set3 at hZ
        go_wp2_with fail
        generalize World.setCell _ _ _ = W6 at hZ ⊢
        obtain ⟨cZ, gZ, bZ⟩ := hZ.out
        have y0 : W6.cell? ⟨w.heap.size, 0, none⟩ = some (.int .i64 a) := by rw [cell_of_row _ _ 0 _ _ (0, 0) bZ]; rfl
        have y1 : W6.cell? ⟨w.heap.size, 1, none⟩ = some (.int .i64 ((-1))) := by rw [cell_of_row _ _ 1 _ _ (0, 0) bZ]; rfl
        have y2 : W6.cell? ⟨w.heap.size, 2, none⟩ = some (str s) := by rw [cell_of_row _ _ 2 _ _ (0, 0) bZ]; rfl
        exact bodyPost_ret (v := .agg #[.int .i64 a, .int .i64 ((-1)), str s]) (by simp [results, Tryz.results60, go_sem, y0, y1, y2]) rfl ⟨(a, ((-1)), s), rfl, ho, cZ, gZ⟩
      · have v0 : w5.cell? ⟨w3.heap.size, 1, none⟩ = some (.int .i64 3) := by rw [cell_of_row _ _ 1 _ _ (0, 0) hA]; rfl
        have d7 := d5.set1 3
        clear hA
        have hZ := Lib.hid (Dw.last d7)
        obtain ⟨p0, p1, p2⟩ := Dw.c d7
        obtain ⟨z0, z1, z2⟩ := Dw.z d7
        have f0 := (Dw.f d7 0).1
        have f1 := (Dw.f d7 1).1
        have f2 := (Dw.f d7 2).1
        unfold set3 at hZ
        go_wp2_with fail
        generalize World.setCell _ _ _ = W6 at hZ ⊢
        obtain ⟨cZ, gZ, bZ⟩ := hZ.out
        have y0 : W6.cell? ⟨w.heap.size, 0, none⟩ = some (.int .i64 a) := by rw [cell_of_row _ _ 0 _ _ (0, 0) bZ]; rfl
        have y1 : W6.cell? ⟨w.heap.size, 1, none⟩ = some (.int .i64 (3)) := by rw [cell_of_row _ _ 1 _ _ (0, 0) bZ]; rfl
        have y2 : W6.cell? ⟨w.heap.size, 2, none⟩ = some (str s) := by rw [cell_of_row _ _ 2 _ _ (0, 0) bZ]; rfl
        exact bodyPost_ret (v := .agg #[.int .i64 a, .int .i64 (3), str s]) (by simp [results, Tryz.results60, go_sem, y0, y1, y2]) rfl ⟨(a, (3), s), rfl, ho, cZ, gZ⟩
      · have v0 : w5.cell? ⟨w3.heap.size, 2, none⟩ = some (.int .i64 4) := by rw [cell_of_row _ _ 2 _ _ (0, 0) hA]; rfl
        have d7 := d5.set1 4
        clear hA
        have hZ := Lib.hid (Dw.last d7)
        obtain ⟨p0, p1, p2⟩ := Dw.c d7
        obtain ⟨z0, z1, z2⟩ := Dw.z d7
        have f0 := (Dw.f d7 0).1
        have f1 := (Dw.f d7 1).1
        have f2 := (Dw.f d7 2).1
        unfold set3 at hZ
        go_wp2_with fail
        generalize World.setCell _ _ _ = W6 at hZ ⊢
        obtain ⟨cZ, gZ, bZ⟩ := hZ.out
        have y0 : W6.cell? ⟨w.heap.size, 0, none⟩ = some (.int .i64 a) := by rw [cell_of_row _ _ 0 _ _ (0, 0) bZ]; rfl
        have y1 : W6.cell? ⟨w.heap.size, 1, none⟩ = some (.int .i64 (4)) := by rw [cell_of_row _ _ 1 _ _ (0, 0) bZ]; rfl
        have y2 : W6.cell? ⟨w.heap.size, 2, none⟩ = some (str s) := by rw [cell_of_row _ _ 2 _ _ (0, 0) bZ]; rfl
        exact bodyPost_ret (v := .agg #[.int .i64 a, .int .i64 (4), str s]) (by simp [results, Tryz.results60, go_sem, y0, y1, y2]) rfl ⟨(a, (4), s), rfl, ho, cZ, gZ⟩
      · have v0 : w5.cell? ⟨w3.heap.size, 3, none⟩ = some (.int .i64 300) := by rw [cell_of_row _ _ 3 _ _ (0, 0) hA]; rfl
        have d7 := d5.set1 300
        clear hA
        have hZ := Lib.hid (Dw.last d7)
        obtain ⟨p0, p1, p2⟩ := Dw.c d7
        obtain ⟨z0, z1, z2⟩ := Dw.z d7
        have f0 := (Dw.f d7 0).1
        have f1 := (Dw.f d7 1).1
        have f2 := (Dw.f d7 2).1
        unfold set3 at hZ
        go_wp2_with fail
        generalize World.setCell _ _ _ = W6 at hZ ⊢
        obtain ⟨cZ, gZ, bZ⟩ := hZ.out
        have y0 : W6.cell? ⟨w.heap.size, 0, none⟩ = some (.int .i64 a) := by rw [cell_of_row _ _ 0 _ _ (0, 0) bZ]; rfl
        have y1 : W6.cell? ⟨w.heap.size, 1, none⟩ = some (.int .i64 (300)) := by rw [cell_of_row _ _ 1 _ _ (0, 0) bZ]; rfl
        have y2 : W6.cell? ⟨w.heap.size, 2, none⟩ = some (str s) := by rw [cell_of_row _ _ 2 _ _ (0, 0) bZ]; rfl
        exact bodyPost_ret (v := .agg #[.int .i64 a, .int .i64 (300), str s]) (by simp [results, Tryz.results60, go_sem, y0, y1, y2]) rfl ⟨(a, (300), s), rfl, ho, cZ, gZ⟩
      · have v0 : w5.cell? ⟨w3.heap.size, 4, none⟩ = some (.int .i64 301) := by rw [cell_of_row _ _ 4 _ _ (0, 0) hA]; rfl
        have d7 := d5.set1 301
        clear hA
        have hZ := Lib.hid (Dw.last d7)
        obtain ⟨p0, p1, p2⟩ := Dw.c d7
        obtain ⟨z0, z1, z2⟩ := Dw.z d7
        have f0 := (Dw.f d7 0).1
        have f1 := (Dw.f d7 1).1
        have f2 := (Dw.f d7 2).1
        unfold set3 at hZ
        go_wp2_with fail
        generalize World.setCell _ _ _ = W6 at hZ ⊢
        obtain ⟨cZ, gZ, bZ⟩ := hZ.out
        have y0 : W6.cell? ⟨w.heap.size, 0, none⟩ = some (.int .i64 a) := by rw [cell_of_row _ _ 0 _ _ (0, 0) bZ]; rfl
        have y1 : W6.cell? ⟨w.heap.size, 1, none⟩ = some (.int .i64 (301)) := by rw [cell_of_row _ _ 1 _ _ (0, 0) bZ]; rfl
        have y2 : W6.cell? ⟨w.heap.size, 2, none⟩ = some (str s) := by rw [cell_of_row _ _ 2 _ _ (0, 0) bZ]; rfl
        exact bodyPost_ret (v := .agg #[.int .i64 a, .int .i64 (301), str s]) (by simp [results, Tryz.results60, go_sem, y0, y1, y2]) rfl ⟨(a, (301), s), rfl, ho, cZ, gZ⟩
      · have v0 : w5.cell? ⟨w3.heap.size, 5, none⟩ = some (.int .i64 1099511627776) := by rw [cell_of_row _ _ 5 _ _ (0, 0) hA]; rfl
        have d7 := d5.set1 1099511627776
        clear hA
        have hZ := Lib.hid (Dw.last d7)
        obtain ⟨p0, p1, p2⟩ := Dw.c d7
        obtain ⟨z0, z1, z2⟩ := Dw.z d7
        have f0 := (Dw.f d7 0).1
        have f1 := (Dw.f d7 1).1
        have f2 := (Dw.f d7 2).1
        unfold set3 at hZ
        go_wp2_with fail
        generalize World.setCell _ _ _ = W6 at hZ ⊢
        obtain ⟨cZ, gZ, bZ⟩ := hZ.out
        have y0 : W6.cell? ⟨w.heap.size, 0, none⟩ = some (.int .i64 a) := by rw [cell_of_row _ _ 0 _ _ (0, 0) bZ]; rfl
        have y1 : W6.cell? ⟨w.heap.size, 1, none⟩ = some (.int .i64 (1099511627776)) := by rw [cell_of_row _ _ 1 _ _ (0, 0) bZ]; rfl
        have y2 : W6.cell? ⟨w.heap.size, 2, none⟩ = some (str s) := by rw [cell_of_row _ _ 2 _ _ (0, 0) bZ]; rfl
        exact bodyPost_ret (v := .agg #[.int .i64 a, .int .i64 (1099511627776), str s]) (by simp [results, Tryz.results60, go_sem, y0, y1, y2]) rfl ⟨(a, (1099511627776), s), rfl, ho, cZ, gZ⟩
    · go_wp2_with fail
      refine (l5DrawNameAny_any g _ d3.cur).mono ?_
      rintro e w4 ⟨t, rfl, ht, c4, g4⟩
      have d4 := d3.step c4 g4
      have d5 := d4.set2 t
      have q0 := d4.c.2.2
      have k0 := (d4.f 2).2
      clear c4 g4 d3
      have hZ := Lib.hid (Dw.last d5)
      obtain ⟨p0, p1, p2⟩ := Dw.c d5
      obtain ⟨z0, z1, z2⟩ := Dw.z d5
      have f0 := (Dw.f d5 0).1
      have f1 := (Dw.f d5 1).1
      have f2 := (Dw.f d5 2).1
      unfold set3 at hZ
      go_wp2_with fail
      generalize World.setCell _ _ _ = W6 at hZ ⊢
      obtain ⟨cZ, gZ, bZ⟩ := hZ.out
      have y0 : W6.cell? ⟨w.heap.size, 0, none⟩ = some (.int .i64 a) := by rw [cell_of_row _ _ 0 _ _ (0, 0) bZ]; rfl
      have y1 : W6.cell? ⟨w.heap.size, 1, none⟩ = some (.int .i64 n) := by rw [cell_of_row _ _ 1 _ _ (0, 0) bZ]; rfl
      have y2 : W6.cell? ⟨w.heap.size, 2, none⟩ = some (str t) := by rw [cell_of_row _ _ 2 _ _ (0, 0) bZ]; rfl
      exact bodyPost_ret (v := .agg #[.int .i64 a, .int .i64 n, str t]) (by simp [results, Tryz.results60, go_sem, y0, y1, y2]) rfl ⟨(a, n, t), rfl, ht, cZ, gZ⟩

end Go.Proofs.YtjcmfdgphhonhaaGreatDoor
