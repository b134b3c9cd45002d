/- The laws' own helpers on Cores: their size, a copy, whether two are equal, marks in them. No conditions but those typed. -/
import Derived.Test.YtigcbegeaikfcaaDoorLawA
import Derived.Test.YtigcbegeaikfcaaDoorBoxL
import Derived.Test.YtigcbegeaikfcaaDoorLowT
import Derived.Deep.Cut
namespace Go.Proofs.YtigcbegeaikfcaaDoor
open Go.RowKit
set_option linter.unusedVariables false

theorem cells5 {w : World} {g : Nat} {a b c d e : Value} {T : TypeId} (h : w.heap[g]? = some (.cells #[a, b, c, d, e] T (0, 0))) :
    w.cell? ⟨g, 0, none⟩ = some a ∧ w.cell? ⟨g, 1, none⟩ = some b ∧ w.cell? ⟨g, 2, none⟩ = some c ∧ w.cell? ⟨g, 3, none⟩ = some d ∧ w.cell? ⟨g, 4, none⟩ = some e :=
  ⟨by rw [cell_of_row _ _ 0 _ _ (0, 0) h]; rfl, by rw [cell_of_row _ _ 1 _ _ (0, 0) h]; rfl, by rw [cell_of_row _ _ 2 _ _ (0, 0) h]; rfl, by rw [cell_of_row _ _ 3 _ _ (0, 0) h]; rfl, by rw [cell_of_row _ _ 4 _ _ (0, 0) h]; rfl⟩
theorem heap_lt {w : World} {g : Nat} {o : Obj} (h : w.heap[g]? = some o) : g < w.heap.size := (Array.getElem?_eq_some_iff.1 h).1
theorem row_later {w w' : World} {g : Nat} {o : Obj} (h : w.heap[g]? = some o) (b : Below w.heap.size w w') : w'.heap[g]? = some o := (b.block g (heap_lt h)).trans h
theorem alloc_old {w : World} {g : Nat} {o : Obj} (h : w.heap[g]? = some o) (u : Obj) : (w.alloc u).heap[g]? = some o :=
  row_later h ((Below.refl _ _).alloc (Nat.le_refl _) _)
theorem below_new (w : World) (o : Obj) : Below w.heap.size w (w.alloc o) := (Below.refl _ _).alloc (Nat.le_refl _) _

theorem hold10 {W w' : World} {n m : Nat} {a0 a1 a2 a3 a4 b0 b1 b2 b3 b4 : Value} {t u : TypeId} (R : W.heap[n]? = some (.cells #[a0, a1, a2, a3, a4] t (0, 0))) (S : W.heap[m]? = some (.cells #[b0, b1, b2, b3, b4] u (0, 0))) (k : Below W.heap.size W w') :
    (w'.cell? ⟨n, 0, none⟩ = some a0 ∧ w'.cell? ⟨n, 1, none⟩ = some a1 ∧ w'.cell? ⟨n, 2, none⟩ = some a2 ∧ w'.cell? ⟨n, 3, none⟩ = some a3 ∧ w'.cell? ⟨n, 4, none⟩ = some a4) ∧
    (w'.cell? ⟨m, 0, none⟩ = some b0 ∧ w'.cell? ⟨m, 1, none⟩ = some b1 ∧ w'.cell? ⟨m, 2, none⟩ = some b2 ∧ w'.cell? ⟨m, 3, none⟩ = some b3 ∧ w'.cell? ⟨m, 4, none⟩ = some b4) ∧ Below W.heap.size W w' :=
  ⟨cells5 (row_later R k), cells5 (row_later S k), k⟩

/-- How much room is left behind a core's three rows; -1: there was not enough. -/
def szC (left : Int) (zs : List Int) (bs : List Bx) (rs : List Int) : Int :=
  if szB left zs.length < 0 then -1 else if szL (szB left zs.length) (nmLens bs) < 0 then -1 else szB (szL (szB left zs.length) (nmLens bs)) rs.length
theorem szB_fits {left n : Int} (h0 : 0 ≤ left) (hn : 0 ≤ n) : (szB left n = -1 ∧ left < n) ∨ (0 ≤ szB left n ∧ szB left n ≤ left ∧ n ≤ left) := by
  unfold szB
  by_cases h : left < n
  · left; exact ⟨by rw [if_pos h], h⟩
  · right; rw [if_neg h]; omega
theorem szC_fits {left : Int} {zs : List Int} {bs : List Bx} {rs : List Int} (h0 : 0 ≤ left) (h1 : left ≤ 1048576) : szC left zs bs rs = -1 ∨
    (0 ≤ szC left zs bs rs ∧ szC left zs bs rs ≤ left ∧ (zs.length : Int) ≤ left ∧ (rs.length : Int) ≤ left ∧ (bs.length : Int) ≤ left ∧ shortB bs) := by
  unfold szC
  rcases szB_fits (left := left) (n := zs.length) h0 (by omega) with ⟨h, _⟩ | ⟨h, h2, h3⟩
  · left; rw [if_pos (by omega)]
  · rw [if_neg (by omega)]
    rcases szL_fits (ls := nmLens bs) h with k | ⟨k, k2, k3, k4⟩
    · left; rw [if_pos (by omega)]
    · rw [if_neg (by omega)]
      have hb := sz_boxes (bs := bs) (left := szB left zs.length) k h (by omega)
      have hl : (nmLens bs).length = bs.length := by simp [nmLens]
      rcases szB_fits (left := szL (szB left zs.length) (nmLens bs)) (n := rs.length) k (by omega) with ⟨m, _⟩ | ⟨m, m2, m3⟩
      · exact .inl m
      · exact .inr ⟨m, by omega, by omega, by omega, by omega, hb.2⟩

/-- Two rows are not one. -/
def apartV (a b : Value) : Prop := ∀ g, a.ownBlock = some g → b.ownBlock = some g → False
theorem apart_lt {w : World} {B : Nat} {e : TypeId} {a b : Value} {n m : Nat} {xs ys : List Value} {k : Nat} (ha : ∀ g, a.ownBlock = some g → g < B) (hb : ∀ g, b.ownBlock = some g → B ≤ g ∧ g < w.heap.size) : apartV a b :=
  fun g h1 h2 => by have := ha g h1; have := (hb g h2).1; omega

def set5 (W : World) (N : Nat) (x0 x1 x2 x3 x4 : Value) : World := ((((W.setCell ⟨N, 0, none⟩ x0).setCell ⟨N, 1, none⟩ x1).setCell ⟨N, 2, none⟩ x2).setCell ⟨N, 3, none⟩ x3).setCell ⟨N, 4, none⟩ x4
theorem set5_blk {W : World} {N : Nat} {t : TypeId} {y0 y1 y2 y3 y4 : Value} (h : W.heap[N]? = some (.cells #[y0, y1, y2, y3, y4] t (0, 0))) (x0 x1 x2 x3 x4 : Value) : (set5 W N x0 x1 x2 x3 x4).heap[N]? = some (.cells #[x0, x1, x2, x3, x4] t (0, 0)) := by
  unfold set5
  rw [heap_set (heap_set (heap_set (heap_set (heap_set h x0) x1) x2) x3) x4]
  simp
theorem set5_below {w W : World} {B N : Nat} (h : Below B w W) (hN : B ≤ N) (x0 x1 x2 x3 x4 : Value) : Below B w (set5 W N x0 x1 x2 x3 x4) :=
  ((((h.setCell hN _).setCell hN _).setCell hN _).setCell hN _).setCell hN _
theorem set5_own {W : World} {N B k : Nat} {e : TypeId} {v : Value} {n : Nat} {xs : List Value} (h : W.ownsRow B e k v n xs) (hN : N < B) (x0 x1 x2 x3 x4 : Value) : (set5 W N x0 x1 x2 x3 x4).ownsRow B e k v n xs :=
  ownsRow_setCell_below (ownsRow_setCell_below (ownsRow_setCell_below (ownsRow_setCell_below (ownsRow_setCell_below h hN _) hN _) hN _) hN _) hN _
theorem own_far {W : World} {B k n : Nat} {e : TypeId} {v : Value} {xs : List Value} (h : W.ownsRow B e k v n xs) {p : Addr} (hp : p.block < B) (u : Value) : (W.setCell p u).ownsRow B e k v n xs := ownsRow_setCell_below h hp u
theorem own_later {w w' : World} {B k n : Nat} {e : TypeId} {v : Value} {xs : List Value} (h : w.ownsRow B e k v n xs) (hb : Below w.heap.size w w') : w'.ownsRow B e k v n xs := by
  obtain ⟨hl, h⟩ := h
  rcases h with h | ⟨g, cap, cur, h1, h2, h3, h4⟩
  · exact ⟨hl, .inl h⟩
  · exact ⟨hl, .inr ⟨g, cap, cur, h1, h2, row_later h3 hb, h4⟩⟩
theorem own_less {w : World} {B B' k n : Nat} {e : TypeId} {v : Value} {xs : List Value} (h : w.ownsRow B e k v n xs) (hB : B' ≤ B) : w.ownsRow B' e k v n xs := by
  obtain ⟨hl, h⟩ := h
  rcases h with h | ⟨g, cap, cur, h1, h2, h3⟩
  · exact ⟨hl, .inl h⟩
  · exact ⟨hl, .inr ⟨g, cap, cur, h1, Nat.le_trans hB h2, h3⟩⟩
theorem OwnBx.row0 {w : World} {B : Nat} {e : TypeId} {v : Value} {bs : List Bx} (h : OwnBx w B e v bs) : w.ownsRow B e 2 v bs.length (bs.map boxV).flatten := by have := h.1; rwa [List.length_map] at this
theorem OwnBx.of_row0 {w : World} {B : Nat} {e : TypeId} {v : Value} {bs : List Bx} (h : w.ownsRow B e 2 v bs.length (bs.map boxV).flatten) : OwnBx w B e v bs := ⟨by rw [List.length_map]; exact h, boxes_two bs⟩

/-- Three blocks of five cells, one behind the other, behind a store into the third. -/
theorem three_set {W : World} {N : Nat} {c0 c1 c2 : Array Value} {t0 t1 t2 : TypeId} {k : Nat} {u : Value} (h : W.heap[N]? = some (.cells c0 t0 (0, 0)) ∧ W.heap[N + 1]? = some (.cells c1 t1 (0, 0)) ∧ W.heap[N + 1 + 1]? = some (.cells c2 t2 (0, 0))) :
    (W.setCell ⟨N + 1 + 1, k, none⟩ u).heap[N]? = some (.cells c0 t0 (0, 0)) ∧ (W.setCell ⟨N + 1 + 1, k, none⟩ u).heap[N + 1]? = some (.cells c1 t1 (0, 0)) ∧ (W.setCell ⟨N + 1 + 1, k, none⟩ u).heap[N + 1 + 1]? = some (.cells (c2.setIfInBounds k u) t2 (0, 0)) :=
  ⟨by rw [Below.heap_setCell _ _ _ _ (by show N ≠ N + 1 + 1; omega)]; exact h.1, by rw [Below.heap_setCell _ _ _ _ (by show N + 1 ≠ N + 1 + 1; omega)]; exact h.2.1, heap_set h.2.2 _⟩
theorem three_later {W W' : World} {N : Nat} {o0 o1 o2 : Obj} (h : W.heap[N]? = some o0 ∧ W.heap[N + 1]? = some o1 ∧ W.heap[N + 1 + 1]? = some o2) (b : Below W.heap.size W W') :
    W'.heap[N]? = some o0 ∧ W'.heap[N + 1]? = some o1 ∧ W'.heap[N + 1 + 1]? = some o2 := ⟨row_later h.1 b, row_later h.2.1 b, row_later h.2.2 b⟩

/-- Nothing is turned but in the blocks of S. -/
structure Only (S : Nat → Prop) (w w' : World) : Prop where
  os : w'.os = w.os
  tape : w'.tape = w.tape
  output : w'.output = w.output
  size : w.heap.size ≤ w'.heap.size
  block : ∀ k, k < w.heap.size → ¬ S k → w'.heap[k]? = w.heap[k]?
theorem Only.refl (S : Nat → Prop) (w : World) : Only S w w := ⟨rfl, rfl, rfl, Nat.le_refl _, fun _ _ _ => rfl⟩
theorem Only.trans {S : Nat → Prop} {a b c : World} (h : Only S a b) (k : Only S b c) : Only S a c :=
  ⟨k.os.trans h.os, k.tape.trans h.tape, k.output.trans h.output, Nat.le_trans h.size k.size, fun i hi hn => (k.block i (Nat.lt_of_lt_of_le hi h.size) hn).trans (h.block i hi hn)⟩
theorem Only.of_grown {S : Nat → Prop} {w w' : World} {row : Option Nat} (h : w.grownBy w' row) (hr : ∀ g, row = some g → S g) : Only S w w' :=
  ⟨h.os, h.tape, h.output, h.size, fun k hk hn => h.block k hk (fun e => hn (hr k e.symm))⟩
theorem Only.of_below {S : Nat → Prop} {w w' : World} (h : Below w.heap.size w w') : Only S w w' := ⟨h.os, h.tape, h.output, h.size, fun k hk _ => h.block k hk⟩
theorem Only.below {S : Nat → Prop} {B : Nat} {w w' : World} (h : Only S w w') (hB : B ≤ w.heap.size) (hS : ∀ k, S k → B ≤ k) : Below B w w' :=
  ⟨h.os, h.tape, h.output, h.size, fun k hk => h.block k (by omega) (fun hs => by have := hS k hs; omega)⟩
theorem Only.more {S T : Nat → Prop} {w w' : World} (h : Only S w w') (hS : ∀ k, S k → T k) : Only T w w' := ⟨h.os, h.tape, h.output, h.size, fun k hk hn => h.block k hk (fun q => hn (hS k q))⟩
theorem own_only {S : Nat → Prop} {w w' : World} {B k n : Nat} {e : TypeId} {v : Value} {xs : List Value} (h : w.ownsRow B e k v n xs) (hg : Only S w w') (hr : ∀ g, v.ownBlock = some g → ¬ S g) : w'.ownsRow B e k v n xs := by
  have hlt := World.ownsRow.lt h
  obtain ⟨hl, h⟩ := h
  rcases h with h | ⟨b, cap, cur, rfl, hb', hg', h⟩
  · exact ⟨hl, .inl h⟩
  · exact ⟨hl, .inr ⟨b, cap, cur, rfl, hb', by rw [hg.block b (hlt b rfl).2 (hr b rfl)]; exact hg', h⟩⟩

/-- Marked boxes. -/
def mkB (s j : Nat) : Bx := (mkT (s + j * 2), ((s + j * 2 + 1 : Nat) : Int))
def mkBs (s n : Nat) : List Bx := (List.range n).map fun j => mkB s j
theorem mkBs_length (s n : Nat) : (mkBs s n).length = n := by simp [mkBs]
theorem mkBs_at {s n k : Nat} (h : k < n) : (mkBs s n)[k]? = some (mkB s k) := by simp [mkBs, h]
theorem mkBs_succ (s k : Nat) : mkBs s (k + 1) = mkBs s k ++ [mkB s k] := by simp [mkBs, List.range_succ]

end Go.Proofs.YtigcbegeaikfcaaDoor
