/- Draws: what is drawn, the cursor kept, nothing else that was there turned. No function but the cursor's is named. -/
import Derived.Test.YtpmdfogncoapjaaGreatDoorDrawA
import Derived.Test.YtpmdfogncoapjaaGreatDoorLowA
import Derived.Deep.RegionHeld3
namespace Go.Proofs.YtpmdfogncoapjaaGreatDoor
open Go.RowKit
set_option linter.unusedVariables false

def IntOut (w : World) (g : Nat) (e : Ending) (w' : World) : Prop := ∃ x : Int, e = .returned (.int .i64 x) ∧ Cur w' g ∧ w.grownBy w' (some g)
theorem Cur.alloc {w : World} {g : Nat} (h : Cur w g) (o : Obj) : Cur (w.alloc o) g := by
  obtain ⟨A, n, c, i, x, hh, hs, hi⟩ := h
  have hlt : g < w.heap.size := (Array.getElem?_eq_some_iff.1 hh).1
  exact ⟨A, n, c, i, x, (Below.heap_alloc w o g hlt).trans hh, hs.keep fun p hp => World.cell?_alloc_lt w _ p (by omega), hi⟩
theorem Cur.lt {w : World} {g : Nat} (h : Cur w g) : g < w.heap.size := by
  obtain ⟨A, n, c, i, x, hh, hs, hi⟩ := h
  exact (Array.getElem?_eq_some_iff.1 hh).1
theorem grown_of_alloc {w w' : World} {g : Nat} (o : Obj) (h : (w.alloc o).grownBy w' (some g)) : w.grownBy w' (some g) :=
  ⟨h.os, h.tape, h.output, by have := h.size; simp at this; omega, fun k hk hne => (h.block k (by simp; omega) hne).trans (Below.heap_alloc w o k hk)⟩
theorem grown_trans {a b c : World} {g : Nat} (h : a.grownBy b (some g)) (k : b.grownBy c (some g)) : a.grownBy c (some g) :=
  ⟨k.os.trans h.os, k.tape.trans h.tape, k.output.trans h.output, Nat.le_trans h.size k.size, fun i hi hne => (k.block i (Nat.lt_of_lt_of_le hi h.size) hne).trans (h.block i hi hne)⟩
def PairOut (w : World) (e : Ending) (w' : World) : Prop := ∃ x y : Int, e = .returned (.tuple #[.int .i64 x, .int .i64 y]) ∧ Below w.heap.size w w'
def OneOut (w : World) (e : Ending) (w' : World) : Prop := ∃ x : Int, e = .returned (.int .i64 x) ∧ Below w.heap.size w w'
theorem below_cur {w w1 w2 : World} (hb : Below w.heap.size w w1) (hg : w1.grownBy w2 (some w.heap.size)) : Below w.heap.size w w2 :=
  hb.grown hg hb.size (fun k hk => by injection hk with hk; omega)
theorem grown_of_below {w w' : World} (h : Below w.heap.size w w') (r : Option Nat) : w.grownBy w' r := ⟨h.os, h.tape, h.output, h.size, fun k hk _ => h.block k hk⟩
theorem Cur.later {w w' : World} {g : Nat} (h : Cur w g) (hb : Below w.heap.size w w') : Cur w' g := by
  have hlt := h.lt
  obtain ⟨A, n, c, i, x, hh, hs, hi⟩ := h
  exact ⟨A, n, c, i, x, (hb.block g hlt).trans hh, hs.keep fun p hp => hb.cell (by omega), hi⟩
theorem Cur.far {w : World} {g : Nat} (h : Cur w g) {p : Addr} (hp : g < p.block) (u : Value) : Cur (w.setCell p u) g := by
  obtain ⟨A, n, c, i, x, hh, hs, hi⟩ := h
  refine ⟨A, n, c, i, x, (Below.heap_setCell w p u g (by omega)).trans hh, hs.keep fun q hq => World.cell?_setCell_other w p q u (fun e => by subst e; omega), hi⟩

end Go.Proofs.YtpmdfogncoapjaaGreatDoor
