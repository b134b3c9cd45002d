/- The model's MaySee, SeenBy and OwnOf. -/
import Derived.Test.YtigcbegeaikfcaaGateA
namespace Go.Proofs.Ytigcbegeaikfcaa
open Go.RowKit
set_option linter.unusedVariables false

theorem see_of {us gs : List Int} {r : Int} {k : Nat} (h : gatesS us gs = true) (hk : k < gs.length) : maySeeS us gs r k = seeP us gs r k := by
  have : isG gs k = true := decide_eq_true (by omega)
  simp only [maySeeS, h, this, Bool.true_and]
theorem right_gates {us gs : List Int} {r : Int} (h : rightS us gs r = true) : gatesS us gs = true := by
  simp only [rightS, Bool.and_eq_true] at h; exact h.1
theorem seeP_at {us gs : List Int} {r : Int} {k : Nat} {x : Int} (hx : gs[k]? = some x) : seeP us gs r k = belowS us x r := by
  simp [seeP, hx]
theorem ownP_at {gs : List Int} {r : Int} {k : Nat} {x : Int} (hx : gs[k]? = some x) : ownP gs r k = (x == r) := by
  simp [ownP, hx]
theorem see_out {us gs : List Int} {r g : Int} (h : isG gs g = false) : maySeeS us gs r g = false := by
  simp [maySeeS, h]

/-- A row of the call's own is handed back. -/
def IntsOut (w : World) (zs : List Int) (e : Ending) (w' : World) : Prop := ∃ v, e = .returned v ∧ OwnI w' w.heap.size 2 v zs ∧ Below w.heap.size w w'

theorem sel_none {p : Int → Bool} {k : Nat} (h : ∀ j : Nat, j < k → p j = false) : sel p k = [] := by
  induction k with
  | zero => rfl
  | succ k ih => rw [sel_no (h k (by omega)), ih fun j hj => h j (by omega)]
theorem seen_not {us gs : List Int} {r : Int} (h : rightS us gs r = false) : seenS us gs r = [] := by
  simp only [seenS]
  split
  · rename_i hg
    simp only [rightS, hg, Bool.true_and] at h
    exact sel_none fun j hj => by simp [seeP, belowS, h]
  · rfl
theorem own_not {us gs : List Int} {r : Int} (h : rightS us gs r = false) : ownS us gs r = [] := by
  simp only [ownS]
  split
  · rename_i hg
    have hg' := hg
    simp only [rightS, hg, Bool.true_and] at h
    simp only [gatesS, Bool.and_eq_true, ranksS, List.all_eq_true] at hg'
    refine sel_none fun j hj => ?_
    have hx : gs[j]? = some gs[j] := List.getElem?_eq_getElem hj
    rw [ownP_at hx]
    have := hg'.2.1 gs[j] (List.getElem_mem _)
    by_cases e : gs[j] = r
    · rw [e, h] at this; cases this
    · simpa using e
  · rfl
theorem seen_yes {us gs : List Int} {r : Int} (h : rightS us gs r = true) : seenS us gs r = sel (seeP us gs r) gs.length := by simp [seenS, right_gates h]
theorem own_yes {us gs : List Int} {r : Int} (h : rightS us gs r = true) : ownS us gs r = sel (ownP gs r) gs.length := by simp [ownS, right_gates h]

theorem gates_four {us gs : List Int} (h : gatesS us gs = true) : gs.length ≤ 4 := by
  simp only [gatesS, Bool.and_eq_true, inB, decide_eq_true_eq] at h
  omega
theorem right_four {us gs : List Int} {r : Int} (h : rightS us gs r = true) : gs.length ≤ 4 := by
  have := right_gates h
  simp only [gatesS, Bool.and_eq_true, inB, decide_eq_true_eq] at this
  omega
theorem Sg.push {w0 W W' : World} {o : Nat} {v u : Value} {us gs : List Int} (h : Sg w0 o v u us gs W) (h0 : w0.heap.size ≤ o) {ob : Obj} {row : Option Nat} (hg : (W.alloc ob).grownBy W' row) (hr : ∀ g, row = some g → o < g) : Sg w0 o v u us gs W' := by
  have hlt := h.lt
  have ho : o < (W.alloc ob).heap.size := by simp; omega
  refine ⟨?_, ?_, ?_, Nat.lt_of_lt_of_le ho hg.size, ?_⟩
  · rw [World.cell?_of_block (hg.block o ho (fun e => by have := hr o e.symm; omega)), World.cell?_alloc_lt _ _ _ (by simpa using hlt)]; exact h.cell
  · exact (h.see.alloc h.le ob).grown hg (Nat.le_of_lt ho) (fun g e => Nat.le_of_lt (hr g e))
  · exact (h.gat.alloc h.le ob).grown hg (Nat.le_of_lt ho) (fun g e => Nat.le_of_lt (hr g e))
  · exact (h.old.alloc h.old.size ob).grown hg (by have := h.old.size; simp; omega) (fun g e => by have := hr g e; omega)
theorem own_more {w1 : World} {B : Nat} {e : TypeId} {v' : Value} {zs : List Int} {z : Int} (h1 : w1.ownsRow B e 1 v' (zs.length + 1) (zs.map (Value.int .i64) ++ [.int .i64 z])) : OwnI w1 B e v' (zs ++ [z]) := by
  unfold OwnI
  simpa using h1

end Go.Proofs.Ytigcbegeaikfcaa
