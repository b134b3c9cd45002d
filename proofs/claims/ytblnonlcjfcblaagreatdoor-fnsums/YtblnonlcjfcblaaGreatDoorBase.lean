/- Words of our own for memory: rows of integers that a call made, and what appending to them does. No program is named here. -/
import Derived.WalkKit
import Derived.WalkSpells
import Derived.WalkLawsBesides
import Derived.Lib.Hide
namespace Go.Proofs.YtblnonlcjfcblaaGreatDoor
open Go.RowKit
set_option linter.unusedVariables false

/-- The value v is a slice of int64 of the call's own (blocks from B on), which holds zs. -/
def OwnI (w : World) (B : Nat) (e : TypeId) (v : Value) (zs : List Int) : Prop := w.ownsRow B e 1 v zs.length (zs.map (Value.int .i64))

theorem OwnI.nil (w : World) (B : Nat) (e : TypeId) : OwnI w B e (.slice none 0 0) [] := World.ownsRow_nil _ _ _ _
theorem OwnI.empty (w : World) (B : Nat) (e : TypeId) (hB : B ≤ w.heap.size) : OwnI (w.alloc (.cells #[] e)) B e (.slice (some ⟨w.heap.size, 0, none⟩) 0 0) [] :=
  World.ownsRow_made w #[] 0 hB (Nat.zero_le _) rfl
theorem OwnI.alloc {w : World} {B : Nat} {e : TypeId} {v : Value} {zs : List Int} (h : OwnI w B e v zs) (o : Obj) : OwnI (w.alloc o) B e v zs := World.ownsRow.alloc h o

/-- Behind 'append(v, x)', x an integer that lies in a new block o. -/
theorem own_push {w wr w1 : World} {B : Nat} {e : TypeId} {v v' : Value} {zs : List Int} {z : Int} {o : Obj} (hb : Below B w wr) (hB : B ≤ w.heap.size) (h : OwnI wr B e v zs)
    (h1 : w1.ownsRow B e 1 v' (zs.length + 1) (zs.map (Value.int .i64) ++ [.int .i64 z])) (hg : (wr.alloc o).grownBy w1 v.ownBlock) : OwnI w1 B e v' (zs ++ [z]) ∧ Below B w w1 := by
  have hs : B ≤ wr.heap.size := Nat.le_trans hB hb.size
  refine ⟨?_, (hb.alloc hs o).grown hg (by simp; omega) (fun j hj => (World.ownsRow.lt h j hj).1)⟩
  unfold OwnI
  simpa using h1

/-- Of the numbers 0 .. k-1 those of which p holds. -/
def sel (p : Int → Bool) : Nat → List Int
  | 0 => []
  | k + 1 => if p k then sel p k ++ [(k : Int)] else sel p k
theorem sel_yes {p : Int → Bool} {k : Nat} (h : p k = true) : sel p (k + 1) = sel p k ++ [(k : Int)] := by simp [sel, h]
theorem sel_no {p : Int → Bool} {k : Nat} (h : p k = false) : sel p (k + 1) = sel p k := by simp [sel, h]
theorem sel_le (p : Int → Bool) (k : Nat) : (sel p k).length ≤ k := by
  induction k with
  | zero => simp [sel]
  | succ k ih =>
    unfold sel
    split
    · simp; omega
    · omega
theorem sel_congr {p q : Int → Bool} (k : Nat) (h : ∀ j : Nat, j < k → p j = q j) : sel p k = sel q k := by
  induction k with
  | zero => rfl
  | succ k ih => unfold sel; rw [h k (by omega), ih fun j hj => h j (by omega)]
theorem mem_sel {p : Int → Bool} {k : Nat} {x : Int} : x ∈ sel p k ↔ ∃ j : Nat, j < k ∧ x = j ∧ p j = true := by
  induction k with
  | zero => simp [sel]
  | succ k ih =>
    cases hp : p k
    · rw [sel_no hp, ih]
      constructor
      · rintro ⟨j, h1, h2, h3⟩; exact ⟨j, by omega, h2, h3⟩
      · rintro ⟨j, h1, h2, h3⟩
        refine ⟨j, ?_, h2, h3⟩
        rcases Nat.lt_or_ge j k with h | h
        · exact h
        · obtain rfl : j = k := by omega
          rw [hp] at h3; cases h3
    · rw [sel_yes hp, List.mem_append, ih, List.mem_singleton]
      constructor
      · rintro (⟨j, h1, h2, h3⟩ | rfl)
        · exact ⟨j, by omega, h2, h3⟩
        · exact ⟨k, by omega, rfl, hp⟩
      · rintro ⟨j, h1, h2, h3⟩
        rcases Nat.lt_or_ge j k with h | h
        · exact .inl ⟨j, h, h2, h3⟩
        · obtain rfl : j = k := by omega
          exact .inr h2

/-- The value v is a slice (nil, empty or not) that reads as the integers zs; its cells lie below block B. -/
def SeeI (w : World) (B : Nat) (v : Value) (zs : List Int) : Prop :=
  zs.length ≤ maxLen ∧ ∃ A c, v = .slice A zs.length c ∧ ∀ k, k < zs.length → ∃ g o, A = some ⟨g, o, none⟩ ∧ g < B ∧ w.cell? ⟨g, o + k, none⟩ = some (.int .i64 (zs.getD k 0))

theorem SeeI.keep {w w' : World} {B : Nat} {v : Value} {zs : List Int} (h : SeeI w B v zs) (hk : ∀ p : Addr, p.block < B → w'.cell? p = w.cell? p) : SeeI w' B v zs := by
  obtain ⟨h0, A, c, rfl, h1⟩ := h
  refine ⟨h0, A, c, rfl, fun k hk' => ?_⟩
  obtain ⟨g, o, rfl, hg, hc⟩ := h1 k hk'
  exact ⟨g, o, rfl, hg, (hk _ hg).trans hc⟩
theorem SeeI.below {w w' : World} {B : Nat} {v : Value} {zs : List Int} (h : SeeI w B v zs) (hb : Below B w w') : SeeI w' B v zs := h.keep fun _ hp => hb.cell hp
theorem SeeI.drewN {w : World} {B : Nat} {v : Value} {zs : List Int} (h : SeeI w B v zs) (n : Nat) : SeeI (w.drewN n) B v zs := h
theorem SeeI.more {w : World} {B B' : Nat} {v : Value} {zs : List Int} (h : SeeI w B v zs) (hB : B ≤ B') : SeeI w B' v zs := by
  obtain ⟨h0, A, c, rfl, h1⟩ := h
  refine ⟨h0, A, c, rfl, fun k hk' => ?_⟩
  obtain ⟨g, o, rfl, hg, hc⟩ := h1 k hk'
  exact ⟨g, o, rfl, by omega, hc⟩
theorem OwnI.see {w : World} {B : Nat} {e : TypeId} {v : Value} {zs : List Int} (h : OwnI w B e v zs) : SeeI w w.heap.size v zs := by
  obtain ⟨hl, h⟩ := h
  rcases h with ⟨rfl, hn⟩ | ⟨g, cap, cur, rfl, hb, hg, hnc, hcm, hcs, ht⟩
  · refine ⟨by omega, none, 0, by rw [hn], fun k hk => by omega⟩
  · refine ⟨by omega, some ⟨g, 0, none⟩, cap, rfl, fun k hk => ⟨g, 0, rfl, (Array.getElem?_eq_some_iff.1 hg).1, ?_⟩⟩
    rw [Nat.zero_add, cell_of_row w g k cur e (0, 0) hg]
    have : (cur.toList.take (zs.length * 1))[k]? = (zs.map (Value.int .i64))[k]? := by rw [ht]
    rw [List.getElem?_take, if_pos (by omega)] at this
    rw [← Array.getElem?_toList, this]
    simp [List.getElem?_eq_getElem hk]
/-- One element of such a slice, for a walk. -/
theorem SeeI.at_ {w : World} {B : Nat} {A : Option Addr} {n c : Nat} {zs : List Int} {k : Nat} (h : SeeI w B (.slice A n c) zs) (hk : k < zs.length) :
    ∃ g o x, A = some ⟨g, o, none⟩ ∧ g < B ∧ zs[k]? = some x ∧ w.cell? ⟨g, o + k, none⟩ = some (.int .i64 x) := by
  obtain ⟨_, A', c', he, h1⟩ := h
  obtain ⟨g, o, rfl, hg, hc⟩ := h1 k hk
  injection he with he
  exact ⟨g, o, zs[k], he, hg, List.getElem?_eq_getElem hk, by simpa [List.getElem?_eq_getElem hk] using hc⟩
theorem SeeI.shape {w : World} {B : Nat} {v : Value} {zs : List Int} (h : SeeI w B v zs) : ∃ A c, v = .slice A zs.length c := by
  obtain ⟨_, A, c, rfl, _⟩ := h; exact ⟨A, c, rfl⟩

def eqI (xs ys : List Int) : Bool := decide (xs = ys)
theorem eqI_same (xs : List Int) : eqI xs xs = true := by simp [eqI]
theorem take_more {xs ys : List Int} {k : Nat} {x : Int} (h : xs.take k = ys.take k) (hx : xs[k]? = some x) (hy : ys[k]? = some x) : xs.take (k + 1) = ys.take (k + 1) := by
  rw [List.take_add_one, List.take_add_one, h, hx, hy]

/-- The numbers s, s+1 .. s+n-1, by which the laws mark a list. -/
def marks (s n : Nat) : List Int := (List.range n).map fun j => ((s + j : Nat) : Int)
@[simp] theorem marks_length (s n : Nat) : (marks s n).length = n := by simp [marks]
theorem marks_at {s n k : Nat} (h : k < n) : (marks s n)[k]? = some ((s + k : Nat) : Int) := by simp [marks, h]
theorem marks_succ (s k : Nat) : marks s (k + 1) = marks s k ++ [((s + k : Nat) : Int)] := by simp [marks, List.range_succ]

theorem grown_set {w wr : World} {g k : Nat} (h : w.grownBy wr (some g)) (u : Value) : w.grownBy (wr.setCell ⟨g, k, none⟩ u) (some g) :=
  ⟨h.os, h.tape, h.output, by simpa [World.setCell] using h.size, fun i hi hne => (Below.heap_setCell wr ⟨g, k, none⟩ u i (fun e => hne (by rw [e]))).trans (h.block i hi hne)⟩
theorem heap_set {w : World} {g k : Nat} {cur : Array Value} {e : TypeId} (h : w.heap[g]? = some (.cells cur e (0, 0))) (u : Value) : (w.setCell ⟨g, k, none⟩ u).heap[g]? = some (.cells (cur.setIfInBounds k u) e (0, 0)) := by
  simp [World.setCell, Array.getElem?_modify, h]
theorem frozen_row {w : World} {g k : Nat} {cur : Array Value} {e : TypeId} (h : w.heap[g]? = some (.cells cur e (0, 0))) : w.frozen? ⟨g, k, none⟩ = false := by simp [World.frozen?, h]
theorem take_set {cur : Array Value} {k : Nat} {u : Value} {l : List Value} (h : cur.toList.take k = l) (hk : k < cur.size) : (cur.setIfInBounds k u).toList.take (k + 1) = l ++ [u] := by
  rw [List.take_add_one]
  have h1 : (cur.setIfInBounds k u).toList.take k = l := by
    rw [← h]; apply List.ext_getElem?; intro j
    by_cases hj : j < k
    · simp [hj, show ¬ k = j from by omega]
    · simp [List.getElem?_take, hj]
  rw [h1]
  simp [hk]

theorem SeeI.grown {w w' : World} {B : Nat} {v : Value} {zs : List Int} (h : SeeI w B v zs) {row : Option Nat} (hg : w.grownBy w' row) (hB : B ≤ w.heap.size) (hr : ∀ g, row = some g → B ≤ g) : SeeI w' B v zs :=
  h.keep fun p hp => World.cell?_of_block (hg.block p.block (by omega) (fun e => by have := hr _ e.symm; omega))
theorem OwnI.lt {w : World} {B : Nat} {e : TypeId} {v : Value} {zs : List Int} (h : OwnI w B e v zs) : ∀ g, v.ownBlock = some g → B ≤ g ∧ g < w.heap.size := World.ownsRow.lt h
theorem below_drewN {B : Nat} {a w : World} (h : Below B a w) (n : Nat) : Below B a (w.drewN n) := ⟨h.os, h.tape, h.output, h.size, h.block⟩
theorem OwnI.drewN {w : World} {B : Nat} {e : TypeId} {v : Value} {zs : List Int} (h : OwnI w B e v zs) (n : Nat) : OwnI (w.drewN n) B e v zs := h

end Go.Proofs.YtblnonlcjfcblaaGreatDoor
