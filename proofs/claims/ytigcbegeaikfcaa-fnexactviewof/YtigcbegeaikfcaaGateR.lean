/- The walks of the laws FnExactSeenBy and FnExactOwnOf. -/
import Derived.Test.YtigcbegeaikfcaaGateL
namespace Go.Proofs.Ytigcbegeaikfcaa
open Go.RowKit
set_option linter.unusedVariables false

theorem OwnI.apart {w w' : World} {B : Nat} {e : TypeId} {v : Value} {zs : List Int} {row : Option Nat} (h : OwnI w B e v zs) (hg : w.grownBy w' row) (hr : ∀ g, row = some g → g < B) : OwnI w' B e v zs := by
  have hlt := h.lt
  obtain ⟨hl, h⟩ := h
  refine ⟨hl, ?_⟩
  rcases h with h | ⟨b, cap, cur, rfl, hb', hg', h⟩
  · exact .inl h
  · exact .inr ⟨b, cap, cur, rfl, hb', by rw [hg.block b (hlt b rfl).2 (fun e => by have := hr b e.symm; omega)]; exact hg', h⟩
theorem Sg.grown {w0 W W' : World} {o : Nat} {v u : Value} {us gs : List Int} (h : Sg w0 o v u us gs W) (h0 : w0.heap.size ≤ o) {row : Option Nat} (hg : W.grownBy W' row) (hr : ∀ g, row = some g → o < g) : Sg w0 o v u us gs W' := by
  have hlt := h.lt
  refine ⟨?_, ?_, ?_, Nat.lt_of_lt_of_le hlt hg.size, ?_⟩
  · rw [World.cell?_of_block (hg.block o hlt (fun e => by have := hr o e.symm; omega))]; exact h.cell
  · exact h.see.grown hg h.le (fun g e => Nat.le_of_lt (hr g e))
  · exact h.gat.grown hg h.le (fun g e => Nat.le_of_lt (hr g e))
  · exact h.old.grown hg h.old.size (fun g e => by have := hr g e; omega)
theorem seen_le (us gs : List Int) (r : Int) : (seenS us gs r).length ≤ gs.length := by
  simp only [seenS]; split
  · exact sel_le _ _
  · simp
theorem own_le (us gs : List Int) (r : Int) : (ownS us gs r).length ≤ gs.length := by
  simp only [ownS]; split
  · exact sel_le _ _
  · simp
theorem grown_alloc' {w w' : World} {r : Option Nat} (o : Obj) (h : (w.alloc o).grownBy w' r) : w.grownBy w' r :=
  ⟨h.os, h.tape, h.output, by have := h.size; simp at this; omega, fun k hk hne => (h.block k (by simp; omega) hne).trans (Below.heap_alloc w o k hk)⟩

set_option maxHeartbeats 1000000 in
theorem markOrd_any (B : Nat) (e : TypeId) (v : Value) (zs : List Int) (s : Nat) (w : World) (h : OwnI w B e v zs) (hs : s + zs.length ≤ 4611686018427387904) :
    Calls Try.prog 39 #[.agg #[v], .int .i64 s] w fun r w' => r = .returned (.int .i64 ((s + zs.length : Nat) : Int)) ∧ OwnI w' B e v (marks s zs.length) ∧ w.grownBy w' v.ownBlock := by
  obtain ⟨A, c, rfl⟩ := h.see.shape
  go_enter Try.func39, Try.ntmps39
  go_wp2_with fail
  refine (markInts_any B e _ zs s _ (h.alloc _) hs).mono ?_
  rintro r w' ⟨rfl, ho, hg⟩
  obtain ⟨z, HZ⟩ : ∃ z : Int, Hid (((s + zs.length : Nat) : Int) = z) := ⟨_, Lib.hid rfl⟩
  rw [HZ.out]
  go_wp2_with fail
  go_ret
  exact ⟨by rw [HZ.out]; rfl, ho, grown_alloc' _ hg⟩

end Go.Proofs.Ytigcbegeaikfcaa
