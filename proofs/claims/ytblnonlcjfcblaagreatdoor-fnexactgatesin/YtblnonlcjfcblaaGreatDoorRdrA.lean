/- Layer 7 (plays): the program's reader in memory: its six cells, its three rows, and what its methods do to them. Condition: the listed variables hold what the program's text lays (Vars). -/
import Derived.Test.YtblnonlcjfcblaaGreatDoorDeedC
import Derived.Test.YtblnonlcjfcblaaGreatDoorJumps
import Derived.Deep.RegionLaw
import Derived.BigRegion
namespace Go.Proofs.YtblnonlcjfcblaaGreatDoor
open Go.RowKit
set_option linter.unusedVariables false

/-- Rows of two types lie in two blocks. -/
theorem rows_apart {w : World} {B B2 sz sz2 n m : Nat} {e e2 : TypeId} {v u : Value} {xs ys : List Value} (h : w.ownsRow B e sz v n xs) (h2 : w.ownsRow B2 e2 sz2 u m ys) (hne : e ≠ e2) : v.ownBlock = none ∨ v.ownBlock ≠ u.ownBlock := by
  obtain ⟨_, h⟩ := h
  obtain ⟨_, h2⟩ := h2
  rcases h with ⟨rfl, _⟩ | ⟨g', cap, cur, rfl, _, h3, _⟩
  · exact .inl rfl
  rcases h2 with ⟨rfl, _⟩ | ⟨g2', cap2, cur2, rfl, _, h4, _⟩
  · exact .inr (fun q => by cases q)
  refine .inr fun q => ?_
  cases q
  rw [h3] at h4
  injection h4 with h4
  injection h4 with _ h4
  exact hne h4

structure Rd (B g : Nat) (sv : Value) (ss : List Txt) (w : World) (a : Int) (vn vg vo : Value) (nm : List Txt) (gt : List Int) (op : List Bool) (dp : Nat) : Prop where
  blk : w.heap[g]? = some (.cells #[sv, .int .i64 a, vn, vg, vo, .int .i64 (dp : Int)] 58 (0, 0))
  low : B ≤ g
  see : SeeV w B sv (ss.map str)
  names : OwnV w (g + 1) 9 vn (nm.map str)
  gates : OwnI w (g + 1) 2 vg gt
  opens : OwnV w (g + 1) 4 vo (op.reverse.map Value.bool)

section
variable {B g : Nat} {sv : Value} {ss : List Txt} {w w1 : World} {a : Int} {vn vg vo : Value} {nm : List Txt} {gt : List Int} {op : List Bool} {dp : Nat}
theorem Rd.lt (h : Rd B g sv ss w a vn vg vo nm gt op dp) : g < w.heap.size := (Array.getElem?_eq_some_iff.1 h.blk).1
theorem Rd.c0 (h : Rd B g sv ss w a vn vg vo nm gt op dp) : w.cell? ⟨g, 0, none⟩ = some sv := by rw [cell_of_row _ _ 0 _ _ (0, 0) h.blk]; rfl
theorem Rd.c1 (h : Rd B g sv ss w a vn vg vo nm gt op dp) : w.cell? ⟨g, 1, none⟩ = some (.int .i64 a) := by rw [cell_of_row _ _ 1 _ _ (0, 0) h.blk]; rfl
theorem Rd.c2 (h : Rd B g sv ss w a vn vg vo nm gt op dp) : w.cell? ⟨g, 2, none⟩ = some vn := by rw [cell_of_row _ _ 2 _ _ (0, 0) h.blk]; rfl
theorem Rd.c3 (h : Rd B g sv ss w a vn vg vo nm gt op dp) : w.cell? ⟨g, 3, none⟩ = some vg := by rw [cell_of_row _ _ 3 _ _ (0, 0) h.blk]; rfl
theorem Rd.c4 (h : Rd B g sv ss w a vn vg vo nm gt op dp) : w.cell? ⟨g, 4, none⟩ = some vo := by rw [cell_of_row _ _ 4 _ _ (0, 0) h.blk]; rfl
theorem Rd.c5 (h : Rd B g sv ss w a vn vg vo nm gt op dp) : w.cell? ⟨g, 5, none⟩ = some (.int .i64 (dp : Int)) := by rw [cell_of_row _ _ 5 _ _ (0, 0) h.blk]; rfl
theorem Rd.fz (h : Rd B g sv ss w a vn vg vo nm gt op dp) (k : Nat) : w.frozen? ⟨g, k, none⟩ = false := frozen_row h.blk
theorem Rd.later (h : Rd B g sv ss w a vn vg vo nm gt op dp) (b : Below w.heap.size w w1) : Rd B g sv ss w1 a vn vg vo nm gt op dp :=
  ⟨(b.block _ h.lt).trans h.blk, h.low, h.see.below (b.mono (by have := h.lt; have := h.low; omega)), h.names.later b, h.gates.later b, h.opens.later b⟩
theorem Rd.alloc (h : Rd B g sv ss w a vn vg vo nm gt op dp) (o : Obj) : Rd B g sv ss (w.alloc o) a vn vg vo nm gt op dp := h.later ((Below.refl _ w).alloc (Nat.le_refl _) o)
theorem Rd.drewN (h : Rd B g sv ss w a vn vg vo nm gt op dp) (n : Nat) : Rd B g sv ss (w.drewN n) a vn vg vo nm gt op dp := ⟨h.blk, h.low, h.see, h.names, h.gates, h.opens⟩
theorem Rd.seeSet (h : Rd B g sv ss w a vn vg vo nm gt op dp) (k : Nat) (u : Value) : SeeV (w.setCell ⟨g, k, none⟩ u) B sv (ss.map str) :=
  h.see.keep fun p hp => World.cell?_setCell_other w ⟨g, k, none⟩ p u (fun e => by subst e; have := h.low; simp at hp; omega)
theorem Rd.setAt (h : Rd B g sv ss w a vn vg vo nm gt op dp) (b : Int) : Rd B g sv ss (w.setCell ⟨g, 1, none⟩ (.int .i64 b)) b vn vg vo nm gt op dp :=
  ⟨by rw [heap_set h.blk]; rfl, h.low, h.seeSet _ _, h.names.far (by simp) _, ownsRow_setCell_below h.gates (by simp) _, h.opens.far (by simp) _⟩
theorem Rd.setDeep (h : Rd B g sv ss w a vn vg vo nm gt op dp) (d : Nat) : Rd B g sv ss (w.setCell ⟨g, 5, none⟩ (.int .i64 (d : Int))) a vn vg vo nm gt op d :=
  ⟨by rw [heap_set h.blk]; rfl, h.low, h.seeSet _ _, h.names.far (by simp) _, ownsRow_setCell_below h.gates (by simp) _, h.opens.far (by simp) _⟩
theorem Rd.setOpen (h : Rd B g sv ss w a vn vg vo nm gt op dp) {v : Value} {o2 : List Bool} (ho : OwnV w (g + 1) 4 v (o2.reverse.map Value.bool)) : Rd B g sv ss (w.setCell ⟨g, 4, none⟩ v) a vn vg v nm gt o2 dp :=
  ⟨by rw [heap_set h.blk]; rfl, h.low, h.seeSet _ _, h.names.far (by simp) _, ownsRow_setCell_below h.gates (by simp) _, ho.far (by simp) _⟩
/-- Behind an append to the names: the row has grown, all else is as it was; then the store. -/
theorem Rd.grewN {vn' : Value} {nm' : List Txt} (h : Rd B g sv ss w a vn vg vo nm gt op dp) (hg : w.grownBy w1 vn.ownBlock) (ho : OwnV w1 (g + 1) 9 vn' (nm'.map str)) :
    w1.heap[g]? = w.heap[g]? ∧ Rd B g sv ss (w1.setCell ⟨g, 2, none⟩ vn') a vn' vg vo nm' gt op dp := by
  have hq : w1.heap[g]? = w.heap[g]? := hg.block g h.lt (fun q => by have := (h.names.lt g q.symm).1; omega)
  have hb : w1.heap[g]? = some (.cells #[sv, .int .i64 a, vn, vg, vo, .int .i64 (dp : Int)] 58 (0, 0)) := hq.trans h.blk
  have hs1 : SeeV w1 B sv (ss.map str) := h.see.keep fun p hp => World.cell?_of_block (hg.block p.block (by have := h.lt; have := h.low; omega) (fun q => by have := (h.names.lt _ q.symm).1; have := h.low; omega))
  refine ⟨hq, ⟨by rw [heap_set hb]; rfl, h.low, ?_, ho.far (by simp) _, ownsRow_setCell_below (World.ownsRow.kept h.gates hg (rows_apart h.gates h.names (by decide))) (by simp) _, OwnV.far (World.ownsRow.kept h.opens hg (rows_apart h.opens h.names (by decide))) (by simp) _⟩⟩
  exact hs1.keep fun p hp => World.cell?_setCell_other w1 ⟨g, 2, none⟩ p _ (fun e => by subst e; have := h.low; simp at hp; omega)
theorem Rd.grewG {vg' : Value} {gt' : List Int} (h : Rd B g sv ss w a vn vg vo nm gt op dp) (hg : w.grownBy w1 vg.ownBlock) (ho : OwnI w1 (g + 1) 2 vg' gt') :
    w1.heap[g]? = w.heap[g]? ∧ Rd B g sv ss (w1.setCell ⟨g, 3, none⟩ vg') a vn vg' vo nm gt' op dp := by
  have hq : w1.heap[g]? = w.heap[g]? := hg.block g h.lt (fun q => by have := (h.gates.lt g q.symm).1; omega)
  have hb : w1.heap[g]? = some (.cells #[sv, .int .i64 a, vn, vg, vo, .int .i64 (dp : Int)] 58 (0, 0)) := hq.trans h.blk
  have hs1 : SeeV w1 B sv (ss.map str) := h.see.keep fun p hp => World.cell?_of_block (hg.block p.block (by have := h.lt; have := h.low; omega) (fun q => by have := (h.gates.lt _ q.symm).1; have := h.low; omega))
  refine ⟨hq, ⟨by rw [heap_set hb]; rfl, h.low, ?_, OwnV.far (World.ownsRow.kept h.names hg (rows_apart h.names h.gates (by decide))) (by simp) _, ownsRow_setCell_below ho (by simp) _, OwnV.far (World.ownsRow.kept h.opens hg (rows_apart h.opens h.gates (by decide))) (by simp) _⟩⟩
  exact hs1.keep fun p hp => World.cell?_setCell_other w1 ⟨g, 3, none⟩ p _ (fun e => by subst e; have := h.low; simp at hp; omega)
theorem Rd.grewO {vo' : Value} {op' : List Bool} (h : Rd B g sv ss w a vn vg vo nm gt op dp) (hg : w.grownBy w1 vo.ownBlock) (ho : OwnV w1 (g + 1) 4 vo' (op'.reverse.map Value.bool)) :
    w1.heap[g]? = w.heap[g]? ∧ Rd B g sv ss (w1.setCell ⟨g, 4, none⟩ vo') a vn vg vo' nm gt op' dp := by
  have hq : w1.heap[g]? = w.heap[g]? := hg.block g h.lt (fun q => by have := (h.opens.lt g q.symm).1; omega)
  have hb : w1.heap[g]? = some (.cells #[sv, .int .i64 a, vn, vg, vo, .int .i64 (dp : Int)] 58 (0, 0)) := hq.trans h.blk
  have hs1 : SeeV w1 B sv (ss.map str) := h.see.keep fun p hp => World.cell?_of_block (hg.block p.block (by have := h.lt; have := h.low; omega) (fun q => by have := (h.opens.lt _ q.symm).1; have := h.low; omega))
  refine ⟨hq, ⟨by rw [heap_set hb]; rfl, h.low, ?_, OwnV.far (World.ownsRow.kept h.names hg (rows_apart h.names h.opens (by decide))) (by simp) _, ownsRow_setCell_below (World.ownsRow.kept h.gates hg (rows_apart h.gates h.opens (by decide))) (by simp) _, ho.far (by simp) _⟩⟩
  exact hs1.keep fun p hp => World.cell?_setCell_other w1 ⟨g, 4, none⟩ p _ (fun e => by subst e; have := h.low; simp at hp; omega)
end

end Go.Proofs.YtblnonlcjfcblaaGreatDoor
