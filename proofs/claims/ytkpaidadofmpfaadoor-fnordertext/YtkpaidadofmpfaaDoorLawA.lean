/- Contracts of the laws' own helpers on slices of int64 and on Orders: the size that is counted, the copy that is made, whether two are equal. -/
import Derived.Test.YtkpaidadofmpfaaDoorListA
import Derived.Deep.OwnRows
namespace Go.Proofs.YtkpaidadofmpfaaDoor
open Go.RowKit
set_option linter.unusedVariables false

/-- What was there ahead of a call that leaves it alone reads behind it as it read. -/
theorem old_reads {w w1 : World} (hb : Below w.heap.size w w1) : (∀ b o, b < w.heap.size → w1.cell? ⟨b, o, none⟩ = w.cell? ⟨b, o, none⟩) ∧ (∀ b o, b < w.heap.size → w1.frozen? ⟨b, o, none⟩ = w.frozen? ⟨b, o, none⟩) ∧ w.heap.size ≤ w1.heap.size :=
  ⟨fun b o h => hb.cell (p := ⟨b, o, none⟩) h, fun b o h => hb.frozen (p := ⟨b, o, none⟩) h, hb.size⟩

theorem SeeI.alloc {w : World} {B : Nat} {v : Value} {zs : List Int} (h : SeeI w B v zs) (hB : B ≤ w.heap.size) (o : Obj) : SeeI (w.alloc o) B v zs := h.keep fun p hp => World.cell?_alloc_lt w o p (by omega)
theorem OwnI.far {w : World} {B : Nat} {e : TypeId} {v : Value} {zs : List Int} (h : OwnI w B e v zs) {p : Addr} (hp : p.block < B) (u : Value) : OwnI (w.setCell p u) B e v zs := ownsRow_setCell_below h hp u
theorem OwnI.less {w : World} {B B' : Nat} {e : TypeId} {v : Value} {zs : List Int} (h : OwnI w B e v zs) (hB : B' ≤ B) : OwnI w B' e v zs := by
  obtain ⟨hl, h⟩ := h
  rcases h with h | ⟨g, cap, cur, h1, h2, h3⟩
  · exact ⟨hl, .inl h⟩
  · exact ⟨hl, .inr ⟨g, cap, cur, h1, Nat.le_trans hB h2, h3⟩⟩

theorem Tryd.infoI64 : (Tryd.prog.info? 2).map (fun i => (i.zero, i.size, i.bytes)) = some (some (.int .i64 0), 1, 8) := by kernel_rfl

def szB (left n : Int) : Int := if left < n then -1 else left - n

theorem take_more' {zs : List Int} {k : Nat} {x : Int} (hx : zs[k]? = some x) : (zs.take (k + 1)).map (Value.int .i64) = (zs.take k).map (Value.int .i64) ++ [.int .i64 x] := by
  rw [List.take_add_one, hx]; simp

end Go.Proofs.YtkpaidadofmpfaaDoor
