/- The draws of layer 6: a list of texts bent, and a sum with its place. -/
import Derived.Test.YtigcbegeaikfcaaDoorDrawS
import Derived.Test.YtigcbegeaikfcaaDoorStepA
import Derived.Deep.RegionLaw
namespace Go.Proofs.YtigcbegeaikfcaaDoor
open Go.RowKit
set_option linter.unusedVariables false

theorem OwnV.set {w : World} {B g n c k : Nat} {e : TypeId} {xs : List Value} (h : OwnV w B e (.slice (some ⟨g, 0, none⟩) n c) xs) (hk : k < xs.length) (u : Value) : OwnV (w.setCell ⟨g, k, none⟩ u) B e (.slice (some ⟨g, 0, none⟩) n c) (xs.set k u) := by
  obtain ⟨hl, h⟩ := h
  rcases h with ⟨q, _⟩ | ⟨g2, c2, cur, q, h1, h2, h3, h4, h5, h6⟩
  · cases q
  · injection q with q1 q2 q3
    injection q1 with q1
    injection q1 with q1
    subst q1 q3 q2
    refine ⟨by simp, .inr ⟨g, c, cur.setIfInBounds k u, by rw [List.length_set], h1, heap_set h2 u, by rw [List.length_set]; exact h3, h4, by rw [Array.size_setIfInBounds]; exact h5, ?_⟩⟩
    rw [List.length_set, Array.toList_setIfInBounds, List.take_set, h6]
theorem upTo_set {m k : Nat} {xs : List Txt} {t : Txt} (h : upTo m xs) (ht : t.length ≤ m) : upTo m (xs.set k t) := fun s hs => by
  rcases List.mem_or_eq_of_mem_set hs with q | q
  · exact h s q
  · rw [q]; exact ht
theorem upTo_take {m k : Nat} {xs : List Txt} (h : upTo m xs) : upTo m (xs.take k) := fun s hs => h s (List.mem_of_mem_take hs)
theorem upTo_drop {m k : Nat} {xs : List Txt} (h : upTo m xs) : upTo m (xs.drop k) := fun s hs => h s (List.mem_of_mem_drop hs)

/-- A list of signs and a place, drawn. -/
def SumDrawn (w : World) (g : Nat) (e : Ending) (w' : World) : Prop := ∃ g' c', ∃ (xs : List Txt) (a : Int), e = .returned (.tuple #[.slice (some ⟨g', 0, none⟩) xs.length c', .int .i64 a]) ∧ OwnV w' w.heap.size 9 (.slice (some ⟨g', 0, none⟩) xs.length c') (xs.map str) ∧ xs.length ≤ 16 ∧ upTo 30 xs ∧ Cur w' g ∧ w.grownBy w' (some g)

end Go.Proofs.YtigcbegeaikfcaaDoor
