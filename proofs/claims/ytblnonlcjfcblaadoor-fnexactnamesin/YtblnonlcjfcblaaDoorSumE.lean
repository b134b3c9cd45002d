/- Layer 6 (sums): MayFail, of the program and of the model. Condition for the program's: the listed variables hold what the program's text lays (Vars). -/
import Derived.Test.YtblnonlcjfcblaaDoorSumD
namespace Go.Proofs.YtblnonlcjfcblaaDoor
open Go.RowKit
set_option linter.unusedVariables false

def mayB (ss : List (List UInt8)) (a : Int) : Bool := decide ([47] ∈ signsS ss a)
theorem may_no {ss : List (List UInt8)} {a : Int} (h : sumEndS ss a < 0) : mayB ss a = false := by unfold mayB; rw [signs_no h]; rfl
theorem sign_at {ss : List (List UInt8)} {k p : Nat} {t : Sum} (h : SumAt ss k t) (hp : p < t.flat.length) : ss[k + p]? = t.flat[p]? := by
  obtain ⟨h1, rest, h2⟩ := h
  rw [← List.getElem?_drop, h2, List.getElem?_append_left hp]
theorem mem_take_no {α : Type} {l : List α} {p : Nat} {x y : α} (h : ¬ y ∈ l.take p) (hx : l[p]? = some x) (hn : ¬ x = y) : ¬ y ∈ l.take (p + 1) := by
  rw [List.take_add_one, hx, List.mem_append]
  rintro (q | q)
  · exact h q
  · have : y = x := by simpa using q
    exact hn this.symm

theorem contains_strs (l : List (List UInt8)) (s : List UInt8) : Lib.containsS (l.map fun x => (⟨x.toArray⟩ : ByteArray)) ⟨s.toArray⟩ = decide (s ∈ l) := by
  cases h : Lib.containsS (l.map fun x => (⟨x.toArray⟩ : ByteArray)) ⟨s.toArray⟩
  · symm
    rw [decide_eq_false_iff_not]
    intro hm
    have := (Lib.containsS_iff (l.map fun x => (⟨x.toArray⟩ : ByteArray)) ⟨s.toArray⟩).2 (List.mem_map_of_mem hm)
    rw [h] at this
    cases this
  · symm
    rw [decide_eq_true_eq]
    obtain ⟨x, hx, e⟩ := List.mem_map.1 ((Lib.containsS_iff _ _).1 h)
    injection e with e
    have : x = s := by simpa using e
    rwa [← this]

end Go.Proofs.YtblnonlcjfcblaaDoor
