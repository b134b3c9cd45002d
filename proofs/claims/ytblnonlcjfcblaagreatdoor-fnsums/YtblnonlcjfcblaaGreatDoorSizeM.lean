/- How the laws count the size of what they are given. No program is named here. -/
import Derived.WalkKit
namespace Go.Proofs.YtblnonlcjfcblaaGreatDoor
set_option linter.unusedVariables false

/-- What is left when each of the lengths is taken off, one behind the other; -1 when it would fall below 0. -/
def szGo (left : Int) : List Nat → Int
  | [] => left
  | n :: r => if left < n then -1 else szGo (left - n) r
def szL (left : Int) (ls : List Nat) : Int := if left < ls.length then -1 else szGo (left - ls.length) ls
theorem szL_long {left : Int} {ls : List Nat} (h : left < ls.length) : szL left ls = -1 := by unfold szL; rw [if_pos h]
theorem szL_short {left : Int} {ls : List Nat} (h : ¬ left < ls.length) : szL left ls = szGo (left - ls.length) ls := by unfold szL; rw [if_neg h]
theorem szGo_no {x r : Int} {ls : List Nat} {k n : Nat} (h : szGo x (ls.drop k) = r) (hn : ls[k]? = some n) (hx : x < n) : r = -1 := by
  obtain ⟨hk, hg⟩ := List.getElem?_eq_some_iff.1 hn
  rw [← h, List.drop_eq_getElem_cons hk, hg, szGo, if_pos hx]
theorem szGo_yes {x r : Int} {ls : List Nat} {k n : Nat} (h : szGo x (ls.drop k) = r) (hn : ls[k]? = some n) (hx : ¬ x < n) : szGo (x - n) (ls.drop (k + 1)) = r := by
  obtain ⟨hk, hg⟩ := List.getElem?_eq_some_iff.1 hn
  rw [← h, List.drop_eq_getElem_cons hk, hg, szGo, if_neg hx]
theorem szGo_fits : ∀ {ls : List Nat} {left : Int}, 0 ≤ left → (szGo left ls = -1 ∨ (0 ≤ szGo left ls ∧ szGo left ls ≤ left ∧ ∀ n ∈ ls, (n : Int) ≤ left))
  | [], left, h => .inr ⟨h, Int.le_refl _, by simp⟩
  | n :: r, left, h => by
    unfold szGo
    by_cases q : left < n
    · rw [if_pos q]; exact .inl rfl
    · rw [if_neg q]
      rcases szGo_fits (ls := r) (left := left - n) (by omega) with e | ⟨e1, e2, e3⟩
      · exact .inl e
      · refine .inr ⟨e1, by omega, fun m hm => ?_⟩
        rcases List.mem_cons.1 hm with rfl | hm
        · omega
        · have := e3 m hm; omega
theorem szL_fits {ls : List Nat} {left : Int} (h : 0 ≤ left) : szL left ls = -1 ∨ (0 ≤ szL left ls ∧ szL left ls ≤ left ∧ (ls.length : Int) ≤ left ∧ ∀ n ∈ ls, (n : Int) ≤ left) := by
  unfold szL
  by_cases q : left < ls.length
  · rw [if_pos q]; exact .inl rfl
  · rw [if_neg q]
    rcases szGo_fits (ls := ls) (left := left - ls.length) (by omega) with e | ⟨e1, e2, e3⟩
    · exact .inl e
    · exact .inr ⟨e1, by omega, by omega, fun n hn => by have := e3 n hn; omega⟩

end Go.Proofs.YtblnonlcjfcblaaGreatDoor
