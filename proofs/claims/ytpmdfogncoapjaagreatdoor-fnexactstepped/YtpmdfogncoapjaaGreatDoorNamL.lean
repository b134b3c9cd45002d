/- The walk of FnExactNamesIn. Condition: the listed variables hold what the program's text lays (Vars). -/
import Derived.Test.YtpmdfogncoapjaaGreatDoorNamS
import Derived.Test.YtpmdfogncoapjaaGreatDoorLowT
namespace Go.Proofs.YtpmdfogncoapjaaGreatDoor
open Go.RowKit
set_option linter.unusedVariables false

theorem OwnV.apart {w w' : World} {B : Nat} {e : TypeId} {v : Value} {xs : List Value} {row : Option Nat} (h : OwnV w B e v xs) (hg : w.grownBy w' row) (hr : ∀ g, row = some g → g < B) : OwnV w' B e v xs := by
  have hlt := h.lt
  obtain ⟨hl, h⟩ := h
  refine ⟨hl, ?_⟩
  rcases h with h | ⟨b, cap, cur, rfl, hb', hg', h⟩
  · exact .inl h
  · exact .inr ⟨b, cap, cur, rfl, hb', by rw [hg.block b (hlt b rfl).2 (fun e => by have := hr b e.symm; omega)]; exact hg', h⟩
theorem names_le (ss : List Txt) (a : Int) : (namesS ss a).length ≤ ss.length := by
  unfold namesS putAll
  have h1 := putAll_len ((signsS ss a).filter nameB) []
  have h2 := List.length_filter_le nameB (signsS ss a)
  have h3 : (signsS ss a).length ≤ ss.length := by
    unfold signsS
    split
    · rw [List.length_take, List.length_drop]; omega
    · simp
  simp at h1
  omega

end Go.Proofs.YtpmdfogncoapjaaGreatDoor
