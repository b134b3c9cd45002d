/- Rows that are swapped, and what going up a heap keeps: plain mathematics. -/
import Derived.Test.YtigcbegeaikfcaaHeapB
namespace Go.Proofs.Ytigcbegeaikfcaa
open Go.RowKit
set_option linter.unusedVariables false

theorem swapL_len (xs : List Int) (i j : Nat) : (swapL xs i j).length = xs.length := by simp [swapL]
theorem getD_set (xs : List Int) (i k : Nat) (x : Int) (hi : i < xs.length) : (xs.set i x).getD k 0 = if k = i then x else xs.getD k 0 := by
  simp only [List.getD, List.getElem?_set]
  by_cases h : k = i
  · subst h; simp [hi]
  · have : ¬ i = k := fun e => h e.symm
    simp [h, this]
theorem swapL_at (xs : List Int) (i j k : Nat) (hi : i < xs.length) (hj : j < xs.length) : (swapL xs i j).getD k 0 = if k = j then xs.getD i 0 else if k = i then xs.getD j 0 else xs.getD k 0 := by
  rw [swapL, getD_set _ _ _ _ (by simpa using hj), getD_set _ _ _ _ hi]
theorem mem_at {xs : List Int} {y : Int} : y ∈ xs ↔ ∃ k, k < xs.length ∧ xs.getD k 0 = y := by
  constructor
  · intro h
    obtain ⟨k, hk, rfl⟩ := List.getElem_of_mem h
    exact ⟨k, hk, by simp [List.getElem?_eq_getElem hk]⟩
  · rintro ⟨k, hk, rfl⟩
    simp [List.getElem?_eq_getElem hk]
theorem swapL_mem (xs : List Int) (i j : Nat) (hi : i < xs.length) (hj : j < xs.length) (y : Int) : y ∈ swapL xs i j ↔ y ∈ xs := by
  rw [mem_at, mem_at, swapL_len]
  constructor
  · rintro ⟨k, hk, h⟩
    rw [swapL_at _ _ _ _ hi hj] at h
    split at h
    · exact ⟨i, hi, h⟩
    · split at h
      · exact ⟨j, hj, h⟩
      · exact ⟨k, hk, h⟩
  · rintro ⟨k, hk, h⟩
    by_cases h1 : k = i
    · subst h1; exact ⟨j, hj, by rw [swapL_at _ _ _ _ hi hj, if_pos rfl]; exact h⟩
    · by_cases h2 : k = j
      · subst h2
        refine ⟨i, hi, ?_⟩
        rw [swapL_at _ _ _ _ hi hj, if_neg (fun e => h1 e.symm), if_pos rfl]; exact h
      · exact ⟨k, hk, by rw [swapL_at _ _ _ _ hi hj, if_neg h2, if_neg h1]; exact h⟩

/-- None has more than the first. -/
def topR (R : Nat → Nat → Bool) (xs : List Int) : Prop := ∀ y ∈ xs, keyR R y ≤ keyR R (xs.getD 0 0)

/-- On the way up: x stands at j; the others have no more than m, which the first has. -/
structure UpI (R : Nat → Nat → Bool) (ys : List Int) (m x : Int) (xs : List Int) (j : Nat) : Prop where
  len : xs.length = ys.length
  mem : ∀ y, y ∈ xs ↔ y ∈ ys
  lt : j < xs.length
  me : xs.getD j 0 = x
  rest : ∀ i, i < xs.length → i ≠ j → keyR R (xs.getD i 0) ≤ m
  root : j ≠ 0 → keyR R (xs.getD 0 0) = m
  top : j = 0 → xs.length = 1 ∨ m ≤ keyR R x

theorem UpI.start {R : Nat → Nat → Bool} {xs : List Int} (x : Int) (h : topR R xs) : UpI R (xs ++ [x]) (keyR R (xs.getD 0 0)) x (xs ++ [x]) xs.length := by
  have ha : ∀ i, i < xs.length → (xs ++ [x]).getD i 0 = xs.getD i 0 := fun i hi => by simp [List.getElem?_append_left hi]
  refine ⟨rfl, fun y => Iff.rfl, by simp, by simp, fun i hi hne => ?_, fun h0 => ?_, fun h0 => .inl (by simp [h0])⟩
  · have hi' : i < xs.length := by simp at hi; omega
    rw [ha i hi']
    exact h _ (mem_at.2 ⟨i, hi', rfl⟩)
  · rw [ha 0 (by omega)]
theorem UpI.step {R : Nat → Nat → Bool} {ys xs : List Int} {m x : Int} {j : Nat} (h : UpI R ys m x xs (j + 1)) (hl : keyR R (xs.getD (j / 2) 0) < keyR R (xs.getD (j + 1) 0)) : UpI R ys m x (swapL xs (j / 2) (j + 1)) (j / 2) := by
  have hj := h.lt
  have hp : j / 2 < xs.length := by omega
  have hne : j / 2 ≠ j + 1 := by omega
  refine ⟨by rw [swapL_len, h.len], fun y => (swapL_mem _ _ _ hp hj y).trans (h.mem y), by rw [swapL_len]; exact hp, ?_, fun i hi hi2 => ?_, fun h0 => ?_, fun h0 => ?_⟩
  · rw [swapL_at _ _ _ _ hp hj, if_neg hne, if_pos rfl, h.me]
  · rw [swapL_len] at hi
    rw [swapL_at _ _ _ _ hp hj]
    split
    · exact h.rest _ hp hne
    · exact h.rest i hi (by assumption)
  · rw [swapL_at _ _ _ _ hp hj, if_neg (by omega), if_neg (fun e => h0 e.symm)]
    exact h.root (by omega)
  · right
    rw [h.me] at hl
    have := h.root (by omega)
    rw [h0] at hl
    omega
theorem UpI.stop {R : Nat → Nat → Bool} {ys xs : List Int} {m x : Int} {j : Nat} (h : UpI R ys m x xs (j + 1)) (hl : ¬ keyR R (xs.getD (j / 2) 0) < keyR R (xs.getD (j + 1) 0)) : topR R xs := by
  have hj := h.lt
  have hr := h.root (by omega)
  intro y hy
  obtain ⟨k, hk, rfl⟩ := mem_at.1 hy
  rw [hr]
  by_cases hk2 : k = j + 1
  · subst hk2
    have := h.rest (j / 2) (by omega) (by omega)
    omega
  · exact h.rest k hk hk2
theorem UpI.stop0 {R : Nat → Nat → Bool} {ys xs : List Int} {m x : Int} (h : UpI R ys m x xs 0) : topR R xs := by
  intro y hy
  obtain ⟨k, hk, rfl⟩ := mem_at.1 hy
  by_cases hk2 : k = 0
  · subst hk2; exact Int.le_refl _
  · rcases h.top rfl with h1 | h1
    · omega
    · have := h.rest k hk hk2
      rw [h.me]
      omega

end Go.Proofs.Ytigcbegeaikfcaa
