/- The least one of a set under a relation: plain mathematics. -/
import Derived.Test.YtigcbegeaikfcaaHeapM
namespace Go.Proofs.Ytigcbegeaikfcaa
open Go.RowKit
set_option linter.unusedVariables false

/-- i is in the set p, and all of p are in R of i. -/
def goodR (R : Nat → Nat → Bool) (p : Nat → Bool) (i : Nat) : Bool := p i && (List.range 6).all fun x => !p x || R i x
theorem goodR_iff {R : Nat → Nat → Bool} {p : Nat → Bool} {i : Nat} : goodR R p i = true ↔ p i = true ∧ ∀ x, x < 6 → p x = true → R i x = true := by
  simp only [goodR, Bool.and_eq_true, List.all_eq_true, List.mem_range, Bool.or_eq_true, Bool.not_eq_true']
  refine and_congr_right fun _ => ⟨fun h x hx hp => ?_, fun h x hx => ?_⟩
  · rcases h x hx with h | h
    · rw [hp] at h; cases h
    · exact h
  · cases hp : p x
    · exact .inl rfl
    · exact .inr (h x hx hp)
/-- The least one of the set p (-1: there is none): the first that is good. -/
def leastT (R : Nat → Nat → Bool) (p : Nat → Bool) : Int := match (List.range 6).find? (goodR R p) with | some i => (i : Int) | none => -1
theorem least_cases (R : Nat → Nat → Bool) (p : Nat → Bool) : (∃ i, i < 6 ∧ goodR R p i = true ∧ leastT R p = (i : Int)) ∨ ((∀ i, i < 6 → goodR R p i = false) ∧ leastT R p = -1) := by
  unfold leastT
  cases h : (List.range 6).find? (goodR R p) with
  | none =>
    right
    refine ⟨fun i hi => ?_, rfl⟩
    have := List.find?_eq_none.1 h i (List.mem_range.2 hi)
    simpa using this
  | some i => exact .inl ⟨i, List.mem_range.1 (List.mem_of_find?_eq_some h), List.find?_some h, rfl⟩
structure PosR (R : Nat → Nat → Bool) : Prop where
  trans : ∀ a b c, a < 6 → b < 6 → c < 6 → R a b = true → R b c = true → R a c = true
  anti : ∀ a b, a < 6 → b < 6 → R a b = true → R b a = true → a = b
theorem good_one {R : Nat → Nat → Bool} (h : PosR R) {p : Nat → Bool} {i j : Nat} (hi : i < 6) (hj : j < 6) (gi : goodR R p i = true) (gj : goodR R p j = true) : i = j := by
  rw [goodR_iff] at gi gj
  exact h.anti i j hi hj (gi.2 j hj gj.1) (gj.2 i hi gi.1)
theorem least_yes {R : Nat → Nat → Bool} (h : PosR R) {p : Nat → Bool} {i : Nat} (hi : i < 6) (gi : goodR R p i = true) : leastT R p = (i : Int) := by
  rcases least_cases R p with ⟨j, hj, gj, e⟩ | ⟨hn, _⟩
  · rw [e, good_one h hi hj gi gj]
  · rw [hn i hi] at gi; cases gi
theorem least_no {R : Nat → Nat → Bool} {p : Nat → Bool} (h : ∀ i, i < 6 → goodR R p i = false) : leastT R p = -1 := by
  rcases least_cases R p with ⟨j, hj, gj, e⟩ | ⟨_, e⟩
  · rw [h j hj] at gj; cases gj
  · exact e

theorem cnt_sub (s t : Int) (h0 : 0 ≤ s) (h1 : s ≤ 63) (h2 : 0 ≤ t) (h3 : t ≤ 63) (h : ∀ x : Fin 6, bitB s (x : Nat) = true → bitB t (x : Nat) = true) : cntB s ≤ cntB t ∧ (cntB t ≤ cntB s → t = s) := by
  revert h
  have k : ∀ i j : Fin 64, (∀ x : Fin 6, bitB ((i : Nat) : Int) (x : Nat) = true → bitB ((j : Nat) : Int) (x : Nat) = true) → cntB ((i : Nat) : Int) ≤ cntB ((j : Nat) : Int) ∧ (cntB ((j : Nat) : Int) ≤ cntB ((i : Nat) : Int) → ((j : Nat) : Int) = ((i : Nat) : Int)) := by decide +kernel
  have := k ⟨s.toNat, by omega⟩ ⟨t.toNat, by omega⟩
  rwa [show ((s.toNat : Nat) : Int) = s from by omega, show ((t.toNat : Nat) : Int) = t from by omega] at this
theorem cnt_sets {p q : Nat → Bool} (h : ∀ x, x < 6 → p x = true → q x = true) : cntB (setN p) ≤ cntB (setN q) ∧ (cntB (setN q) ≤ cntB (setN p) → ∀ x, x < 6 → q x = p x) := by
  have hp := setN_range p
  have hq := setN_range q
  obtain ⟨a, b⟩ := cnt_sub (setN p) (setN q) hp.1 hp.2 hq.1 hq.2 (fun x hx => by
    rw [bit_setN _ _ x.2] at hx ⊢
    exact h x x.2 hx)
  exact ⟨a, fun hc x hx => setN_inj (b hc) x hx⟩

/-- Who has the most is the least one, if there is one. -/
theorem most_least {R : Nat → Nat → Bool} (h : PosR R) {p : Nat → Bool} {r : Nat} (hr : r < 6) (hp : p r = true) (hm : ∀ y, y < 6 → p y = true → keyR R y ≤ keyR R r) : leastT R p = if goodR R p r then (r : Int) else -1 := by
  cases hg : goodR R p r
  · refine least_no fun i hi => ?_
    cases hgi : goodR R p i
    · rfl
    · exfalso
      have gi := goodR_iff.1 hgi
      have k := hm i hi gi.1
      simp only [keyR, Int.toNat_natCast] at k
      have hir := gi.2 r hr hp
      have e := (cnt_sets (p := R r) (q := R i) (fun x hx hx2 => h.trans i r x hi hr hx hir hx2)).2 k i hi
      rw [gi.2 i hi gi.1] at e
      have := h.anti i r hi hr hir e.symm
      subst this
      rw [hg] at hgi; cases hgi
  · rw [if_pos rfl]; exact least_yes h hr hg
theorem good_test {R : Nat → Nat → Bool} {p : Nat → Bool} {r : Nat} (hp : p r = true) : (bits BinOp.and IntKind.i64 (setN (R r)) (setN p) != setN p) = !goodR R p r := by
  rw [setN_and]
  cases hg : goodR R p r
  · simp only [Bool.not_false, bne_iff_ne, ne_eq]
    intro e
    have : goodR R p r = true := goodR_iff.2 ⟨hp, fun x hx hpx => by
      have := setN_inj e x hx
      rw [hpx, Bool.and_true] at this
      exact this⟩
    rw [hg] at this; cases this
  · simp only [Bool.not_true, bne_eq_false_iff_eq]
    refine setN_congr fun x hx => ?_
    cases hpx : p x
    · simp
    · rw [(goodR_iff.1 hg).2 x hx hpx]; rfl

end Go.Proofs.Ytigcbegeaikfcaa
