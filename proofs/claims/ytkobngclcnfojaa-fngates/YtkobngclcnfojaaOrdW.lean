/- What holds of an order: to be below goes on, not both ways, each is below itself; what is below is told the other way round; a chain. -/
import Derived.Test.YtkobngclcnfojaaOrdG
namespace Go.Proofs.Ytkobngclcnfojaa
open Go.RowKit
set_option linter.unusedVariables false

theorem w_below {us : List Int} {a b : Int} (h : belowS us a b = true) : ordS us = true ∧ ∃ i j : Nat, a = i ∧ b = j ∧ i < us.length ∧ j < us.length ∧ upB us i j = true := by
  simp only [belowS, Bool.and_eq_true] at h
  obtain ⟨⟨⟨h0, h1⟩, h2⟩, h3⟩ := h
  obtain ⟨i, rfl, hi⟩ := isR_nat h1
  obtain ⟨j, rfl, hj⟩ := isR_nat h2
  exact ⟨h0, i, j, rfl, rfl, hi, hj, by simpa using h3⟩
theorem w_of {us : List Int} (h : ordS us = true) {i j : Nat} (hi : i < us.length) (hj : j < us.length) (hu : upB us i j = true) : belowS us i j = true := by
  rw [below_of h hi hj]; exact hu
theorem w_none {us : List Int} (h : ordS us = false) (a b : Int) : belowS us a b = false ∧ downS us b = -1 ∧ chainS us = false := by
  simp [belowS, downS, chainS, h]
theorem w_anti {us : List Int} {a b : Int} (h : belowS us a b = true) (hn : a ≠ b) : belowS us b a = false := by
  obtain ⟨ho, i, j, rfl, rfl, hi, hj, hu⟩ := w_below h
  rw [below_of ho hj hi]
  have P := (ordS_iff us).1 ho
  have := P.len.2
  cases hv : upB us j i with
  | false => rfl
  | true => exact absurd (by rw [P.anti i j (by omega) (by omega) hu hv]) hn
theorem w_self {us : List Int} (ho : ordS us = true) {a : Int} (h0 : 0 ≤ a) (h1 : a < us.length) : belowS us a a = true := by
  obtain ⟨i, rfl⟩ := Int.eq_ofNat_of_zero_le h0
  have P := (ordS_iff us).1 ho
  exact w_of ho (by omega) (by omega) (P.self i (by omega))
theorem w_trans {us : List Int} {a b c : Int} (h : belowS us a b = true) (k : belowS us b c = true) : belowS us a c = true := by
  obtain ⟨ho, i, j, rfl, rfl, hi, hj, hu⟩ := w_below h
  obtain ⟨_, j', l, e, rfl, _, hl, hv⟩ := w_below k
  obtain rfl : j = j' := by omega
  have P := (ordS_iff us).1 ho
  have := P.len.2
  exact w_of ho hi hl (P.trans i j l hi hj hl hu hv)
theorem w_down {us : List Int} {b : Int} (h : 0 ≤ downS us b) {i : Nat} (hi : i < us.length) : hasB (downS us b) i = belowS us i b := by
  unfold downS at h ⊢
  split at h
  · rename_i e
    rw [if_pos e]
    simp only [Bool.and_eq_true] at e
    have := (ord_len e.1).2
    rw [has_setN _ i (by omega)]
    have hb : 0 ≤ b ∧ b < us.length := by simpa [isR] using e.2
    simp [belowS, e.1, isR, hi, hb.1, hb.2]
  · omega

/-- Of each two, one is below: the first k ranks told. -/
def chU (us : List Int) (k : Nat) : Bool := (List.range k).all fun a => (List.range us.length).all fun b => twoS us a b
theorem w_chain {us : List Int} (ho : ordS us = true) : chU us us.length = chainS us := by
  rw [Bool.eq_iff_iff, chainS_iff]
  constructor
  · intro h
    refine ⟨ho, fun a b ha hb => ?_⟩
    simp only [chU, List.all_eq_true, List.mem_range] at h
    exact h a ha b (by omega)
  · rintro ⟨_, h⟩
    simp only [chU, List.all_eq_true, List.mem_range]
    intro a ha b hb
    rcases Nat.lt_trichotomy b a with h1 | rfl | h1
    · exact h a b ha h1
    · simp [twoS, w_self ho (a := b) (by omega) (by omega)]
    · have := h b a hb h1
      unfold twoS at this ⊢
      rw [Bool.or_comm]; exact this
theorem chU_succ (us : List Int) (k : Nat) : chU us (k + 1) = (chU us k && (List.range us.length).all fun b => twoS us k b) := by
  simp [chU, List.range_succ]
theorem two_succ (us : List Int) (i k : Nat) : ((List.range (k + 1)).all fun b => twoS us i b) = (((List.range k).all fun b => twoS us i b) && (belowS us i k || belowS us k i)) := by
  simp [List.range_succ, twoS]

/-- An order and two ranks drawn. -/
def BelowDrawn (w : World) (e : Ending) (w' : World) : Prop :=
  ∃ v us a b, e = .returned (.tuple #[.agg #[v], .int .i64 a, .int .i64 b]) ∧ us.length ≤ 6 ∧ SeeI w' w'.heap.size v us ∧ Below w.heap.size w w'

end Go.Proofs.Ytkobngclcnfojaa
