/- The model's IsChain. -/
import Derived.Test.YtigcbegeaikfcaaOrdF
namespace Go.Proofs.Ytigcbegeaikfcaa
open Go.RowKit
set_option linter.unusedVariables false

theorem below_of {us : List Int} (h : ordS us = true) {a b : Nat} (ha : a < us.length) (hb : b < us.length) : belowS us a b = upB us a b := by
  have h1 : isR us a = true := by simp [isR, ha]
  have h2 : isR us b = true := by simp [isR, hb]
  simp only [belowS, h, h1, h2, Bool.true_and, Int.toNat_natCast]
theorem ord_in {us : List Int} (h : OrdP us) {a x : Nat} (ha : a < us.length) (hx : x < 6) (p : upB us a x = true) : x < us.length := by
  rcases Nat.lt_or_ge x us.length with h' | h'
  · exact h'
  · have := bit_high (us.getD a 0) us.length x h.len.2 hx (h.low a ha).1 (h.low a ha).2 h'
    rw [upB, this] at p; cases p
def twoS (us : List Int) (a b : Nat) : Bool := belowS us a b || belowS us b a
theorem chainS_iff (us : List Int) : chainS us = true ↔ ordS us = true ∧ ∀ a b, a < us.length → b < a → twoS us a b = true := by
  simp only [chainS, Bool.and_eq_true, decide_eq_true_eq]
  refine and_congr_right fun ho => ?_
  have hP := (ordS_iff us).1 ho
  have hl := hP.len
  constructor
  · intro h a b ha hb
    have := ladR_inj h a b (by omega) (by omega)
    simp only [inEitherR, turnR, everyR, show a < 6 from by omega, show b < 6 from by omega, show b < us.length from by omega, ha, if_true, decide_true, Bool.true_and, upR, upK] at this
    rw [twoS, below_of ho ha (by omega), below_of ho (by omega) ha]
    exact this
  · intro h
    refine ladR_congr fun a b ha hb => ?_
    simp only [inEitherR, turnR, everyR, ha, hb, if_true, decide_true, Bool.true_and, upR, upK]
    by_cases p : a < us.length <;> by_cases q : b < us.length
    · simp only [p, q, decide_true, Bool.true_and]
      show (upB us a b || upB us b a) = true
      rcases Nat.lt_trichotomy a b with e | e | e
      · have := h b a q e
        rw [twoS, below_of ho q p, below_of ho p q] at this
        rwa [Bool.or_comm]
      · subst e
        rw [hP.self a p]; rfl
      · have := h a b p e
        rwa [twoS, below_of ho p q, below_of ho q p] at this
    · simp only [p, q, decide_true, decide_false, Bool.true_and, Bool.false_and, Bool.or_false]
      cases e : bitB (us.getD a 0) b
      · rfl
      · exact absurd (ord_in hP p hb e) q
    · simp only [p, q, decide_true, decide_false, Bool.true_and, Bool.false_and, Bool.false_or]
      cases e : bitB (us.getD b 0) a
      · rfl
      · exact absurd (ord_in hP q ha e) p
    · simp only [p, q, decide_false, Bool.false_and, Bool.or_false]
theorem chain_no {us : List Int} {a b : Nat} (ha : a < us.length) (hb : b < a) (h : twoS us a b = false) : chainS us = false := by
  cases e : chainS us
  · rfl
  · rw [((chainS_iff us).1 e).2 a b ha hb] at h; cases h
theorem chain_yes {us : List Int} (h : ∀ a b, a < us.length → b < a → twoS us a b = true) : chainS us = ordS us := by
  cases e : ordS us
  · simp [chainS, e]
  · exact (chainS_iff us).2 ⟨e, h⟩

end Go.Proofs.Ytigcbegeaikfcaa
