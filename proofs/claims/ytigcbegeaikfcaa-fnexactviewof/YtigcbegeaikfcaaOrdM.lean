/- What an order is: the program's question and the model's are one. Plain mathematics. -/
import Derived.Test.YtigcbegeaikfcaaOrdD
namespace Go.Proofs.Ytigcbegeaikfcaa
open Go.RowKit
set_option linter.unusedVariables false

def upB (us : List Int) (a b : Nat) : Bool := bitB (us.getD a 0) b
def cellS (us : List Int) (i j : Nat) : Bool := !(upB us i j && ((!decide (i = j) && upB us j i) || !decide (bits BinOp.andNot IntKind.i64 (us.getD j 0) (us.getD i 0) = 0)))
def headS (us : List Int) (i : Nat) : Bool := decide (0 ≤ us.getD i 0) && decide (us.getD i 0 / 2 ^ us.length = 0) && upB us i i
def rowS (us : List Int) (i : Nat) : Bool := headS us i && (List.range us.length).all (cellS us i)
/-- Is it an order? (As the model asks it.) -/
def ordS (us : List Int) : Bool := decide (1 ≤ us.length ∧ us.length ≤ 6) && (List.range us.length).all (rowS us)

/-- Is it an order? (As one says it.) -/
structure OrdP (us : List Int) : Prop where
  len : 1 ≤ us.length ∧ us.length ≤ 6
  low : ∀ a, a < us.length → 0 ≤ us.getD a 0 ∧ us.getD a 0 ≤ 2 ^ us.length - 1
  self : ∀ a, a < us.length → upB us a a = true
  anti : ∀ a b, a < us.length → b < us.length → upB us a b = true → upB us b a = true → a = b
  trans : ∀ a b c, a < us.length → b < us.length → c < us.length → upB us a b = true → upB us b c = true → upB us a c = true

theorem andNot_range (s t : Int) (h0 : 0 ≤ s) (h1 : s ≤ 63) (h2 : 0 ≤ t) (h3 : t ≤ 63) : bits BinOp.andNot IntKind.i64 s t = 0 ↔ ∀ x : Fin 6, bitB s (x : Nat) = true → bitB t (x : Nat) = true := by
  revert s t
  have h : ∀ i j : Fin 64, (bits BinOp.andNot IntKind.i64 ((i : Nat) : Int) ((j : Nat) : Int) = 0 ↔ ∀ x : Fin 6, bitB ((i : Nat) : Int) (x : Nat) = true → bitB ((j : Nat) : Int) (x : Nat) = true) := by decide +kernel
  intro s t h0 h1 h2 h3
  have := h ⟨s.toNat, by omega⟩ ⟨t.toNat, by omega⟩
  rwa [show ((s.toNat : Nat) : Int) = s from by omega, show ((t.toNat : Nat) : Int) = t from by omega] at this
theorem bit_high (s : Int) (n x : Nat) (hn : n ≤ 6) (hx : x < 6) (h0 : 0 ≤ s) (h1 : s ≤ 2 ^ n - 1) (hnx : n ≤ x) : bitB s x = false := by
  have h : ∀ n : Fin 7, ∀ x : Fin 6, ∀ i : Fin 64, ((i : Nat) : Int) ≤ 2 ^ (n : Nat) - 1 → (n : Nat) ≤ (x : Nat) → bitB ((i : Nat) : Int) (x : Nat) = false := by decide +kernel
  have h2 : (2 : Int) ^ n ≤ 64 := by have := (bit_small n (by omega) (by omega)).2.1; simpa using this
  have := h ⟨n, by omega⟩ ⟨x, hx⟩ ⟨s.toNat, by omega⟩
  simp only [show ((s.toNat : Nat) : Int) = s from by omega] at this
  exact this h1 hnx

theorem laidB_iff (us : List Int) : laidB us = true ↔ (1 ≤ us.length ∧ us.length ≤ 6) ∧ ∀ a, a < us.length → 0 ≤ us.getD a 0 ∧ us.getD a 0 ≤ 2 ^ us.length - 1 := by
  simp only [laidB, Bool.and_eq_true, decide_eq_true_eq, List.all_eq_true]
  refine and_congr_right fun _ => ⟨fun h a ha => ?_, fun h u hu => ?_⟩
  · have := h us[a] (List.getElem_mem _)
    simpa [List.getElem?_eq_getElem ha] using this
  · obtain ⟨a, ha, rfl⟩ := List.getElem_of_mem hu
    have := h a ha
    simpa [List.getElem?_eq_getElem ha] using this
theorem pow_le64 {n : Nat} (hn : n ≤ 6) : (2 : Int) ^ n ≤ 64 := by have := (bit_small n (by omega) (by omega)).2.1; simpa using this

theorem reach_iff (R : Nat → Nat → Bool) (b x : Nat) : reachR R b x = true ↔ ∃ k, k < 6 ∧ R b k = true ∧ R k x = true := by
  unfold reachR
  rw [mem_setN, List.any_eq_true]
  constructor
  · rintro ⟨i, hi, h⟩
    obtain ⟨j, h1, rfl, h3⟩ := mem_sel.1 hi
    rw [Int.toNat_natCast] at h h3
    exact ⟨j, h1, h3, h⟩
  · rintro ⟨k, h1, h2, h3⟩
    exact ⟨(k : Int), mem_sel.2 ⟨k, h1, rfl, by rw [Int.toNat_natCast]; exact h2⟩, by rw [Int.toNat_natCast]; exact h3⟩

theorem ordI_iff (us : List Int) : ordI us = true ↔ OrdP us := by
  simp only [ordI, Bool.and_eq_true, decide_eq_true_eq, laidB_iff]
  constructor
  · rintro ⟨⟨⟨hl, hlow⟩, h1⟩, h2⟩
    have hR : ∀ a x, upR us a x = true ↔ a < us.length ∧ upB us a x = true := fun a x => by simp [upR, upK, upB]
    have k1 : ∀ a b, a < us.length → b < us.length → (upB us a b = true ∧ upB us b a = true ↔ a = b) := fun a b ha hb => by
      have := ladR_inj h1 a b (by omega) (by omega)
      simp only [inBothR, turnR, selfR, show a < 6 from by omega, show b < 6 from by omega, if_true, decide_true, Bool.true_and, ha] at this
      rw [Bool.eq_iff_iff, Bool.and_eq_true, hR, hR, beq_iff_eq] at this
      constructor
      · rintro ⟨p, q⟩; exact (this.1 ⟨⟨ha, p⟩, hb, q⟩).symm
      · rintro rfl; have := this.2 rfl; exact ⟨this.1.2, this.1.2⟩
    refine ⟨hl, hlow, fun a ha => ((k1 a a ha ha).2 rfl).1, fun a b ha hb p q => (k1 a b ha hb).1 ⟨p, q⟩, fun a b c ha hb hc p q => ?_⟩
    have := ladR_inj h2 a c (by omega) (by omega)
    simp only [furR, show a < 6 from by omega, decide_true, Bool.true_and] at this
    have hr : reachR (upR us) a c = true := (reach_iff _ _ _).2 ⟨b, by omega, (hR a b).2 ⟨ha, p⟩, (hR b c).2 ⟨hb, q⟩⟩
    rw [hr, Bool.or_true] at this
    exact ((hR a c).1 this.symm).2
  · intro h
    have hR : ∀ a x, upR us a x = true ↔ a < us.length ∧ upB us a x = true := fun a x => by simp [upR, upK, upB]
    have hin : ∀ a x, a < us.length → x < 6 → upB us a x = true → x < us.length := fun a x ha hx p => by
      rcases Nat.lt_or_ge x us.length with h' | h'
      · exact h'
      · have := bit_high (us.getD a 0) us.length x h.len.2 hx (h.low a ha).1 (h.low a ha).2 h'
        rw [upB, this] at p; cases p
    refine ⟨⟨⟨h.len, h.low⟩, ladR_congr fun a b ha hb => ?_⟩, ladR_congr fun a c ha hc => ?_⟩
    · simp only [inBothR, turnR, selfR, ha, hb, if_true, decide_true, Bool.true_and]
      rw [Bool.eq_iff_iff, Bool.and_eq_true, Bool.and_eq_true, hR, hR, beq_iff_eq, decide_eq_true_iff]
      constructor
      · rintro ⟨⟨p, q⟩, p', q'⟩; exact ⟨p, h.anti b a p' p q' q⟩
      · rintro ⟨p, rfl⟩; exact ⟨⟨p, h.self b p⟩, p, h.self b p⟩
    · simp only [furR, ha, decide_true, Bool.true_and]
      cases hq : reachR (upR us) a c
      · simp
      · obtain ⟨k, hk, p, q⟩ := (reach_iff _ _ _).1 hq
        obtain ⟨p1, p2⟩ := (hR _ _).1 p
        obtain ⟨q1, q2⟩ := (hR _ _).1 q
        have := (hR a c).2 ⟨p1, h.trans a k c p1 q1 (hin k c q1 hc q2) p2 q2⟩
        rw [this]; rfl

theorem ordS_iff (us : List Int) : ordS us = true ↔ OrdP us := by
  simp only [ordS, Bool.and_eq_true, decide_eq_true_eq, List.all_eq_true, List.mem_range, rowS, headS]
  constructor
  · rintro ⟨hl, h⟩
    have h6 := pow_le64 hl.2
    have hp : (0 : Int) < 2 ^ us.length := Int.pow_pos (by decide)
    have hlow : ∀ a, a < us.length → 0 ≤ us.getD a 0 ∧ us.getD a 0 ≤ 2 ^ us.length - 1 := fun a ha => by
      have := (h a ha).1.1
      refine ⟨this.1, ?_⟩
      have e := Int.mul_ediv_add_emod (us.getD a 0) (2 ^ us.length)
      rw [this.2, Int.mul_zero, Int.zero_add] at e
      have := Int.emod_lt_of_pos (us.getD a 0) hp
      rw [e] at this
      omega
    refine ⟨hl, hlow, fun a ha => (h a ha).1.2, fun a b ha hb p q => ?_, fun a b c ha hb hc p q => ?_⟩
    · have := (h a ha).2 b hb
      simp only [cellS, p, q, Bool.true_and, Bool.and_true, Bool.not_eq_true', Bool.or_eq_false_iff, Bool.not_eq_false', decide_eq_true_eq] at this
      exact this.1
    · have := (h a ha).2 b hb
      simp only [cellS, p, Bool.true_and, Bool.not_eq_true', Bool.or_eq_false_iff, Bool.not_eq_false', decide_eq_true_eq] at this
      have l1 := hlow a ha
      have l2 := hlow b hb
      exact (andNot_range _ _ l2.1 (by omega) l1.1 (by omega)).1 this.2 ⟨c, by omega⟩ q
  · intro h
    have h6 := pow_le64 h.len.2
    refine ⟨h.len, fun a ha => ⟨⟨⟨(h.low a ha).1, ?_⟩, h.self a ha⟩, fun b hb => ?_⟩⟩
    · have := h.low a ha
      exact Int.ediv_eq_zero_of_lt this.1 (by omega)
    · cases p : upB us a b
      · simp [cellS, p]
      · have l1 := h.low a ha
        have l2 := h.low b hb
        have hsub : bits BinOp.andNot IntKind.i64 (us.getD b 0) (us.getD a 0) = 0 := (andNot_range _ _ l2.1 (by omega) l1.1 (by omega)).2 (fun x q => by
          rcases Nat.lt_or_ge (x : Nat) us.length with h' | h'
          · exact h.trans a b x ha hb h' p q
          · have := bit_high (us.getD b 0) us.length x h.len.2 x.2 l2.1 l2.2 h'
            rw [this] at q; cases q)
        simp only [cellS, p, hsub, Bool.true_and, decide_true, Bool.not_true, Bool.or_false, Bool.not_eq_true', Bool.and_eq_false_iff, Bool.not_eq_false', decide_eq_true_eq]
        cases q : upB us b a
        · exact .inr rfl
        · exact .inl (h.anti a b ha hb p q)
theorem ordI_eq (us : List Int) : ordI us = ordS us := by
  rw [Bool.eq_iff_iff, ordI_iff, ordS_iff]

end Go.Proofs.Ytigcbegeaikfcaa
