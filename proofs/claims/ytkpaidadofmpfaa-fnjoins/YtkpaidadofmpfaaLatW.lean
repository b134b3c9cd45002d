/- What holds of joins and meets. Plain mathematics. -/
import Derived.Test.YtkpaidadofmpfaaLatN
import Derived.Test.YtkpaidadofmpfaaOrdW
namespace Go.Proofs.Ytkpaidadofmpfaa
open Go.RowKit
set_option linter.unusedVariables false

theorem j_comm (us : List Int) (a b : Int) : joinS us a b = joinS us b a := by
  unfold joinS
  rw [both_comm, Bool.and_assoc, Bool.and_assoc, Bool.and_comm (isR us a)]
theorem m_comm (us : List Int) (a b : Int) : meetS us a b = meetS us b a := by
  unfold meetS
  rw [both_comm, Bool.and_assoc, Bool.and_assoc, Bool.and_comm (isR us a)]
theorem jm_none {us : List Int} {a b : Int} (h : (ordS us && isR us a && isR us b) = false) : joinS us a b = -1 ∧ meetS us a b = -1 := by
  unfold joinS meetS
  rw [h]
  exact ⟨rfl, rfl⟩
theorem below_up {us : List Int} (h : ordS us = true) {i k : Nat} (hi : i < us.length) (hk : k < us.length) : belowS us i k = upR us i k := by
  rw [below_of h hi hk, Bool.eq_iff_iff, upR_iff]
  simp [hi]
theorem j_form {us : List Int} (h : ordS us = true) {i j : Nat} (hi : i < us.length) (hj : j < us.length) (h0 : 0 ≤ joinS us i j) : ∃ c, c < us.length ∧ joinS us i j = (c : Int) ∧ goodR (upR us) (bothR (upR us) i j) c = true := by
  rw [joinS_yes h hi hj] at h0 ⊢
  obtain ⟨c, h1, h2, h3⟩ := least_good h0
  refine ⟨c, ?_, h3, h2⟩
  have := (goodR_iff.1 h2).1
  simp only [bothR, Bool.and_eq_true] at this
  exact ((ordS_iff us).1 h).inside h1 this.1
theorem m_form {us : List Int} (h : ordS us = true) {i j : Nat} (hi : i < us.length) (hj : j < us.length) (h0 : 0 ≤ meetS us i j) : ∃ c, c < us.length ∧ meetS us i j = (c : Int) ∧ goodR (dnR us) (bothR (dnR us) i j) c = true := by
  rw [meetS_yes h hi hj] at h0 ⊢
  obtain ⟨c, h1, h2, h3⟩ := least_good h0
  refine ⟨c, ?_, h3, h2⟩
  have := (goodR_iff.1 h2).1
  simp only [bothR, Bool.and_eq_true, dnR_iff us _ _ h1, upR_iff] at this
  exact this.1.1
theorem j_up {us : List Int} (h : ordS us = true) {i j k : Nat} (hi : i < us.length) (hj : j < us.length) (hk : k < us.length) (h0 : 0 ≤ joinS us i j) : (belowS us i k && belowS us j k) = belowS us (joinS us i j) k := by
  have hP := (ordS_iff us).1 h
  have h6 := hP.len.2
  obtain ⟨c, hc, e, hg⟩ := j_form h hi hj h0
  obtain ⟨g1, g2⟩ := goodR_iff.1 hg
  simp only [bothR, Bool.and_eq_true] at g1 g2
  rw [e, below_up h hi hk, below_up h hj hk, below_up h hc hk, Bool.eq_iff_iff, Bool.and_eq_true]
  exact ⟨fun q => g2 k (by omega) q, fun q => ⟨(pos_up hP).trans i c k (by omega) (by omega) (by omega) g1.1 q, (pos_up hP).trans j c k (by omega) (by omega) (by omega) g1.2 q⟩⟩
theorem m_down {us : List Int} (h : ordS us = true) {i j k : Nat} (hi : i < us.length) (hj : j < us.length) (hk : k < us.length) (h0 : 0 ≤ meetS us i j) : (belowS us k i && belowS us k j) = belowS us k (meetS us i j) := by
  have hP := (ordS_iff us).1 h
  have h6 := hP.len.2
  obtain ⟨c, hc, e, hg⟩ := m_form h hi hj h0
  obtain ⟨g1, g2⟩ := goodR_iff.1 hg
  simp only [bothR, Bool.and_eq_true, dnR_iff us _ _ (show c < 6 from by omega)] at g1
  have g3 : upR us k i = true ∧ upR us k j = true → upR us k c = true := fun q => by
    have := g2 k (by omega) (by simp only [bothR, Bool.and_eq_true, dnR_iff us _ _ (show k < 6 from by omega)]; exact q)
    rwa [dnR_iff us _ _ (show k < 6 from by omega)] at this
  rw [e, below_up h hk hi, below_up h hk hj, below_up h hk hc, Bool.eq_iff_iff, Bool.and_eq_true]
  exact ⟨g3, fun q => ⟨(pos_up hP).trans k c i (by omega) (by omega) (by omega) q g1.1, (pos_up hP).trans k c j (by omega) (by omega) (by omega) q g1.2⟩⟩
/-- To be below is to have the other one for a join, oneself for a meet. -/
theorem j_eq {us : List Int} (h : ordS us = true) {i j : Nat} (hi : i < us.length) (hj : j < us.length) : (joinS us i j == (j : Int)) = belowS us i j := by
  have hP := (ordS_iff us).1 h
  have h6 := hP.len.2
  rw [joinS_yes h hi hj, below_up h hi hj, Bool.eq_iff_iff, beq_iff_eq]
  constructor
  · intro e
    rcases least_cases (upR us) (bothR (upR us) i j) with ⟨c, h1, h2, h3⟩ | ⟨_, h3⟩
    · obtain rfl : c = j := by omega
      have := (goodR_iff.1 h2).1
      simp only [bothR, Bool.and_eq_true] at this
      exact this.1
    · omega
  · intro q
    refine least_yes (pos_up hP) (by omega) (goodR_iff.2 ⟨?_, fun x hx hp => ?_⟩)
    · simp only [bothR, q, Bool.true_and]
      exact (upR_iff _ _ _).2 ⟨hj, hP.self j hj⟩
    · simp only [bothR, Bool.and_eq_true] at hp
      exact hp.2
theorem m_eq {us : List Int} (h : ordS us = true) {i j : Nat} (hi : i < us.length) (hj : j < us.length) : (meetS us i j == (i : Int)) = belowS us i j := by
  have hP := (ordS_iff us).1 h
  have h6 := hP.len.2
  rw [meetS_yes h hi hj, below_up h hi hj, Bool.eq_iff_iff, beq_iff_eq]
  constructor
  · intro e
    rcases least_cases (dnR us) (bothR (dnR us) i j) with ⟨c, h1, h2, h3⟩ | ⟨_, h3⟩
    · obtain rfl : c = i := by omega
      have := (goodR_iff.1 h2).1
      simp only [bothR, Bool.and_eq_true, dnR_iff us _ _ h1] at this
      exact this.2
    · omega
  · intro q
    refine least_yes (pos_dn hP) (by omega) (goodR_iff.2 ⟨?_, fun x hx hp => ?_⟩)
    · simp only [bothR, Bool.and_eq_true, dnR_iff us _ _ (show i < 6 from by omega)]
      exact ⟨(upR_iff _ _ _).2 ⟨hi, hP.self i hi⟩, q⟩
    · simp only [bothR, Bool.and_eq_true] at hp
      exact hp.1
theorem lat_all {us : List Int} (h : latS us = true) {i j : Nat} (hi : i < us.length) (hj : j < us.length) : 0 ≤ joinS us i j ∧ 0 ≤ meetS us i j ∧ meetS us i (joinS us i j) = i ∧ joinS us i (meetS us i j) = i := by
  have hP := lat_ord h
  have ho := (ordS_iff us).2 hP
  have h6 := hP.len.2
  obtain ⟨c, hc, gc⟩ := lat_join h hi hj
  obtain ⟨d, hd, gd⟩ := lat_meet h hi hj
  have ec : joinS us i j = (c : Int) := by rw [joinS_yes ho hi hj]; exact least_yes (pos_up hP) (by omega) gc
  have ed : meetS us i j = (d : Int) := by rw [meetS_yes ho hi hj]; exact least_yes (pos_dn hP) (by omega) gd
  have c1 := (goodR_iff.1 gc).1
  have d1 := (goodR_iff.1 gd).1
  simp only [bothR, Bool.and_eq_true] at c1
  simp only [bothR, Bool.and_eq_true, dnR_iff us _ _ (show d < 6 from by omega)] at d1
  refine ⟨by omega, by omega, ?_, ?_⟩
  · rw [ec]
    have := m_eq ho hi hc
    rw [below_up ho hi hc, c1.1, beq_iff_eq] at this
    exact this
  · rw [ed, j_comm]
    have := j_eq ho hd hi
    rw [below_up ho hd hi, d1.1, beq_iff_eq] at this
    exact this

end Go.Proofs.Ytkpaidadofmpfaa
