/- The join of a set in a lattice: plain mathematics. -/
import Derived.Test.YtigcbegeaikfcaaLatD
namespace Go.Proofs.Ytigcbegeaikfcaa
open Go.RowKit
set_option linter.unusedVariables false

theorem both_comm (R : Nat → Nat → Bool) (a b : Nat) : bothR R a b = bothR R b a := by funext x; simp [bothR, Bool.and_comm]
theorem least_good {R : Nat → Nat → Bool} {p : Nat → Bool} (h : 0 ≤ leastT R p) : ∃ i, i < 6 ∧ goodR R p i = true ∧ leastT R p = (i : Int) := by
  rcases least_cases R p with h1 | ⟨_, e⟩
  · exact h1
  · omega
theorem lat_ord {us : List Int} (h : latS us = true) : OrdP us := by
  simp only [latS, Bool.and_eq_true] at h
  exact (ordS_iff us).1 h.1.1
theorem each_pair {R : Nat → Nat → Bool} {n : Nat} (h : eachR R n = true) (hs : ∀ a, a < n → R a a = true) {a b : Nat} (ha : a < n) (hb : b < n) (hn : n ≤ 6) : ∃ i, i < 6 ∧ goodR R (bothR R a b) i = true := by
  have key : ∀ a b, a < n → b < a → ∃ i, i < 6 ∧ goodR R (bothR R a b) i = true := fun a b ha hb => by
    simp only [eachR, List.all_eq_true, List.mem_range, decide_eq_true_eq] at h
    obtain ⟨i, h1, h2, _⟩ := least_good (h a ha b hb)
    exact ⟨i, h1, h2⟩
  rcases Nat.lt_trichotomy a b with h1 | h1 | h1
  · obtain ⟨i, h2, h3⟩ := key b a hb h1
    exact ⟨i, h2, by rw [both_comm]; exact h3⟩
  · subst h1
    refine ⟨a, by omega, goodR_iff.2 ⟨by simp [bothR, hs a ha], fun x hx hp => ?_⟩⟩
    simp only [bothR, Bool.and_self] at hp
    exact hp
  · exact key a b ha h1
theorem lat_join {us : List Int} (h : latS us = true) {a b : Nat} (ha : a < us.length) (hb : b < us.length) : ∃ i, i < us.length ∧ goodR (upR us) (bothR (upR us) a b) i = true := by
  have hP := lat_ord h
  simp only [latS, Bool.and_eq_true] at h
  obtain ⟨i, h1, h2⟩ := each_pair h.1.2 (fun x hx => (upR_iff _ _ _).2 ⟨hx, hP.self x hx⟩) ha hb hP.len.2
  refine ⟨i, ?_, h2⟩
  have := (goodR_iff.1 h2).1
  simp only [bothR, Bool.and_eq_true] at this
  exact hP.inside h1 this.1
theorem lat_meet {us : List Int} (h : latS us = true) {a b : Nat} (ha : a < us.length) (hb : b < us.length) : ∃ i, i < us.length ∧ goodR (dnR us) (bothR (dnR us) a b) i = true := by
  have hP := lat_ord h
  simp only [latS, Bool.and_eq_true] at h
  obtain ⟨i, h1, h2⟩ := each_pair h.2 (fun x hx => (dnR_iff _ _ _ (by have := hP.len; omega)).2 ((upR_iff _ _ _).2 ⟨hx, hP.self x hx⟩)) ha hb hP.len.2
  refine ⟨i, ?_, h2⟩
  have := (goodR_iff.1 h2).1
  simp only [bothR, Bool.and_eq_true, dnR_iff us _ _ h1, upR_iff] at this
  exact this.1.1

/-- r stands for the set P: just those of P are above it. -/
structure Rep (us : List Int) (r : Nat) (P : Nat → Bool) : Prop where
  lt : r < us.length
  ups : ∀ x, x < 6 → upR us r x = P x
theorem rep_least {us : List Int} (h : OrdP us) {r : Nat} {P : Nat → Bool} (k : Rep us r P) : leastT (upR us) P = (r : Int) := by
  have h6 := h.len.2
  have hr := k.lt
  refine least_yes (pos_up h) (by omega) (goodR_iff.2 ⟨?_, fun x hx hp => by rw [k.ups x hx]; exact hp⟩)
  rw [← k.ups r (by omega)]
  exact (upR_iff _ _ _).2 ⟨k.lt, h.self r k.lt⟩
/-- Those that are above all of ms. -/
def aboveR (us : List Int) (ms : List Int) : Nat → Bool := fun x => decide (x < us.length) && ms.all fun m => upR us m.toNat x
theorem above_nil (us : List Int) : aboveR us [] = fun x => decide (x < us.length) := by funext x; simp [aboveR]
theorem above_snoc (us ms : List Int) (m : Nat) : aboveR us (ms ++ [(m : Int)]) = fun x => aboveR us ms x && upR us m x := by
  funext x
  simp [aboveR, Bool.and_assoc]
theorem rep_bottom {us : List Int} (h : latS us = true) : ∃ z, Rep us z (aboveR us []) := by
  have hP := lat_ord h
  have h6 := hP.len.2
  have key : ∀ k, 1 ≤ k → k ≤ us.length → ∃ z, z < us.length ∧ ∀ x, x < k → upR us z x = true := by
    intro k
    induction k with
    | zero => intro h; omega
    | succ k ih =>
      intro _ hk
      rcases Nat.eq_zero_or_pos k with h0 | h0
      · subst h0
        exact ⟨0, by omega, fun x hx => by obtain rfl : x = 0 := (by omega); exact (upR_iff _ _ _).2 ⟨by omega, hP.self 0 (by omega)⟩⟩
      · obtain ⟨z, hz, hzx⟩ := ih h0 (by omega)
        obtain ⟨d, hd, hg⟩ := lat_meet h hz (show k < us.length from by omega)
        have := (goodR_iff.1 hg).1
        simp only [bothR, Bool.and_eq_true, dnR_iff us _ _ (show d < 6 from by omega)] at this
        refine ⟨d, hd, fun x hx => ?_⟩
        rcases Nat.lt_or_ge x k with h1 | h1
        · exact (pos_up hP).trans d z x (by omega) (by omega) (by omega) this.1 (hzx x h1)
        · obtain rfl : x = k := by omega
          exact this.2
  obtain ⟨z, hz, hzx⟩ := key us.length hP.len.1 (Nat.le_refl _)
  refine ⟨z, hz, fun x hx => ?_⟩
  rw [above_nil, Bool.eq_iff_iff, decide_eq_true_eq]
  exact ⟨fun hp => hP.inside hx hp, fun hl => hzx x hl⟩
theorem rep_step {us ms : List Int} (h : latS us = true) {r m : Nat} (k : Rep us r (aboveR us ms)) (hm : m < us.length) : ∃ c, Rep us c (aboveR us (ms ++ [(m : Int)])) ∧ leastT (upR us) (bothR (upR us) r m) = (c : Int) := by
  have hP := lat_ord h
  have h6 := hP.len.2
  have hr := k.lt
  obtain ⟨c, hc, hg⟩ := lat_join h k.lt hm
  refine ⟨c, ⟨hc, fun x hx => ?_⟩, least_yes (pos_up hP) (by omega) hg⟩
  obtain ⟨g1, g2⟩ := goodR_iff.1 hg
  simp only [bothR, Bool.and_eq_true] at g1 g2
  rw [above_snoc, Bool.eq_iff_iff, Bool.and_eq_true, ← k.ups x hx]
  exact ⟨fun hp => ⟨(pos_up hP).trans r c x (by omega) (by omega) hx g1.1 hp, (pos_up hP).trans m c x (by omega) (by omega) hx g1.2 hp⟩, fun hp => g2 x hx hp⟩

def joinAllS (us : List Int) (s : Int) : Int := if latS us && decide (0 ≤ s ∧ s ≤ 2 ^ us.length - 1) then leastT (upR us) (aboveR us (sel (bitB s) 6)) else -1
theorem sel_zero : sel (bitB 0) 6 = [] := by decide +kernel
theorem bottom_eq (us : List Int) : joinAllS us 0 = if latS us then leastT (upR us) (fun x => decide (x < us.length)) else -1 := by
  cases h : latS us
  · simp [joinAllS, h]
  · have : (1 : Int) ≤ 2 ^ us.length := Int.pow_pos (by decide)
    have e : decide ((0 : Int) ≤ 0 ∧ (0 : Int) ≤ 2 ^ us.length - 1) = true := decide_eq_true ⟨Int.le_refl _, by omega⟩
    rw [joinAllS, h, e, sel_zero, above_nil]
    rfl

end Go.Proofs.Ytigcbegeaikfcaa
