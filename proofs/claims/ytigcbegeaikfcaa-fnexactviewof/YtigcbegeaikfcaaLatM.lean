/- Joins and meets of an order: plain mathematics. -/
import Derived.Test.YtigcbegeaikfcaaHeapN
namespace Go.Proofs.Ytigcbegeaikfcaa
open Go.RowKit
set_option linter.unusedVariables false

theorem least_first {R : Nat → Nat → Bool} {p : Nat → Bool} {k : Nat} (hk : k < 6) (h : ∀ i, i < k → goodR R p i = false) (hg : goodR R p k = true) : leastT R p = (k : Int) := by
  have : (List.range 6).find? (goodR R p) = some k := by
    rw [List.find?_eq_some_iff_append]
    refine ⟨hg, List.range k, (List.range (5 - k)).map (· + (k + 1)), ?_, fun a ha => by simp [h a (List.mem_range.1 ha)]⟩
    have : k = 0 ∨ k = 1 ∨ k = 2 ∨ k = 3 ∨ k = 4 ∨ k = 5 := by omega
    rcases this with rfl | rfl | rfl | rfl | rfl | rfl <;> rfl
  simp [leastT, this]
theorem upR_iff (us : List Int) (a x : Nat) : upR us a x = true ↔ a < us.length ∧ upB us a x = true := by simp [upR, upK, upB]
theorem OrdP.inside {us : List Int} (h : OrdP us) {a x : Nat} (hx : x < 6) (p : upR us a x = true) : x < us.length := by
  obtain ⟨ha, hp⟩ := (upR_iff us a x).1 p
  rcases Nat.lt_or_ge x us.length with h' | h'
  · exact h'
  · have := bit_high (us.getD a 0) us.length x h.len.2 hx (h.low a ha).1 (h.low a ha).2 h'
    rw [upB, this] at hp; cases hp
theorem pos_up {us : List Int} (h : OrdP us) : PosR (upR us) := by
  refine ⟨fun a b c ha hb hc p q => ?_, fun a b ha hb p q => ?_⟩
  · have hci := h.inside hc q
    obtain ⟨a1, p⟩ := (upR_iff _ _ _).1 p
    obtain ⟨b1, q⟩ := (upR_iff _ _ _).1 q
    exact (upR_iff _ _ _).2 ⟨a1, h.trans a b c a1 b1 hci p q⟩
  · obtain ⟨a1, p⟩ := (upR_iff _ _ _).1 p
    obtain ⟨b1, q⟩ := (upR_iff _ _ _).1 q
    exact h.anti a b a1 b1 p q
/-- The order, turned. -/
def dnR (us : List Int) : Nat → Nat → Bool := turnR (upR us) 6
theorem dnR_iff (us : List Int) (a x : Nat) (hx : x < 6) : dnR us a x = true ↔ upR us x a = true := by simp [dnR, turnR, hx]
theorem pos_dn {us : List Int} (h : OrdP us) : PosR (dnR us) := by
  have k := pos_up h
  refine ⟨fun a b c ha hb hc p q => ?_, fun a b ha hb p q => ?_⟩
  · rw [dnR_iff us _ _ hb] at p
    rw [dnR_iff us _ _ hc] at q ⊢
    exact k.trans c b a hc hb ha q p
  · rw [dnR_iff us _ _ hb] at p
    rw [dnR_iff us _ _ ha] at q
    exact k.anti a b ha hb q p
theorem ups_at {us : List Int} (h : OrdP us) {i : Nat} (hi : i < us.length) : us.getD i 0 = setN (upR us i) := by
  have h6 := pow_le64 h.len.2
  have hl := h.low i hi
  rw [← setN_bits (us.getD i 0) hl.1 (by omega)]
  exact setN_congr fun x hx => by simp [upR, upK, hi]
theorem downs_at (us : List Int) (b : Nat) : setN (downK us b us.length) = setN (dnR us b) := by
  refine setN_congr fun x hx => ?_
  rw [Bool.eq_iff_iff, dnR_iff us _ _ hx, upR_iff]
  simp [downK]

/-- Those above both; those below both. -/
def bothR (R : Nat → Nat → Bool) (a b : Nat) : Nat → Bool := fun x => R a x && R b x
def joinS (us : List Int) (a b : Int) : Int := if ordS us && isR us a && isR us b then leastT (upR us) (bothR (upR us) a.toNat b.toNat) else -1
def meetS (us : List Int) (a b : Int) : Int := if ordS us && isR us a && isR us b then leastT (dnR us) (bothR (dnR us) a.toNat b.toNat) else -1
/-- Of each two there is one. -/
def eachR (R : Nat → Nat → Bool) (n : Nat) : Bool := (List.range n).all fun a => (List.range a).all fun b => decide (0 ≤ leastT R (bothR R a b))
def latS (us : List Int) : Bool := ordS us && eachR (upR us) us.length && eachR (dnR us) us.length

end Go.Proofs.Ytigcbegeaikfcaa
