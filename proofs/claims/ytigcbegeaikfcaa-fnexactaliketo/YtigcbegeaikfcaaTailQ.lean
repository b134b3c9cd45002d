/- A region that draws its order, whose first n operations each hand back one value whatever later world they meet (calls that make memory among them), and whose other ones come one behind the other: one walk of the first ones, then the others as a list. No function of the program is named. -/
import Derived.Test.YtigcbegeaikfcaaLowA
import Derived.StillTail
import Derived.Deep.Quiet
namespace Go.Proofs.Ytigcbegeaikfcaa
open Go.RowKit
set_option linter.unusedVariables false

section
variable {P : Program} {ops : Array Oper} {md : Region.Mode} {C : World → Prop}

/-- f operations below n come up, in whatever order; behind them L. -/
def HeadC (P : Program) (md : Region.Mode) (ops : Array Oper) (C : World → Prop) (n : Nat) (L : Array Bool → Act → Prop) : Nat → Array Bool → Act → Prop
  | 0 => L
  | f + 1 => fun s a => Region.ready md ops s ≠ [] ∧ ∀ k ∈ Region.ready md ops s, k < n ∧ qOp P ops C k (HeadC P md ops C n L f (s.setIfInBounds k true)) a

theorem headC_any {n g : Nat} {L : Array Bool → Act → Prop} {Q : Exit → Act → World → Prop} (hL : ∀ s a w, C w → L s a → wpAny P md ops Q g s a w) :
    ∀ (f : Nat) (s : Array Bool) (a : Act) (w : World), C w → HeadC P md ops C n L f s a → wpAny P md ops Q (f + g) s a w
  | 0, s, a, w, hw, h => by rw [Nat.zero_add]; exact hL s a w hw h
  | f + 1, s, a, w, hw, h => by
    have e : f + 1 + g = (f + g) + 1 := by omega
    rw [e]
    exact ⟨fun z => absurd z h.1, fun k hk => wpOp_of_qOp hw (fun a' w' hw' h' => headC_any hL f _ a' w' hw' h') (h.2 k hk).2⟩

theorem headC_take {n i : Nat} {o : Oper} {v : Value} {L : Array Bool → Act → Prop} (hi : ops[i]? = some o) (hsel : ∀ (j : Nat) (x : Oper) cs b, ops[j]? = some x → x.op ≠ .select cs b)
    (hb : ∀ s, HeadInv md ops n s → s.getD i true = false → ∀ j ∈ Region.ready md ops s, j < n) (hL : ∀ s a, L s a → ∀ j ∈ Region.ready md ops s, n ≤ j) :
    ∀ (f : Nat) (s : Array Bool) (a : Act), HeadInv md ops n s →
      (∀ j x, ops[j]? = some x → j ≠ i → s.getD j true = false → (∀ e ∈ x.after, Region.binds md e = true → e.on ≠ i) → o.apart ops x = true) →
      i ∈ Region.ready md ops s → YieldsIn P ops C o v a → HeadC P md ops C n L f (s.setIfInBounds i true) (a.put o.dst v) → HeadC P md ops C n L (f + 1) s a
  | 0, s, a, inv, _, hr, hy, H => ⟨List.ne_nil_of_mem hr, fun j hj => by
      have hjn := hb s inv (mem_ready.1 hr).1 j hj
      refine ⟨hjn, ?_⟩
      by_cases e : j = i
      · subst e; exact hy.qOp hi H
      · have := hL _ _ H j (ready_mono hj e)
        omega⟩
  | f + 1, s, a, inv, fr, hr, hy, H => ⟨List.ne_nil_of_mem hr, fun j hj => by
      have hun := (mem_ready.1 hr).1
      have hjn := hb s inv hun j hj
      refine ⟨hjn, ?_⟩
      by_cases e : j = i
      · subst e; exact hy.qOp hi H
      obtain ⟨hju, x, hx, hall⟩ := mem_ready.1 hj
      have hfree := fr j x hx e hju (fun d hd hbd hon => by
        have q := hall d hd hbd
        rw [hon, getD_both hun] at q
        cases q)
      have step := qOp_put hx hfree (fun cs b => hsel i o cs b hi) (fun cs b => hsel j x cs b hx) hy (H.2 j (ready_mono hj e)).2
      refine qOp_mono (fun a' h3 => headC_take hi hsel hb hL f (s.setIfInBounds j true) a' (inv.set hj hjn) (fun k y hk hki hku hno => fr k y hk hki ?_ hno) (ready_mono hr (fun q => e q.symm)) h3.1 ?_) step
      · by_cases jk : j = k
        · subst jk; exact hju
        · rwa [getD_set_ne true jk] at hku
      · rw [Array.setIfInBounds_comm _ _ e]
        exact h3.2⟩

theorem headC_lex {n g : Nat} {R : Act → Prop} (hsel : Region.noSelect ops = true) (hs : Region.sinkB md ops n = true) (hc : Region.chainB md ops n = true) (hn : n < ops.size) :
    ∀ (l : List Oper) (k : Nat) (s : Array Bool) (a : Act), (∀ j, j < l.length → l[j]? = ops[k + j]?) → k + l.length = n → HeadInv md ops n s → Region.lexHead md ops g l.length k s = true →
      wpQuiet P ops C R l a → HeadC P md ops C n (fun s' a' => Region.seqB md ops g n s' = true ∧ R a') l.length s a
  | [], k, s, a, _, hk, _, hB, h => by
    obtain rfl : k = n := by simpa using hk
    exact ⟨by simpa [Region.lexHead] using hB, h⟩
  | o :: l, k, s, a, hl, hk, inv, hB, h => by
    have h0 : ops[k]? = some o := by simpa using (hl 0 (by simp)).symm
    simp only [List.length_cons] at hk hB ⊢
    simp only [Region.lexHead, Bool.and_eq_true] at hB
    have hkn : k < n := by omega
    have hr : k ∈ Region.ready md ops s := by simpa using hB.1.1
    have hq : qOp P ops C k (wpQuiet P ops C R l) a := by unfold qOp; simp only [h0]; exact h
    obtain ⟨v, hy, hK⟩ := yieldsIn_of_qOp h0 hq
    refine headC_take h0 (Region.noSelect_spec hsel) (fun s' inv' hu j hj => ?_) (fun s' a' hL => seqB_ready hL.1) l.length s a inv (Region.free_spec h0 hB.1.2) hr hy
      (headC_lex hsel hs hc hn l (k + 1) _ _ (fun j hj => by have := hl (j + 1) (by simp; omega); simpa [Nat.add_assoc, Nat.add_comm 1 j] using this) (by omega) (inv.set hr hkn) hB.2 hK)
    rcases Nat.lt_or_ge j n with q | q
    · exact q
    · exact absurd hj (tail_waits hs hc hn inv' _ k rfl hkn hu j q)

/-- In a class of worlds. -/
theorem region_class_tail {id : Nat} {Q : Exit → Act → World → Prop} {a : Act} {w : World} {l : List Oper} (n : Nat) (hm : P.follows .mixedOrders = true) (hB : Region.lexTailB .any l.toArray n = true) (hC : C { w with drawn := w.drawn + 1 })
    (h : wpQuiet P l.toArray C (fun a' => ∀ w', C w' → wpList P l.toArray Q (l.drop n) a' w') (l.take n) a) : (Code.region id l.toArray true).wp P Q a w := by
  simp only [Region.lexTailB, Bool.and_eq_true, decide_eq_true_eq] at hB
  obtain ⟨⟨⟨⟨hsel, hn⟩, hs⟩, hc⟩, hx⟩ := hB
  have hnl : n < l.length := by simpa using hn
  have ht : (l.take n).length = n := by simp; omega
  have hd : (l.drop n).length = l.toArray.size - n := by simp
  have inv : HeadInv .any l.toArray n (Array.replicate l.toArray.size false) :=
    ⟨by simp, fun j oj _ hl => (by rw [getD_replicate_false] at hl; cases hl), fun t _ q => getD_in (by simpa using q) (getD_replicate_false _ _)⟩
  have H := headC_lex (md := .any) (g := l.toArray.size - n) hsel hs hc hn (l.take n) 0 _ a (fun j hj => by
    rw [ht] at hj
    simp [hj]) (by simpa using ht) inv (by rw [ht]; exact hx) h
  have K := headC_any (Q := Q) (g := l.toArray.size - n) (fun s a' w' hw' hL => by
    have q := wpAny_of_seq (md := .any) (Q' := Q) (l.drop n) n s a' w' (fun j => by simp [List.getElem?_drop]) (by rw [hd]; exact hL.1) (hL.2 w' hw')
    rwa [hd] at q) _ _ _ _ hC H
  refine wp_region_any hm ?_
  rw [ht, show n + (l.toArray.size - n) = l.toArray.size by omega] at K
  exact K

/-- In the later worlds. -/
theorem region_later_tail {id : Nat} {Q : Exit → Act → World → Prop} {a : Act} {w : World} {l : List Oper} (n : Nat) (hm : P.follows .mixedOrders = true) (hB : Region.lexTailB .any l.toArray n = true)
    (h : wpQuiet P l.toArray (fun w' => ∃ i : Later w, w' = i.now) (fun a' => ∀ w', (∃ i : Later w, w' = i.now) → wpList P l.toArray Q (l.drop n) a' w') (l.take n) a) : (Code.region id l.toArray true).wp P Q a w :=
  region_class_tail (C := fun w' => ∃ i : Later w, w' = i.now) n hm hB ⟨⟨_, (Below.refl _ _).drew⟩, rfl⟩ h
end

end Go.Proofs.Ytigcbegeaikfcaa
