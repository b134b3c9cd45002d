/- Slots that a call made: what is carried along with them. No conditions but those typed. -/
import Derived.Test.YtigcbegeaikfcaaDoorSlotA
namespace Go.Proofs.YtigcbegeaikfcaaDoor
open Go.RowKit
set_option linter.unusedVariables false

theorem OwnSS.blocks {w : World} {B : Nat} {v : Value} {us : List Value} {ss : List (List Int)} (h : OwnSS w B v us ss) : ∀ g, rowsSS us g → B ≤ g ∧ g < w.heap.size := fun g q => by
  obtain ⟨k, u, hu, hg⟩ := q
  have hk : k < ss.length := by have := (List.getElem?_eq_some_iff.1 hu).1; rw [← h.len]; exact this
  exact (h.inn k u _ hu (List.getElem?_eq_getElem hk)).lt g hg
theorem OwnSS.push {W w1 : World} {B : Nat} {v v' sv : Value} {us : List Value} {ss : List (List Int)} {zs : List Int} (h : OwnSS W B v us ss) (hs : OwnI W B 2 sv zs) (hap : ∀ (k : Nat) (u : Value), us[k]? = some u → apartV u sv) (hvs : apartV v sv)
    (own : w1.ownsRow B 40 1 v' (us.length + 1) (us ++ [sv])) (gr : W.grownBy w1 v.ownBlock) (hat : v'.ownBlock = v.ownBlock ∨ v'.ownBlock = some W.heap.size) : OwnSS w1 B v' (us ++ [sv]) (ss ++ [zs]) := by
  have hon : Only (fun k => v.ownBlock = some k) W w1 := Only.of_grown gr (fun k e => e)
  have hget : ∀ {k : Nat} {u : Value}, (us ++ [sv])[k]? = some u → (us[k]? = some u ∧ k < us.length) ∨ (k = us.length ∧ u = sv) := fun {k u} hu => by
    by_cases hk : k < us.length
    · rw [List.getElem?_append_left hk] at hu; exact .inl ⟨hu, hk⟩
    · rw [List.getElem?_append_right (by omega)] at hu
      have hk2 : k - us.length = 0 := by
        rcases Nat.eq_zero_or_pos (k - us.length) with q | q
        · exact q
        · rw [List.getElem?_eq_none (by simp; omega)] at hu; cases hu
      rw [hk2] at hu
      exact .inr ⟨by omega, by simpa using hu.symm⟩
  refine ⟨by rw [List.length_append]; exact own, by simp [h.len], fun k u s hu hsk => ?_, fun i j u u' hij hu hu' => ?_, fun k u hu => ?_⟩
  · rcases hget hu with ⟨a, b⟩ | ⟨a, b⟩
    · rw [List.getElem?_append_left (by rw [← h.len]; exact b)] at hsk
      exact own_only (h.inn k u s a hsk) hon (fun g q e => h.out k u a g e q)
    · subst a b
      rw [h.len, List.getElem?_append_right (by omega), Nat.sub_self] at hsk
      obtain rfl : zs = s := by simpa using hsk
      exact own_only hs hon (fun g q e => hvs g e q)
  · rcases hget hu with ⟨a, b⟩ | ⟨a, b⟩ <;> rcases hget hu' with ⟨c, d⟩ | ⟨c, d⟩
    · exact h.ap i j u u' hij a c
    · subst d; exact hap i u a
    · subst b; exact fun g q r => hap j u' c g r q
    · omega
  · have hnew : ∀ q, u.ownBlock = some q → q < W.heap.size := fun q e => by
      rcases hget hu with ⟨a, b⟩ | ⟨a, b⟩
      · exact (h.blocks q ⟨k, u, a, e⟩).2
      · subst b; exact (hs.lt q e).2
    intro g e f
    rcases hat with q | q
    · rw [q] at e
      rcases hget hu with ⟨a, b⟩ | ⟨a, b⟩
      · exact h.out k u a g e f
      · subst b; exact hvs g e f
    · rw [q] at e; injection e with e; have := hnew g f; omega
/-- Kept where none of its blocks is touched. -/
theorem OwnSS.keep {S : Nat → Prop} {w w' : World} {B : Nat} {v : Value} {us : List Value} {ss : List (List Int)} (h : OwnSS w B v us ss) (on : Only S w w') (h1 : ∀ g, v.ownBlock = some g → ¬ S g) (h2 : ∀ g, rowsSS us g → ¬ S g) : OwnSS w' B v us ss :=
  ⟨own_only h.row on h1, h.len, fun k u s hu hs => own_only (h.inn k u s hu hs) on (fun g q => h2 g ⟨k, u, hu, q⟩), h.ap, h.out⟩
theorem OwnSS.empty (w : World) : OwnSS (w.alloc (.cells #[] 40)) w.heap.size (.slice (some ⟨w.heap.size, 0, none⟩) 0 0) [] [] :=
  ⟨World.ownsRow_made w #[] 0 (Nat.le_refl _) (Nat.zero_le _) (by simp), rfl, fun k u s hu => by simp at hu, fun i j u u' _ hu => by simp at hu, fun k u hu => by simp at hu⟩
theorem OwnSS.less {w : World} {B B' : Nat} {v : Value} {us : List Value} {ss : List (List Int)} (h : OwnSS w B v us ss) (hB : B' ≤ B) : OwnSS w B' v us ss :=
  ⟨own_less h.row hB, h.len, fun k u s hu hs => own_less (h.inn k u s hu hs) hB, h.ap, h.out⟩

end Go.Proofs.YtigcbegeaikfcaaDoor
