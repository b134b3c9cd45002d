/- Layer 10 (feeds): what is shown of slots is read as them, what is read of a text is shown as it. Plain mathematics. No conditions but those typed. -/
import Derived.Test.YtigcbegeaikfcaaDoorRdsM
import Derived.Test.YtigcbegeaikfcaaDoorTxtS
namespace Go.Proofs.YtigcbegeaikfcaaDoor
open Go.RowKit
set_option linter.unusedVariables false

theorem rdS_chars {l : List UInt8} {v : Int} (h : rdS l = some v) : ∀ b ∈ l, b = 45 ∨ digB b = true := by
  cases l with
  | nil => cases h
  | cons c r =>
    by_cases hc : c = 45
    · subst hc
      rw [rdS_neg] at h
      obtain ⟨h1, h2, -⟩ := rdD_some h
      intro b hb
      rcases List.mem_cons.1 hb with e | e
      · exact .inl e
      · exact .inr (List.all_eq_true.1 h2 b e)
    · rw [rdS_pos hc] at h
      obtain ⟨h1, h2, -⟩ := rdD_some h
      exact fun b hb => .inr (List.all_eq_true.1 h2 b hb)
theorem itoa_no {x : Int} (h : wordB x = true) : (32 : UInt8) ∉ Lib.itoa x ∧ (47 : UInt8) ∉ Lib.itoa x := by
  have hc := rdS_chars (rdS_itoa h)
  constructor
  · intro hm
    rcases hc _ hm with e | e
    · exact absurd e (by decide)
    · exact absurd e (by decide)
  · intro hm
    rcases hc _ hm with e | e
    · exact absurd e (by decide)
    · exact absurd e (by decide)
theorem mem_joinI {s y : UInt8} {xs : List (List UInt8)} (h : y ∈ Lib.join xs [s]) : y = s ∨ ∃ x ∈ xs, y ∈ x := by
  cases xs with
  | nil => cases h
  | cons x r =>
    rw [Lib.join_cons, List.mem_append] at h
    rcases h with h | h
    · exact .inr ⟨x, by simp, h⟩
    · unfold Lib.joinTail at h
      rw [List.mem_flatten] at h
      obtain ⟨l, hl, hy⟩ := h
      rw [List.mem_map] at hl
      obtain ⟨z, hz, rfl⟩ := hl
      rcases List.mem_append.1 hy with q | q
      · exact .inl (by simpa using q)
      · exact .inr ⟨z, by simp [hz], q⟩
theorem mapO_back {α : Type} {f : List UInt8 → Option α} {g : α → List UInt8} (h : ∀ x a, f x = some a → g a = x) : ∀ {l : List (List UInt8)} {r : List α}, mapO f l = some r → r.map g = l
  | [], r, e => by injection e with e; rw [← e]; rfl
  | x :: l, r, e => by
    unfold mapO at e
    cases hx : f x with
    | none => rw [hx] at e; cases e
    | some a =>
      rw [hx] at e
      cases hl : mapO f l with
      | none => simp only [hl] at e; cases e
      | some b =>
        simp only [hl] at e
        injection e with e
        rw [← e, List.map_cons, h x a hx, mapO_back h hl]
theorem mapO_forth {α : Type} {f : List UInt8 → Option α} {g : α → List UInt8} : ∀ (r : List α), (∀ a ∈ r, f (g a) = some a) → mapO f (r.map g) = some r
  | [], _ => rfl
  | a :: r, h => by
    rw [List.map_cons, mapO, h a (by simp)]
    simp only [mapO_forth r (fun b hb => h b (by simp [hb]))]

theorem slot_read {t : List UInt8} {s : List Int} (h : rdSlotM t = some s) : showSlotS s = t := by
  unfold rdSlotM at h
  by_cases ht : t = [45]
  · rw [if_pos ht] at h
    injection h with h
    rw [← h, ht]
    rfl
  · rw [if_neg ht] at h
    unfold rdIntsM at h
    have hl := mapO_len h
    have hp := cutT_pos 32 t
    have hne : s ≠ [] := by rintro rfl; simp at hl; omega
    unfold showSlotS
    rw [if_neg hne, mapO_back (g := Lib.itoa) (fun x a e => (rdS_some e).2) h, pj_join]
theorem slots_read {t : List UInt8} {ss : List (List Int)} (h : rdSlotsM t = some ss) : showSlotsS ss = t := by
  unfold rdSlotsM at h
  cases hm : mapO rdSlotM (cutT 47 t) with
  | none => rw [hm] at h; cases h
  | some r =>
    rw [hm] at h
    simp only [Option.filter] at h
    by_cases hs : slotsB r = true
    · rw [if_pos hs] at h
      injection h with h
      subst h
      unfold showSlotsS
      rw [if_pos hs]
      unfold showAll
      rw [mapO_back (g := showSlotS) (fun x a e => slot_read e) hm, pj_join]
    · rw [if_neg hs] at h; cases h

theorem slot_shown {s : List Int} (h : slotB s = true) : rdSlotM (showSlotS s) = some s := by
  have hw := (slot_words h).2
  cases s with
  | nil => rfl
  | cons x r =>
    have e : showSlotS (x :: r) = Lib.join ((x :: r).map Lib.itoa) [32] := by unfold showSlotS; rw [if_neg (by simp)]
    have hc : cutT 32 (Lib.join ((x :: r).map Lib.itoa) [32]) = (x :: r).map Lib.itoa := by
      rw [List.map_cons]
      refine pj_cut _ _ (fun y hy => ?_)
      rw [← List.map_cons (f := Lib.itoa), List.mem_map] at hy
      obtain ⟨z, hz, rfl⟩ := hy
      exact (itoa_no (hw z hz)).1
    have hne : Lib.join ((x :: r).map Lib.itoa) [32] ≠ [45] := by
      intro q
      rw [q] at hc
      have h1 : ([45] : List UInt8) = Lib.itoa x ∧ ([] : List (List UInt8)) = r.map Lib.itoa := by
        have : cutT 32 [45] = [[45]] := by decide
        rw [this, List.map_cons] at hc
        injection hc with a b
        exact ⟨a, b⟩
      have h2 := rdS_itoa (hw x (by simp))
      rw [← h1.1] at h2
      revert h2
      rw [show rdS [45] = none by decide]
      exact fun q => by cases q
    rw [e]
    unfold rdSlotM
    rw [if_neg hne]
    unfold rdIntsM
    rw [hc]
    exact mapO_forth _ (fun a ha => rdS_itoa (hw a ha))
theorem slot_no {s : List Int} (h : slotB s = true) : (47 : UInt8) ∉ showSlotS s := by
  have hw := (slot_words h).2
  unfold showSlotS
  by_cases hs : s = []
  · rw [if_pos hs]; decide
  · rw [if_neg hs]
    intro hm
    rcases mem_joinI hm with e | ⟨x, hx, hy⟩
    · exact absurd e (by decide)
    · rw [List.mem_map] at hx
      obtain ⟨z, hz, rfl⟩ := hx
      exact (itoa_no (hw z hz)).2 hy
theorem slots_shown {ss : List (List Int)} (h : slotsB ss = true) : rdSlotsM (showSlotsS ss) = some ss := by
  obtain ⟨h1, h4, hw⟩ := slots_each h
  unfold showSlotsS
  rw [if_pos h]
  have hc : cutT 47 (showAll ss) = ss.map showSlotS := by
    unfold showAll
    cases ss with
    | nil => simp at h1
    | cons x r =>
      rw [List.map_cons]
      refine pj_cut _ _ (fun y hy => ?_)
      rw [← List.map_cons (f := showSlotS), List.mem_map] at hy
      obtain ⟨z, hz, rfl⟩ := hy
      exact slot_no (hw z hz)
  unfold rdSlotsM
  rw [hc, mapO_forth _ (fun a ha => slot_shown (hw a ha))]
  simp [Option.filter, h]
theorem shows_some {ss : List (List Int)} (h : showSlotsS ss ≠ []) : slotsB ss = true := by
  unfold showSlotsS at h
  by_cases q : slotsB ss = true
  · exact q
  · rw [if_neg q] at h; exact absurd rfl h

end Go.Proofs.YtigcbegeaikfcaaDoor
