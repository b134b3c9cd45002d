/- Layer 10 (feeds): slots read from a text: what is read (twins of the model and of the program; they are one). Plain mathematics. No conditions but those typed. -/
import Derived.Test.YtigcbegeaikfcaaDoorCutA
import Derived.Test.YtigcbegeaikfcaaDoorSltM
namespace Go.Proofs.YtigcbegeaikfcaaDoor
open Go.RowKit
set_option linter.unusedVariables false

/-- All of a list read; nothing where one is not. -/
def mapO {α : Type} (f : List UInt8 → Option α) : List (List UInt8) → Option (List α)
  | [] => some []
  | x :: r => match f x with
    | none => none
    | some a => match mapO f r with
      | none => none
      | some b => some (a :: b)
theorem mapO_len {α : Type} {f : List UInt8 → Option α} : ∀ {l : List (List UInt8)} {r : List α}, mapO f l = some r → r.length = l.length
  | [], r, h => by
    injection h with h
    rw [← h]; rfl
  | x :: l, r, h => by
    unfold mapO at h
    cases hx : f x with
    | none => rw [hx] at h; cases h
    | some a =>
      rw [hx] at h
      cases hl : mapO f l with
      | none => simp only [hl] at h; cases h
      | some b =>
        simp only [hl] at h
        injection h with h
        rw [← h, List.length_cons, List.length_cons, mapO_len hl]
theorem mapO_snoc {α : Type} {f : List UInt8 → Option α} {x : List UInt8} {a : α} (hx : f x = some a) : ∀ {l : List (List UInt8)} {r : List α}, mapO f l = some r → mapO f (l ++ [x]) = some (r ++ [a])
  | [], r, h => by
    injection h with h
    rw [← h]
    simp [mapO, hx]
  | y :: l, r, h => by
    unfold mapO at h
    cases hy : f y with
    | none => rw [hy] at h; cases h
    | some b =>
      rw [hy] at h
      cases hl : mapO f l with
      | none => simp only [hl] at h; cases h
      | some c =>
        simp only [hl] at h
        injection h with h
        rw [← h, List.cons_append, mapO, hy]
        simp only [mapO_snoc hx hl]
        rfl
theorem mapO_none {α : Type} {f : List UInt8 → Option α} {x : List UInt8} (hx : f x = none) : ∀ {l : List (List UInt8)}, x ∈ l → mapO f l = none
  | y :: l, h => by
    unfold mapO
    cases hy : f y with
    | none => rfl
    | some b =>
      rcases List.mem_cons.1 h with e | e
      · subst e; rw [hx] at hy; cases hy
      · simp only [mapO_none hx e]
theorem mapO_at {α : Type} {f : List UInt8 → Option α} {ts : List (List UInt8)} {k : Nat} {x : List UInt8} {xs : List α} {a : α} (h : mapO f (ts.take k) = some xs) (hx : ts[k]? = some x) (ha : f x = some a) : mapO f (ts.take (k + 1)) = some (xs ++ [a]) := by
  rw [List.take_add_one, hx]
  exact mapO_snoc ha h
theorem mapO_out {α : Type} {f : List UInt8 → Option α} {ts : List (List UInt8)} {k : Nat} {x : List UInt8} (hx : ts[k]? = some x) (ha : f x = none) : mapO f ts = none := mapO_none ha (List.mem_of_getElem? hx)
theorem mapO_filter {α : Type} {f g : List UInt8 → Option α} {p : α → Bool} (h : ∀ x, g x = (f x).filter p) : ∀ l, mapO g l = (mapO f l).filter fun r => r.all p
  | [] => by simp [mapO, Option.filter]
  | x :: l => by
    unfold mapO
    rw [h x, mapO_filter h l]
    cases hx : f x with
    | none => rfl
    | some a =>
      cases hl : mapO f l with
      | none => cases hp : p a <;> simp [Option.filter, hp]
      | some r => cases hp : p a <;> cases hr : r.all p <;> simp [Option.filter, hp, hr]
theorem mapO_all {α : Type} {f : List UInt8 → Option α} {p : α → Bool} (h : ∀ x a, f x = some a → p a = true) : ∀ {l : List (List UInt8)} {r : List α}, mapO f l = some r → r.all p = true
  | [], r, e => by injection e with e; rw [← e]; rfl
  | x :: l, r, e => by
    unfold mapO at e
    cases hx : f x with
    | none => rw [hx] at e; cases e
    | some a =>
      rw [hx] at e
      cases hl : mapO f l with
      | none => simp only [hl] at e; cases e
      | some b =>
        simp only [hl] at e
        injection e with e
        rw [← e, List.all_cons, h x a hx, mapO_all h hl]
        rfl

/-- The model's. -/
def rdIntsM (t : List UInt8) : Option (List Int) := mapO rdS (cutT 32 t)
def rdSlotM (t : List UInt8) : Option (List Int) := if t = [45] then some [] else rdIntsM t
def rdSlotsM (t : List UInt8) : Option (List (List Int)) := (mapO rdSlotM (cutT 47 t)).filter slotsB
/-- The program's. -/
def rdIntsP (t : List UInt8) : Option (List Int) := if (cutT 32 t).length ≤ 40 then mapO rdS (cutT 32 t) else none
def rdSlotP (t : List UInt8) : Option (List Int) := if t = [45] then some [] else rdIntsP t
def rdSlotsP (t : List UInt8) : Option (List (List Int)) := if (cutT 47 t).length ≤ 4 then mapO rdSlotP (cutT 47 t) else none

theorem rdSlot_same (t : List UInt8) : rdSlotP t = (rdSlotM t).filter slotB := by
  unfold rdSlotP rdSlotM
  by_cases h : t = [45]
  · rw [if_pos h, if_pos h]; simp [Option.filter, slotB]
  · rw [if_neg h, if_neg h]
    unfold rdIntsP rdIntsM
    cases hm : mapO rdS (cutT 32 t) with
    | none => simp
    | some a =>
      have hl := mapO_len hm
      have hw := mapO_all (p := wordB) (fun x v hv => (rdS_some hv).1) hm
      by_cases h40 : (cutT 32 t).length ≤ 40
      · have hs : slotB a = true := by rw [slotB, hw, hl, decide_eq_true h40]; rfl
        rw [if_pos h40]; simp [Option.filter, hs]
      · have hs : slotB a = false := by rw [slotB, hw, hl, decide_eq_false h40]; rfl
        rw [if_neg h40]; simp [Option.filter, hs]
theorem rdSlots_same (t : List UInt8) : rdSlotsP t = rdSlotsM t := by
  unfold rdSlotsP rdSlotsM
  rw [mapO_filter rdSlot_same]
  cases hm : mapO rdSlotM (cutT 47 t) with
  | none => simp
  | some ss =>
    have hl := mapO_len hm
    have h1 := cutT_pos 47 t
    by_cases h4 : (cutT 47 t).length ≤ 4
    · have hs : slotsB ss = ss.all slotB := by rw [slotsB, hl, decide_eq_true ⟨h1, h4⟩, Bool.true_and]
      rw [if_pos h4]; simp [Option.filter, hs]
    · have hs : slotsB ss = false := by rw [slotsB, hl, decide_eq_false (fun q => h4 q.2), Bool.false_and]
      rw [if_neg h4]; simp [Option.filter, hs]
theorem cutM_short (b : UInt8) : ∀ (l : List UInt8), ∀ x ∈ cutT b l, x.length ≤ l.length
  | [], x, hx => by
    have : x = [] := by simpa [cutT] using hx
    subst this; simp
  | c :: l, x, hx => by
    by_cases h : c = b
    · subst h
      rw [cutT_hit] at hx
      rcases List.mem_cons.1 hx with e | e
      · subst e; simp
      · have := cutM_short c l x e; rw [List.length_cons]; omega
    · obtain ⟨y, r, e⟩ := cutT_ne b l
      rw [cutT_miss h e] at hx
      have ih := cutM_short b l
      rw [e] at ih
      rcases List.mem_cons.1 hx with q | q
      · subst q
        have := ih y (by simp)
        rw [List.length_cons, List.length_cons]; omega
      · have := ih x (by simp [q])
        rw [List.length_cons]; omega

end Go.Proofs.YtigcbegeaikfcaaDoor
