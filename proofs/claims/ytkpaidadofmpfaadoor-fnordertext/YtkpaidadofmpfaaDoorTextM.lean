/- An order's text, read, gives the order; what is read, shown, is the text. Plain mathematics. -/
import Derived.Test.YtkpaidadofmpfaaDoorShowA
import Derived.Test.YtkpaidadofmpfaaDoorReadM
namespace Go.Proofs.YtkpaidadofmpfaaDoor
open Go.RowKit
set_option linter.unusedVariables false

theorem joinTail_cons (sep x : List UInt8) (r : List (List UInt8)) : Lib.joinTail sep (x :: r) = sep ++ x ++ Lib.joinTail sep r := by simp [Lib.joinTail]
theorem cut_app {b : UInt8} {y h : List UInt8} {t : List (List UInt8)} (hy : cutT b y = h :: t) : ∀ x : List UInt8, b ∉ x → cutT b (x ++ y) = (x ++ h) :: t
  | [], _ => hy
  | c :: x, hx => by
    rw [List.mem_cons, not_or] at hx
    exact cutT_miss (fun e => hx.1 e.symm) (cut_app hy x hx.2)
theorem cut_join {b : UInt8} : ∀ (r : List (List UInt8)) (x : List UInt8), (∀ y ∈ x :: r, b ∉ y) → cutT b (Lib.join (x :: r) [b]) = x :: r
  | [], x, h => by
    rw [Lib.join_one]
    have := cut_app (b := b) (y := []) (h := []) (t := []) rfl x (h x (List.mem_cons_self ..))
    simpa using this
  | z :: r, x, h => by
    rw [Lib.join_cons, joinTail_cons]
    have ih := cut_join r z (fun y hy => h y (List.mem_cons_of_mem _ hy))
    rw [Lib.join_cons] at ih
    have := cut_app (b := b) (y := b :: (z ++ Lib.joinTail [b] r)) (h := []) (t := z :: r) (by rw [cutT_hit, ih]) x (h x (List.mem_cons_self ..))
    simpa using this
theorem join_cut (b : UInt8) (t : List UInt8) : Lib.join (cutT b t) [b] = t := by
  induction t with
  | nil => rfl
  | cons c l ih =>
    obtain ⟨x, r, e⟩ := cutT_ne b l
    rw [e, Lib.join_cons] at ih
    by_cases h : c = b
    · subst h
      rw [cutT_hit, e, Lib.join_cons, joinTail_cons, ← ih]
      simp
    · rw [cutT_miss h e, Lib.join_cons, List.cons_append, ih]

theorem line_at (p : Nat → Bool) (n j : Nat) (h : j < n) : (lineT p n)[j]? = some (if p j then 49 else 48) := by simp [lineT, h]
theorem line_sign (p : Nat → Bool) (n : Nat) : (lineT p n).all signOk = true := by
  rw [List.all_eq_true]
  intro x hx
  simp only [lineT, List.mem_map] at hx
  obtain ⟨j, _, rfl⟩ := hx
  cases p j <;> rfl
theorem line_no (p : Nat → Bool) (n : Nat) : (47 : UInt8) ∉ lineT p n := by
  intro hx
  have := List.all_eq_true.1 (line_sign p n) _ hx
  revert this; decide
theorem ups_line (p : Nat → Bool) (n : Nat) : upsT (lineT p n) = setN (fun j => decide (j < n) && p j) := by
  unfold upsT
  refine setN_congr fun x _ => ?_
  simp only [upsK, lineT_len]
  by_cases h : x < n
  · rw [line_at p n x h]; cases p x <;> simp [h]
  · simp [h]
theorem line_ups {n : Nat} (hn : n ≤ 6) {line : List UInt8} (h : lineOk n line = true) : lineT (fun j => bitB (upsT line) j) n = line := by
  simp only [lineOk, Bool.and_eq_true, decide_eq_true_eq] at h
  obtain ⟨hl, hs⟩ := h
  refine List.ext_getElem? fun j => ?_
  by_cases hj : j < n
  · rw [line_at _ n j hj]
    unfold upsT
    rw [bit_setN _ j (by omega)]
    have hj' : j < line.length := by omega
    have hx := List.all_eq_true.1 hs line[j] (List.getElem_mem _)
    rw [List.getElem?_eq_getElem hj']
    simp only [signOk, Bool.or_eq_true, beq_iff_eq] at hx
    simp only [upsK, List.getElem?_eq_getElem hj', hj']
    rcases hx with e | e <;> rw [e] <;> simp
  · rw [List.getElem?_eq_none (by rw [lineT_len]; omega), List.getElem?_eq_none (by omega)]

theorem rows_ups {us : List Int} (h : OrdP us) : (rowsT us).map upsT = us := by
  refine List.ext_getElem? fun i => ?_
  rw [List.getElem?_map]
  by_cases hi : i < us.length
  · rw [rowsT_at us i hi, Option.map_some, ups_line]
    have hl := h.low i hi
    have hp := pow_le64 h.len.2
    have : setN (fun j => decide (j < us.length) && upB us i j) = setN (fun j => bitB (us.getD i 0) j) := setN_congr fun x hx => by
      by_cases hx' : x < us.length
      · simp [hx', upB]
      · have := bit_high (us.getD i 0) us.length x h.len.2 hx hl.1 hl.2 (by omega)
        rw [this]; simp [hx']
    rw [this, setN_bits _ hl.1 (by omega), List.getElem?_eq_getElem hi]
    simp [List.getElem?_eq_getElem hi]
  · rw [List.getElem?_eq_none (by rw [rowsT_len]; omega), List.getElem?_eq_none (by omega)]; rfl

/-- An order's text tells it. -/
theorem read_show {us : List Int} (ho : ordS us = true) : readT (showT us) = some us := by
  have P := (ordS_iff us).1 ho
  have hl := P.len
  have hlen := rowsT_len us
  cases hr : rowsT us with
  | nil => rw [hr] at hlen; simp at hlen; omega
  | cons x r =>
    have hall : ∀ y ∈ rowsT us, (47 : UInt8) ∉ y ∧ lineOk us.length y = true := fun y hy => by
      simp only [rowsT, List.mem_map] at hy
      obtain ⟨i, _, rfl⟩ := hy
      exact ⟨line_no _ _, by simp [lineOk, lineT_len, line_sign]⟩
    have hc : cutT 47 (showT us) = rowsT us := by
      unfold showT
      rw [if_pos ho, hr]
      exact cut_join r x (fun y hy => (hall y (by rw [hr]; exact hy)).1)
    unfold readT
    rw [hc, hlen, rows_ups P, if_pos ⟨hl.2, List.all_eq_true.2 fun y hy => (hall y hy).2, ho⟩]
/-- What is read is an order, and its text is that. -/
theorem show_read {t : List UInt8} {us : List Int} (h : readT t = some us) : ordS us = true ∧ showT us = t := by
  unfold readT at h
  split at h
  · rename_i hh
    obtain ⟨h6, hs, ho⟩ := hh
    injection h with h
    subst h
    refine ⟨ho, ?_⟩
    have hrows : rowsT ((cutT 47 t).map upsT) = cutT 47 t := by
      refine List.ext_getElem? fun i => ?_
      by_cases hi : i < (cutT 47 t).length
      · rw [rowsT_at _ i (by simpa using hi), List.length_map, List.getElem?_eq_getElem hi]
        have hk := List.all_eq_true.1 hs _ (List.getElem_mem hi)
        have := line_ups h6 hk
        have hu : (fun j : Nat => bitB (upsT (cutT 47 t)[i]) j) = upB ((cutT 47 t).map upsT) i := by
          funext j
          simp [upB, List.getElem?_eq_getElem hi]
        rw [hu] at this
        rw [this]
      · rw [List.getElem?_eq_none (by rw [rowsT_len]; simp; omega), List.getElem?_eq_none (by omega)]
    unfold showT
    rw [if_pos ho, hrows, join_cut]
  · cases h
/-- No text: no order. -/
theorem show_none {us : List Int} : showT us = [] ↔ ordS us = false := by
  constructor
  · intro h
    cases ho : ordS us with
    | false => rfl
    | true =>
      have := read_show ho
      rw [h] at this
      have h2 := (show_read this).1
      have h1 : readT [] = none := by decide +kernel
      rw [h1] at this; cases this
  · intro h; simp [showT, h]

end Go.Proofs.YtkpaidadofmpfaaDoor
