/- Layer 6 (sums): what FnSums asks of sums, in plain words. No program is named here. -/
import Derived.Test.YtblnonlcjfcblaaGreatDoorNamB
namespace Go.Proofs.YtblnonlcjfcblaaGreatDoor
open Go.RowKit
set_option linter.unusedVariables false

theorem truth_w (b : Bool) : wordB (truthI b) = true := by cases b <;> decide
theorem did_word {o a b : Int} (ho : 1 ≤ o ∧ o ≤ 6) (h4 : ¬ o = 4) (ha : wordB a = true) (hb : wordB b = true) : (didS o a b).2 = true ∧ wordB (didS o a b).1 = true := by
  rw [did_yes ha hb]
  rcases (show o = 1 ∨ o = 2 ∨ o = 3 ∨ o = 5 ∨ o = 6 by omega) with rfl | rfl | rfl | rfl | rfl
  · exact ⟨rfl, wrapW_word _⟩
  · exact ⟨rfl, wrapW_word _⟩
  · exact ⟨rfl, wrapW_word _⟩
  · exact ⟨rfl, truth_w _⟩
  · exact ⟨rfl, truth_w _⟩
theorem value_word {bs : List Bx} (h : boxesB bs = true) (s : Txt) : wordB (valueS bs s) = true := by
  have hw : ∀ b ∈ bs, wordB b.2 = true := by
    intro b hb
    obtain ⟨k, hk, e⟩ := List.getElem_of_mem hb
    have hb2 : bs[k]? = some b := by rw [List.getElem?_eq_getElem hk, e]
    unfold boxesB boxesTo at h
    rw [Bool.and_eq_true] at h
    have := List.all_eq_true.1 h.1 k (List.mem_range.2 hk)
    unfold boxAt at this
    rw [hb2] at this
    simp only [Bool.and_eq_true] at this
    exact this.2.1
  clear h
  induction bs with
  | nil => rfl
  | cons b r ih =>
    rw [valueS]
    by_cases e : b.1 = s
    · rw [if_pos e]; exact hw b (by simp)
    · rw [if_neg e]; exact ih (fun x hx => hw x (by simp [hx]))
theorem leaf_w {bs : List Bx} (h : boxesB bs = true) (s : Txt) : wordB (leafV bs s) = true := by
  unfold leafV
  cases hr : rdS s with
  | some v => exact (rdS_some hr).1
  | none => exact value_word h s
theorem op4 {s : Txt} (h : opN s = 4) : s = [47] := by
  unfold opN at h
  repeat' split at h
  all_goals first | assumption | omega
theorem no_div {bs : List Bx} (hb : boxesB bs = true) : ∀ (t : Sum), t.ok → ¬ [47] ∈ t.flat → ∃ v, evalT bs t = some v ∧ wordB v = true
  | .leaf s, h, _ => ⟨_, rfl, leaf_w hb s⟩
  | .op s a b, h, hn => by
    obtain ⟨x, hx, wx⟩ := no_div hb a h.2.1 (fun q => hn (by simp [Sum.flat, q]))
    obtain ⟨y, hy, wy⟩ := no_div hb b h.2.2 (fun q => hn (by simp [Sum.flat, q]))
    have hr := opN_range s
    have h0 : ¬ opN s = 0 := h.1
    have hd := did_word (o := opN s) ⟨by omega, by omega⟩ (fun q => hn (by rw [op4 q]; simp [Sum.flat])) wx wy
    rw [eval_did hx hy, if_pos hd.1]
    exact ⟨_, rfl, hd.2⟩
theorem fails_not {ss : List Txt} {k : Nat} {t : Sum} {bs : List Bx} (h : SumAt ss k t) (hb : boxesB bs = true) (hm : mayB ss (k : Int) = false) : (evalT bs t).isSome = true := by
  unfold mayB at hm
  rw [signs_tree h, decide_eq_false_iff_not] at hm
  obtain ⟨v, hv, _⟩ := no_div hb t h.1 hm
  rw [hv]; rfl
theorem end_more {t : Sum} (h : t.ok) (r : List Txt) : sumEndS (t.flat ++ r) 0 = (t.flat.length : Int) := by
  have : SumAt (t.flat ++ r) 0 t := ⟨h, r, by rw [List.drop_zero]⟩
  have := sum_end this
  rwa [Nat.zero_add] at this
/-- No beginning of a sum is one. -/
theorem end_part {t : Sum} (h : t.ok) {n : Nat} (hn : n < t.flat.length) : sumEndS (t.flat.take n) 0 = -1 := by
  rcases end_dec (t.flat.take n) 0 with q | q
  · exact q
  · obtain ⟨k, t', hk, h1, rest, h2⟩ := sum_of_end q
    have hk0 : k = 0 := by omega
    subst hk0
    rw [List.drop_zero] at h2
    have e1 := end_more h1 (rest ++ t.flat.drop n)
    rw [← List.append_assoc, ← h2, List.take_append_drop] at e1
    have e2 := end_more h []
    rw [List.append_nil] at e2
    have l1 := congrArg List.length h2
    rw [List.length_take, List.length_append] at l1
    omega
/-- What an op's sum comes to is what Did makes of its two. -/
theorem eval_op {bs : List Bx} {s : Txt} {a b : Sum} : (evalT bs (.op s a b)).isSome = ((evalT bs a).isSome && ((evalT bs b).isSome && (didS (opN s) ((evalT bs a).getD 0) ((evalT bs b).getD 0)).2)) ∧
    ((evalT bs (.op s a b)).isSome = true → (evalT bs (.op s a b)).getD 0 = (didS (opN s) ((evalT bs a).getD 0) ((evalT bs b).getD 0)).1) := by
  cases ha : evalT bs a with
  | none => rw [eval_no1 ha]; exact ⟨rfl, fun h => by cases h⟩
  | some x =>
    cases hb : evalT bs b with
    | none => rw [eval_no2 hb]; exact ⟨rfl, fun h => by cases h⟩
    | some y =>
      rw [eval_did ha hb]
      show (if (didS (opN s) x y).2 = true then some (didS (opN s) x y).1 else none).isSome = (didS (opN s) x y).2 ∧ _
      by_cases hd : (didS (opN s) x y).2 = true
      · rw [if_pos hd]; exact ⟨by rw [hd]; rfl, fun _ => rfl⟩
      · rw [if_neg hd]
        exact ⟨by cases hq : (didS (opN s) x y).2 with
          | true => exact absurd hq hd
          | false => rfl, fun h => by cases h⟩
/-- Which sign of the six it is. -/
theorem ops_at {s : Txt} {i : Nat} (h : opsL[i]? = some s) : opN s = (i : Int) + 1 := by
  have hi : i < 6 := (List.getElem?_eq_some_iff.1 h).1
  rcases (show i = 0 ∨ i = 1 ∨ i = 2 ∨ i = 3 ∨ i = 4 ∨ i = 5 by omega) with rfl | rfl | rfl | rfl | rfl | rfl
  all_goals (simp [opsL] at h; subst h; rfl)
theorem ops_none {s : Txt} (h : ∀ x ∈ opsL, ¬ x = s) : opN s = 0 := by
  unfold opN
  rw [if_neg (fun e => h _ (by simp [opsL]) e.symm), if_neg (fun e => h _ (by simp [opsL]) e.symm), if_neg (fun e => h _ (by simp [opsL]) e.symm), if_neg (fun e => h _ (by simp [opsL]) e.symm), if_neg (fun e => h _ (by simp [opsL]) e.symm), if_neg (fun e => h _ (by simp [opsL]) e.symm)]

end Go.Proofs.YtblnonlcjfcblaaGreatDoor
