/- Layer 6 (sums), in plain words: signs, where a sum ends, sums as trees, what they come to; the pile's way and the tree's way are one. No program is named here. -/
import Derived.Test.YtblnonlcjfcblaaGreatDoorWordM
import Derived.Test.YtblnonlcjfcblaaGreatDoorWordB
import Derived.Test.YtblnonlcjfcblaaGreatDoorBoxB
namespace Go.Proofs.YtblnonlcjfcblaaGreatDoor
open Go.RowKit
set_option linter.unusedVariables false

/-- The op that a sign is (1 to 6); 0: it is none. -/
def opN (s : List UInt8) : Int := if s = [43] then 1 else if s = [45] then 2 else if s = [42] then 3 else if s = [47] then 4 else if s = [60] then 5 else if s = [61] then 6 else 0
theorem opN_range (s : List UInt8) : 0 ≤ opN s ∧ opN s ≤ 6 := by unfold opN; repeat' split <;> omega
/-- A word or a name. -/
def leafB (s : List UInt8) : Bool := (rdS s).isSome || nameB s
theorem name_no_word {s : List UInt8} (h : nameB s = true) : rdS s = none := by
  unfold nameB at h
  rw [Bool.and_eq_true] at h
  cases s with
  | nil => rfl
  | cons b r =>
    have hb : lowB b = true := List.all_eq_true.1 h.1 b (by simp)
    have hr := lowB_yes hb
    have hn : ¬ b = 45 := by
      rintro rfl
      have : ((45 : UInt8).toNat : Int) = 45 := rfl
      omega
    rw [rdS_pos hn]
    cases hq : rdD false (b :: r) with
    | none => rfl
    | some v =>
      have := List.all_eq_true.1 (rdD_some hq).2.1 b (by simp)
      have := digB_iff.1 this
      omega

/-- How many signs are taken until n sums have come. -/
def endF : List (List UInt8) → Nat → Option Nat
  | [], _ => none
  | s :: r, n => if opN s ≠ 0 then (endF r (n + 1)).map (· + 1) else if leafB s = true then (if n = 1 then some 1 else (endF r (n - 1)).map (· + 1)) else none
/-- The place behind, when n sums are wanted at place k; -1 when they do not come. -/
def finS (ss : List (List UInt8)) (k n : Nat) : Int := match endF (ss.drop k) n with
  | some m => ((k + m : Nat) : Int)
  | none => -1
def sumEndS (ss : List (List UInt8)) (at_ : Int) : Int := if at_ < 0 then -1 else finS ss at_.toNat 1
theorem end_neg {ss : List (List UInt8)} {a : Int} (h : a < 0) : sumEndS ss a = -1 := by unfold sumEndS; rw [if_pos h]
theorem end_nat (ss : List (List UInt8)) (k : Nat) : sumEndS ss (k : Int) = finS ss k 1 := by unfold sumEndS; rw [if_neg (by omega), Int.toNat_natCast]
theorem fin_out {ss : List (List UInt8)} {k n : Nat} (h : ss.length ≤ k) : finS ss k n = -1 := by unfold finS; rw [List.drop_of_length_le h]; rfl
theorem fin_cons {ss : List (List UInt8)} {k : Nat} {s : List UInt8} (h : ss[k]? = some s) : ss.drop k = s :: ss.drop (k + 1) := by
  obtain ⟨hk, hg⟩ := List.getElem?_eq_some_iff.1 h
  rw [List.drop_eq_getElem_cons hk, hg]
theorem fin_map (o : Option Nat) (k : Nat) : (match o.map (· + 1) with | some m => ((k + m : Nat) : Int) | none => -1) = (match o with | some m => ((k + 1 + m : Nat) : Int) | none => -1) := by
  cases o with
  | none => rfl
  | some m => show ((k + (m + 1) : Nat) : Int) = ((k + 1 + m : Nat) : Int); omega
theorem fin_op {ss : List (List UInt8)} {k n : Nat} {s : List UInt8} (h : ss[k]? = some s) (ho : ¬ opN s = 0) : finS ss k n = finS ss (k + 1) (n + 1) := by
  unfold finS; rw [fin_cons h, endF, if_pos ho]; exact fin_map _ _
theorem fin_last {ss : List (List UInt8)} {k : Nat} {s : List UInt8} (h : ss[k]? = some s) (ho : opN s = 0) (hl : leafB s = true) : finS ss k 1 = ((k + 1 : Nat) : Int) := by
  unfold finS; rw [fin_cons h, endF, if_neg (by simp [ho]), if_pos hl, if_pos rfl]
theorem fin_leaf {ss : List (List UInt8)} {k n : Nat} {s : List UInt8} (h : ss[k]? = some s) (ho : opN s = 0) (hl : leafB s = true) (hn : ¬ n = 1) : finS ss k n = finS ss (k + 1) (n - 1) := by
  unfold finS; rw [fin_cons h, endF, if_neg (by simp [ho]), if_pos hl, if_neg hn]; exact fin_map _ _
theorem fin_bad {ss : List (List UInt8)} {k n : Nat} {s : List UInt8} (h : ss[k]? = some s) (ho : opN s = 0) (hl : leafB s = false) : finS ss k n = -1 := by
  unfold finS; rw [fin_cons h, endF, if_neg (by simp [ho]), if_neg (by simp [hl])]

/-- A sum, as a tree of signs. -/
inductive Sum where
  | leaf (s : List UInt8)
  | op (s : List UInt8) (a b : Sum)
def Sum.flat : Sum → List (List UInt8)
  | .leaf s => [s]
  | .op s a b => s :: (a.flat ++ b.flat)
def Sum.ok : Sum → Prop
  | .leaf s => opN s = 0 ∧ leafB s = true
  | .op s a b => ¬ opN s = 0 ∧ a.ok ∧ b.ok
theorem Sum.pos : ∀ t : Sum, 1 ≤ t.flat.length
  | .leaf s => by simp [Sum.flat]
  | .op s a b => by simp [Sum.flat]

theorem endF_tree : ∀ (t : Sum) (rest : List (List UInt8)) (n : Nat), t.ok → 1 ≤ n → endF (t.flat ++ rest) n = if n = 1 then some t.flat.length else (endF rest (n - 1)).map (· + t.flat.length)
  | .leaf s, rest, n, h, hn => by
    show endF (s :: rest) n = _
    rw [endF, if_neg (by simp [h.1]), if_pos h.2]
    rfl
  | .op s a b, rest, n, h, hn => by
    show endF (s :: (a.flat ++ b.flat ++ rest)) n = _
    rw [endF, if_pos h.1, List.append_assoc, endF_tree a _ (n + 1) h.2.1 (by omega), if_neg (by omega), Nat.add_sub_cancel, endF_tree b rest n h.2.2 hn]
    have hl : (Sum.op s a b).flat.length = b.flat.length + a.flat.length + 1 := by simp [Sum.flat]; omega
    rw [hl]
    by_cases q : n = 1
    · rw [if_pos q, if_pos q]; rfl
    · rw [if_neg q, if_neg q, Option.map_map, Option.map_map]
      congr 1
      funext x
      show x + b.flat.length + a.flat.length + 1 = x + (b.flat.length + a.flat.length + 1)
      omega
theorem endF_some : ∀ (l : List (List UInt8)) (n k : Nat), 1 ≤ n → endF l n = some k → ∃ ts : List Sum, ts.length = n ∧ (∀ t ∈ ts, t.ok) ∧ l.take k = (ts.map Sum.flat).flatten ∧ k ≤ l.length
  | [], n, k, hn, h => by cases h
  | s :: r, n, k, hn, h => by
    rw [endF] at h
    by_cases ho : opN s = 0
    · rw [if_neg (by simp [ho])] at h
      by_cases hl : leafB s = true
      · rw [if_pos hl] at h
        by_cases q : n = 1
        · rw [if_pos q] at h
          injection h with h
          subst h q
          exact ⟨[.leaf s], rfl, by simp [Sum.ok, ho, hl], by simp [Sum.flat], by simp⟩
        · rw [if_neg q] at h
          obtain ⟨m, hm, rfl⟩ := Option.map_eq_some_iff.1 h
          obtain ⟨ts, h1, h2, h3, h4⟩ := endF_some r (n - 1) m (by omega) hm
          refine ⟨.leaf s :: ts, by simp; omega, ?_, by simp [Sum.flat, h3], by simp; omega⟩
          intro t ht
          rcases List.mem_cons.1 ht with rfl | ht
          · exact ⟨ho, hl⟩
          · exact h2 t ht
      · rw [if_neg hl] at h; cases h
    · rw [if_pos ho] at h
      obtain ⟨m, hm, rfl⟩ := Option.map_eq_some_iff.1 h
      obtain ⟨ts, h1, h2, h3, h4⟩ := endF_some r (n + 1) m (by omega) hm
      match ts, h1, h2, h3 with
      | a :: b :: ts, h1, h2, h3 =>
        refine ⟨.op s a b :: ts, by simp at h1 ⊢; omega, ?_, by simp [Sum.flat, h3], by simp; omega⟩
        intro t ht
        rcases List.mem_cons.1 ht with rfl | ht
        · exact ⟨ho, h2 a (by simp), h2 b (by simp)⟩
        · exact h2 t (by simp [ht])
      | [a], h1, _, _ => simp at h1; omega
      | [], h1, _, _ => simp at h1
/-- A sum stands at place k. -/
def SumAt (ss : List (List UInt8)) (k : Nat) (t : Sum) : Prop := t.ok ∧ ∃ rest, ss.drop k = t.flat ++ rest
theorem sum_end {ss : List (List UInt8)} {k : Nat} {t : Sum} (h : SumAt ss k t) : sumEndS ss (k : Int) = ((k + t.flat.length : Nat) : Int) := by
  obtain ⟨h1, rest, h2⟩ := h
  rw [end_nat, finS, h2, endF_tree t rest 1 h1 (Nat.le_refl _), if_pos rfl]
theorem sum_len {ss : List (List UInt8)} {k : Nat} {t : Sum} (h : SumAt ss k t) : k + t.flat.length ≤ ss.length := by
  obtain ⟨h1, rest, h2⟩ := h
  have := congrArg List.length h2
  rw [List.length_drop, List.length_append] at this
  have := t.pos
  omega
theorem sum_of_end {ss : List (List UInt8)} {a : Int} (h : 0 ≤ sumEndS ss a) : ∃ (k : Nat) (t : Sum), a = k ∧ SumAt ss k t := by
  unfold sumEndS at h
  by_cases q : a < 0
  · rw [if_pos q] at h; omega
  · rw [if_neg q] at h
    unfold finS at h
    cases he : endF (ss.drop a.toNat) 1 with
    | none => rw [he] at h; simp at h
    | some m =>
      obtain ⟨ts, h1, h2, h3, h4⟩ := endF_some _ 1 m (Nat.le_refl _) he
      match ts, h1, h2, h3 with
      | [t], _, h2, h3 =>
        refine ⟨a.toNat, t, by omega, h2 t (by simp), (ss.drop a.toNat).drop m, ?_⟩
        have : t.flat = (ss.drop a.toNat).take m := by simpa using h3.symm
        rw [this, List.take_append_drop]
theorem end_dec (ss : List (List UInt8)) (a : Int) : sumEndS ss a = -1 ∨ 0 ≤ sumEndS ss a := by
  unfold sumEndS
  split
  · exact .inl rfl
  · unfold finS
    split
    · right; omega
    · exact .inl rfl

/-- What a word or a name comes to. -/
def leafV (bs : List Bx) (s : List UInt8) : Int := (rdS s).getD (valueS bs s)
def evalT (bs : List Bx) : Sum → Option Int
  | .leaf s => some (leafV bs s)
  | .op s a b => match evalT bs a, evalT bs b with
    | some x, some y => if (didS (opN s) x y).2 = true then some (didS (opN s) x y).1 else none
    | _, _ => none
/-- What an op makes of the pile. -/
def opR (s : List UInt8) : List Int → Option (List Int)
  | a :: b :: q => if (didS (opN s) a b).2 = true then some ((didS (opN s) a b).1 :: q) else none
  | _ => none
/-- The pile's way: sign by sign, the last one first. -/
def runR (bs : List Bx) : List (List UInt8) → List Int → Option (List Int)
  | [], p => some p
  | s :: r, p => if opN s = 0 then runR bs r (leafV bs s :: p) else (opR s p).bind (runR bs r)
theorem runR_app (bs : List Bx) : ∀ (xs ys : List (List UInt8)) (p : List Int), runR bs (xs ++ ys) p = (runR bs xs p).bind (runR bs ys)
  | [], ys, p => rfl
  | s :: r, ys, p => by
    rw [List.cons_append, runR, runR]
    by_cases h : opN s = 0
    · rw [if_pos h, if_pos h, runR_app bs r ys]
    · rw [if_neg h, if_neg h]
      cases opR s p with
      | none => rfl
      | some q => exact runR_app bs r ys q
theorem opR_two (s : List UInt8) (a b : Int) (q : List Int) : opR s (a :: b :: q) = if (didS (opN s) a b).2 = true then some ((didS (opN s) a b).1 :: q) else none := rfl
theorem runR_op (bs : List Bx) {s : List UInt8} (h : ¬ opN s = 0) (p : List Int) : runR bs [s] p = opR s p := by
  rw [runR, if_neg h]
  cases opR s p <;> rfl
theorem runR_leaf (bs : List Bx) {s : List UInt8} (h : opN s = 0) (p : List Int) : runR bs [s] p = some (leafV bs s :: p) := by
  rw [runR, if_pos h]; rfl
theorem runR_tree (bs : List Bx) : ∀ (t : Sum) (p : List Int), t.ok → runR bs t.flat.reverse p = (evalT bs t).map (· :: p)
  | .leaf s, p, h => by
    show runR bs [s] p = _
    rw [runR_leaf bs h.1]; rfl
  | .op s a b, p, h => by
    show runR bs (s :: (a.flat ++ b.flat)).reverse p = _
    rw [List.reverse_cons, List.reverse_append, runR_app, runR_app, runR_tree bs b p h.2.2, evalT]
    cases hb : evalT bs b with
    | none => cases evalT bs a <;> rfl
    | some y =>
      show ((runR bs a.flat.reverse (y :: p)).bind (runR bs [s])) = _
      rw [runR_tree bs a (y :: p) h.2.1]
      cases ha : evalT bs a with
      | none => rfl
      | some x =>
        show runR bs [s] (x :: y :: p) = Option.map _ (if (didS (opN s) x y).2 = true then some (didS (opN s) x y).1 else none)
        rw [runR_op bs h.1, opR_two]
        by_cases hd : (didS (opN s) x y).2 = true
        · rw [if_pos hd, if_pos hd]; rfl
        · rw [if_neg hd, if_neg hd]; rfl
/-- How high the pile is; none: too little lies there. -/
def highR : List (List UInt8) → Nat → Option Nat
  | [], n => some n
  | s :: r, n => if opN s = 0 then highR r (n + 1) else if 2 ≤ n then highR r (n - 1) else none
theorem highR_app : ∀ (xs ys : List (List UInt8)) (n : Nat), highR (xs ++ ys) n = (highR xs n).bind (highR ys)
  | [], ys, n => rfl
  | s :: r, ys, n => by
    rw [List.cons_append, highR, highR]
    by_cases h : opN s = 0
    · rw [if_pos h, if_pos h, highR_app r ys]
    · rw [if_neg h, if_neg h]
      by_cases hd : 2 ≤ n
      · rw [if_pos hd, if_pos hd, highR_app r ys]
      · rw [if_neg hd, if_neg hd]; rfl
theorem highR_tree : ∀ (t : Sum) (n : Nat), t.ok → highR t.flat.reverse n = some (n + 1)
  | .leaf s, n, h => by
    show highR [s] n = _
    rw [highR, if_pos h.1]; rfl
  | .op s a b, n, h => by
    show highR (s :: (a.flat ++ b.flat)).reverse n = _
    rw [List.reverse_cons, List.reverse_append, highR_app, highR_app, highR_tree b n h.2.2]
    show ((highR a.flat.reverse (n + 1)).bind (highR [s])) = _
    rw [highR_tree a (n + 1) h.2.1]
    show highR [s] (n + 1 + 1) = _
    rw [highR, if_neg h.1, if_pos (by omega)]; rfl
theorem run_high (bs : List Bx) : ∀ (xs : List (List UInt8)) (p q : List Int), runR bs xs p = some q → highR xs p.length = some q.length
  | [], p, q, h => by
    injection h with h
    rw [h]; rfl
  | s :: r, p, q, h => by
    rw [runR] at h
    rw [highR]
    by_cases ho : opN s = 0
    · rw [if_pos ho] at h ⊢
      exact run_high bs r _ q h
    · rw [if_neg ho] at h ⊢
      cases hq : opR s p with
      | none => rw [hq] at h; cases h
      | some p' =>
        rw [hq] at h
        match p, hq with
        | [], hq => cases hq
        | [_], hq => cases hq
        | a :: b :: p2, hq =>
          rw [opR_two] at hq
          split at hq
          · injection hq with hq
            subst hq
            rw [if_pos (by simp)]
            have := run_high bs r _ q h
            simpa using this
          · cases hq

/-- What the sum there comes to; none: there is none, the boxes are not right, or Did says false. -/
def sumOfS (ss : List (List UInt8)) (a : Int) (bs : List Bx) : Option Int :=
  if 0 ≤ sumEndS ss a ∧ boxesB bs = true then (runR bs ((ss.drop a.toNat).take (sumEndS ss a - a).toNat).reverse []).bind List.head? else none
theorem sumOf_no {ss : List (List UInt8)} {a : Int} {bs : List Bx} (h : sumEndS ss a < 0 ∨ boxesB bs = false) : sumOfS ss a bs = none := by
  unfold sumOfS
  rw [if_neg]
  rintro ⟨h1, h2⟩
  rcases h with h | h
  · omega
  · rw [h] at h2; cases h2
theorem sumOf_tree {ss : List (List UInt8)} {k : Nat} {bs : List Bx} {t : Sum} (h : SumAt ss k t) (hb : boxesB bs = true) : sumOfS ss (k : Int) bs = evalT bs t := by
  have he := sum_end h
  obtain ⟨h1, rest, h2⟩ := h
  unfold sumOfS
  rw [if_pos ⟨by omega, hb⟩, he, Int.toNat_natCast, h2, show (((k + t.flat.length : Nat) : Int) - (k : Int)).toNat = t.flat.length by omega, List.take_left' rfl, runR_tree bs t [] h1]
  cases evalT bs t <;> rfl

end Go.Proofs.YtblnonlcjfcblaaGreatDoor
