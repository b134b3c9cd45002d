/- Layer 6 (sums), in plain words: signs, where a sum ends, sums as trees, what they come to; the pile's way and the tree's way are one. No program is named here. Layer 5 (words): the model's ReadWord. No conditions but those typed. Layer 6 (sums): the model's l6Op and SumEnd. No conditions but those typed. Layer 6 (sums): the model's SumEnd. No conditions but those typed. Layer 6 (sums): the model's l6Sum and SumOf. No conditions but those typed. -/
import Derived.Test.YtigcbegeaikfcaaGreatDoorLowA
import Derived.OwnWalk
namespace Go.Proofs.YtigcbegeaikfcaaGreatDoor
open Go.RowKit
set_option linter.unusedVariables false

/-- The op that a sign is (1 to 6); 0: it is none. -/
def opN (s : List UInt8) : Int := if s = [43] then 1 else if s = [45] then 2 else if s = [42] then 3 else if s = [47] then 4 else if s = [60] then 5 else if s = [61] then 6 else 0
theorem opN_range (s : List UInt8) : 0 ≤ opN s ∧ opN s ≤ 6 := by unfold opN; repeat' split <;> omega
/-- A word or a name. -/
def leafB (s : List UInt8) : Bool := (rdS s).isSome || nameB s
theorem name_no_word {s : List UInt8} (h : nameB s = true) : rdS s = none := by
  unfold nameB at h
  rw [Bool.and_eq_true] at h
  cases s with
  | nil => rfl
  | cons b r =>
    have hb : lowB b = true := List.all_eq_true.1 h.1 b (by simp)
    have hr := lowB_yes hb
    have hn : ¬ b = 45 := by
      rintro rfl
      have : ((45 : UInt8).toNat : Int) = 45 := rfl
      omega
    rw [rdS_pos hn]
    cases hq : rdD false (b :: r) with
    | none => rfl
    | some v =>
      have := List.all_eq_true.1 (rdD_some hq).2.1 b (by simp)
      have := digB_iff.1 this
      omega

/-- How many signs are taken until n sums have come. -/
def endF : List (List UInt8) → Nat → Option Nat
  | [], _ => none
  | s :: r, n => if opN s ≠ 0 then (endF r (n + 1)).map (· + 1) else if leafB s = true then (if n = 1 then some 1 else (endF r (n - 1)).map (· + 1)) else none
/-- The place behind, when n sums are wanted at place k; -1 when they do not come. -/
def finS (ss : List (List UInt8)) (k n : Nat) : Int := match endF (ss.drop k) n with
  | some m => ((k + m : Nat) : Int)
  | none => -1
def sumEndS (ss : List (List UInt8)) (at_ : Int) : Int := if at_ < 0 then -1 else finS ss at_.toNat 1
theorem end_neg {ss : List (List UInt8)} {a : Int} (h : a < 0) : sumEndS ss a = -1 := by unfold sumEndS; rw [if_pos h]
theorem end_nat (ss : List (List UInt8)) (k : Nat) : sumEndS ss (k : Int) = finS ss k 1 := by unfold sumEndS; rw [if_neg (by omega), Int.toNat_natCast]
theorem fin_out {ss : List (List UInt8)} {k n : Nat} (h : ss.length ≤ k) : finS ss k n = -1 := by unfold finS; rw [List.drop_of_length_le h]; rfl
theorem fin_cons {ss : List (List UInt8)} {k : Nat} {s : List UInt8} (h : ss[k]? = some s) : ss.drop k = s :: ss.drop (k + 1) := by
  obtain ⟨hk, hg⟩ := List.getElem?_eq_some_iff.1 h
  rw [List.drop_eq_getElem_cons hk, hg]
theorem fin_map (o : Option Nat) (k : Nat) : (match o.map (· + 1) with | some m => ((k + m : Nat) : Int) | none => -1) = (match o with | some m => ((k + 1 + m : Nat) : Int) | none => -1) := by
  cases o with
  | none => rfl
  | some m => show ((k + (m + 1) : Nat) : Int) = ((k + 1 + m : Nat) : Int); omega
theorem fin_op {ss : List (List UInt8)} {k n : Nat} {s : List UInt8} (h : ss[k]? = some s) (ho : ¬ opN s = 0) : finS ss k n = finS ss (k + 1) (n + 1) := by
  unfold finS; rw [fin_cons h, endF, if_pos ho]; exact fin_map _ _
theorem fin_last {ss : List (List UInt8)} {k : Nat} {s : List UInt8} (h : ss[k]? = some s) (ho : opN s = 0) (hl : leafB s = true) : finS ss k 1 = ((k + 1 : Nat) : Int) := by
  unfold finS; rw [fin_cons h, endF, if_neg (by simp [ho]), if_pos hl, if_pos rfl]
theorem fin_leaf {ss : List (List UInt8)} {k n : Nat} {s : List UInt8} (h : ss[k]? = some s) (ho : opN s = 0) (hl : leafB s = true) (hn : ¬ n = 1) : finS ss k n = finS ss (k + 1) (n - 1) := by
  unfold finS; rw [fin_cons h, endF, if_neg (by simp [ho]), if_pos hl, if_neg hn]; exact fin_map _ _
theorem fin_bad {ss : List (List UInt8)} {k n : Nat} {s : List UInt8} (h : ss[k]? = some s) (ho : opN s = 0) (hl : leafB s = false) : finS ss k n = -1 := by
  unfold finS; rw [fin_cons h, endF, if_neg (by simp [ho]), if_neg (by simp [hl])]

/-- A sum, as a tree of signs. -/
inductive Sum where
  | leaf (s : List UInt8)
  | op (s : List UInt8) (a b : Sum)
def Sum.flat : Sum → List (List UInt8)
  | .leaf s => [s]
  | .op s a b => s :: (a.flat ++ b.flat)
def Sum.ok : Sum → Prop
  | .leaf s => opN s = 0 ∧ leafB s = true
  | .op s a b => ¬ opN s = 0 ∧ a.ok ∧ b.ok
theorem Sum.pos : ∀ t : Sum, 1 ≤ t.flat.length
  | .leaf s => by simp [Sum.flat]
  | .op s a b => by simp [Sum.flat]

theorem endF_tree : ∀ (t : Sum) (rest : List (List UInt8)) (n : Nat), t.ok → 1 ≤ n → endF (t.flat ++ rest) n = if n = 1 then some t.flat.length else (endF rest (n - 1)).map (· + t.flat.length)
  | .leaf s, rest, n, h, hn => by
    show endF (s :: rest) n = _
    rw [endF, if_neg (by simp [h.1]), if_pos h.2]
    rfl
  | .op s a b, rest, n, h, hn => by
    show endF (s :: (a.flat ++ b.flat ++ rest)) n = _
    rw [endF, if_pos h.1, List.append_assoc, endF_tree a _ (n + 1) h.2.1 (by omega), if_neg (by omega), Nat.add_sub_cancel, endF_tree b rest n h.2.2 hn]
    have hl : (Sum.op s a b).flat.length = b.flat.length + a.flat.length + 1 := by simp [Sum.flat]; omega
    rw [hl]
    by_cases q : n = 1
    · rw [if_pos q, if_pos q]; rfl
    · rw [if_neg q, if_neg q, Option.map_map, Option.map_map]
      congr 1
      funext x
      show x + b.flat.length + a.flat.length + 1 = x + (b.flat.length + a.flat.length + 1)
      omega
theorem endF_some : ∀ (l : List (List UInt8)) (n k : Nat), 1 ≤ n → endF l n = some k → ∃ ts : List Sum, ts.length = n ∧ (∀ t ∈ ts, t.ok) ∧ l.take k = (ts.map Sum.flat).flatten ∧ k ≤ l.length
  | [], n, k, hn, h => by cases h
  | s :: r, n, k, hn, h => by
    rw [endF] at h
    by_cases ho : opN s = 0
    · rw [if_neg (by simp [ho])] at h
      by_cases hl : leafB s = true
      · rw [if_pos hl] at h
        by_cases q : n = 1
        · rw [if_pos q] at h
          injection h with h
          subst h q
          exact ⟨[.leaf s], rfl, by simp [Sum.ok, ho, hl], by simp [Sum.flat], by simp⟩
        · rw [if_neg q] at h
          obtain ⟨m, hm, rfl⟩ := Option.map_eq_some_iff.1 h
          obtain ⟨ts, h1, h2, h3, h4⟩ := endF_some r (n - 1) m (by omega) hm
          refine ⟨.leaf s :: ts, by simp; omega, ?_, by simp [Sum.flat, h3], by simp; omega⟩
          intro t ht
          rcases List.mem_cons.1 ht with rfl | ht
          · exact ⟨ho, hl⟩
          · exact h2 t ht
      · rw [if_neg hl] at h; cases h
    · rw [if_pos ho] at h
      obtain ⟨m, hm, rfl⟩ := Option.map_eq_some_iff.1 h
      obtain ⟨ts, h1, h2, h3, h4⟩ := endF_some r (n + 1) m (by omega) hm
      match ts, h1, h2, h3 with
      | a :: b :: ts, h1, h2, h3 =>
        refine ⟨.op s a b :: ts, by simp at h1 ⊢; omega, ?_, by simp [Sum.flat, h3], by simp; omega⟩
        intro t ht
        rcases List.mem_cons.1 ht with rfl | ht
        · exact ⟨ho, h2 a (by simp), h2 b (by simp)⟩
        · exact h2 t (by simp [ht])
      | [a], h1, _, _ => simp at h1; omega
      | [], h1, _, _ => simp at h1
/-- A sum stands at place k. -/
def SumAt (ss : List (List UInt8)) (k : Nat) (t : Sum) : Prop := t.ok ∧ ∃ rest, ss.drop k = t.flat ++ rest
theorem sum_end {ss : List (List UInt8)} {k : Nat} {t : Sum} (h : SumAt ss k t) : sumEndS ss (k : Int) = ((k + t.flat.length : Nat) : Int) := by
  obtain ⟨h1, rest, h2⟩ := h
  rw [end_nat, finS, h2, endF_tree t rest 1 h1 (Nat.le_refl _), if_pos rfl]
theorem sum_len {ss : List (List UInt8)} {k : Nat} {t : Sum} (h : SumAt ss k t) : k + t.flat.length ≤ ss.length := by
  obtain ⟨h1, rest, h2⟩ := h
  have := congrArg List.length h2
  rw [List.length_drop, List.length_append] at this
  have := t.pos
  omega
theorem sum_of_end {ss : List (List UInt8)} {a : Int} (h : 0 ≤ sumEndS ss a) : ∃ (k : Nat) (t : Sum), a = k ∧ SumAt ss k t := by
  unfold sumEndS at h
  by_cases q : a < 0
  · rw [if_pos q] at h; omega
  · rw [if_neg q] at h
    unfold finS at h
    cases he : endF (ss.drop a.toNat) 1 with
    | none => rw [he] at h; simp at h
    | some m =>
      obtain ⟨ts, h1, h2, h3, h4⟩ := endF_some _ 1 m (Nat.le_refl _) he
      match ts, h1, h2, h3 with
      | [t], _, h2, h3 =>
        refine ⟨a.toNat, t, by omega, h2 t (by simp), (ss.drop a.toNat).drop m, ?_⟩
        have : t.flat = (ss.drop a.toNat).take m := by simpa using h3.symm
        rw [this, List.take_append_drop]
theorem end_dec (ss : List (List UInt8)) (a : Int) : sumEndS ss a = -1 ∨ 0 ≤ sumEndS ss a := by
  unfold sumEndS
  split
  · exact .inl rfl
  · unfold finS
    split
    · right; omega
    · exact .inl rfl

/-- What a word or a name comes to. -/
def leafV (bs : List Bx) (s : List UInt8) : Int := (rdS s).getD (valueS bs s)
def evalT (bs : List Bx) : Sum → Option Int
  | .leaf s => some (leafV bs s)
  | .op s a b => match evalT bs a, evalT bs b with
    | some x, some y => if (didS (opN s) x y).2 = true then some (didS (opN s) x y).1 else none
    | _, _ => none
/-- What an op makes of the pile. -/
def opR (s : List UInt8) : List Int → Option (List Int)
  | a :: b :: q => if (didS (opN s) a b).2 = true then some ((didS (opN s) a b).1 :: q) else none
  | _ => none
/-- The pile's way: sign by sign, the last one first. -/
def runR (bs : List Bx) : List (List UInt8) → List Int → Option (List Int)
  | [], p => some p
  | s :: r, p => if opN s = 0 then runR bs r (leafV bs s :: p) else (opR s p).bind (runR bs r)
theorem runR_app (bs : List Bx) : ∀ (xs ys : List (List UInt8)) (p : List Int), runR bs (xs ++ ys) p = (runR bs xs p).bind (runR bs ys)
  | [], ys, p => rfl
  | s :: r, ys, p => by
    rw [List.cons_append, runR, runR]
    by_cases h : opN s = 0
    · rw [if_pos h, if_pos h, runR_app bs r ys]
    · rw [if_neg h, if_neg h]
      cases opR s p with
      | none => rfl
      | some q => exact runR_app bs r ys q
theorem opR_two (s : List UInt8) (a b : Int) (q : List Int) : opR s (a :: b :: q) = if (didS (opN s) a b).2 = true then some ((didS (opN s) a b).1 :: q) else none := rfl
theorem runR_op (bs : List Bx) {s : List UInt8} (h : ¬ opN s = 0) (p : List Int) : runR bs [s] p = opR s p := by
  rw [runR, if_neg h]
  cases opR s p <;> rfl
theorem runR_leaf (bs : List Bx) {s : List UInt8} (h : opN s = 0) (p : List Int) : runR bs [s] p = some (leafV bs s :: p) := by
  rw [runR, if_pos h]; rfl
theorem runR_tree (bs : List Bx) : ∀ (t : Sum) (p : List Int), t.ok → runR bs t.flat.reverse p = (evalT bs t).map (· :: p)
  | .leaf s, p, h => by
    show runR bs [s] p = _
    rw [runR_leaf bs h.1]; rfl
  | .op s a b, p, h => by
    show runR bs (s :: (a.flat ++ b.flat)).reverse p = _
    rw [List.reverse_cons, List.reverse_append, runR_app, runR_app, runR_tree bs b p h.2.2, evalT]
    cases hb : evalT bs b with
    | none => cases evalT bs a <;> rfl
    | some y =>
      show ((runR bs a.flat.reverse (y :: p)).bind (runR bs [s])) = _
      rw [runR_tree bs a (y :: p) h.2.1]
      cases ha : evalT bs a with
      | none => rfl
      | some x =>
        show runR bs [s] (x :: y :: p) = Option.map _ (if (didS (opN s) x y).2 = true then some (didS (opN s) x y).1 else none)
        rw [runR_op bs h.1, opR_two]
        by_cases hd : (didS (opN s) x y).2 = true
        · rw [if_pos hd, if_pos hd]; rfl
        · rw [if_neg hd, if_neg hd]; rfl
/-- How high the pile is; none: too little lies there. -/
def highR : List (List UInt8) → Nat → Option Nat
  | [], n => some n
  | s :: r, n => if opN s = 0 then highR r (n + 1) else if 2 ≤ n then highR r (n - 1) else none
theorem highR_app : ∀ (xs ys : List (List UInt8)) (n : Nat), highR (xs ++ ys) n = (highR xs n).bind (highR ys)
  | [], ys, n => rfl
  | s :: r, ys, n => by
    rw [List.cons_append, highR, highR]
    by_cases h : opN s = 0
    · rw [if_pos h, if_pos h, highR_app r ys]
    · rw [if_neg h, if_neg h]
      by_cases hd : 2 ≤ n
      · rw [if_pos hd, if_pos hd, highR_app r ys]
      · rw [if_neg hd, if_neg hd]; rfl
theorem highR_tree : ∀ (t : Sum) (n : Nat), t.ok → highR t.flat.reverse n = some (n + 1)
  | .leaf s, n, h => by
    show highR [s] n = _
    rw [highR, if_pos h.1]; rfl
  | .op s a b, n, h => by
    show highR (s :: (a.flat ++ b.flat)).reverse n = _
    rw [List.reverse_cons, List.reverse_append, highR_app, highR_app, highR_tree b n h.2.2]
    show ((highR a.flat.reverse (n + 1)).bind (highR [s])) = _
    rw [highR_tree a (n + 1) h.2.1]
    show highR [s] (n + 1 + 1) = _
    rw [highR, if_neg h.1, if_pos (by omega)]; rfl
theorem run_high (bs : List Bx) : ∀ (xs : List (List UInt8)) (p q : List Int), runR bs xs p = some q → highR xs p.length = some q.length
  | [], p, q, h => by
    injection h with h
    rw [h]; rfl
  | s :: r, p, q, h => by
    rw [runR] at h
    rw [highR]
    by_cases ho : opN s = 0
    · rw [if_pos ho] at h ⊢
      exact run_high bs r _ q h
    · rw [if_neg ho] at h ⊢
      cases hq : opR s p with
      | none => rw [hq] at h; cases h
      | some p' =>
        rw [hq] at h
        match p, hq with
        | [], hq => cases hq
        | [_], hq => cases hq
        | a :: b :: p2, hq =>
          rw [opR_two] at hq
          split at hq
          · injection hq with hq
            subst hq
            rw [if_pos (by simp)]
            have := run_high bs r _ q h
            simpa using this
          · cases hq

/-- What the sum there comes to; none: there is none, the boxes are not right, or Did says false. -/
def sumOfS (ss : List (List UInt8)) (a : Int) (bs : List Bx) : Option Int :=
  if 0 ≤ sumEndS ss a ∧ boxesB bs = true then (runR bs ((ss.drop a.toNat).take (sumEndS ss a - a).toNat).reverse []).bind List.head? else none
theorem sumOf_no {ss : List (List UInt8)} {a : Int} {bs : List Bx} (h : sumEndS ss a < 0 ∨ boxesB bs = false) : sumOfS ss a bs = none := by
  unfold sumOfS
  rw [if_neg]
  rintro ⟨h1, h2⟩
  rcases h with h | h
  · omega
  · rw [h] at h2; cases h2
theorem sumOf_tree {ss : List (List UInt8)} {k : Nat} {bs : List Bx} {t : Sum} (h : SumAt ss k t) (hb : boxesB bs = true) : sumOfS ss (k : Int) bs = evalT bs t := by
  have he := sum_end h
  obtain ⟨h1, rest, h2⟩ := h
  unfold sumOfS
  rw [if_pos ⟨by omega, hb⟩, he, Int.toNat_natCast, h2, show (((k + t.flat.length : Nat) : Int) - (k : Int)).toNat = t.flat.length by omega, List.take_left' rfl, runR_tree bs t [] h1]
  cases evalT bs t <;> rfl

end Go.Proofs.YtigcbegeaikfcaaGreatDoor

namespace Go.Proofs.YtigcbegeaikfcaaGreatDoor
open Go.RowKit
set_option linter.unusedVariables false

def RdOut (r : Option Int) (w : World) (e : Ending) (w' : World) : Prop := e = .returned (.tuple #[.int .i64 (r.getD 0), .bool r.isSome]) ∧ w = w'
theorem rd_ret {x y : Int} {b c : Bool} (h : x = y) (hb : b = c) : Ending.returned (.tuple #[.int .i64 x, .bool b]) = .returned (.tuple #[.int .i64 y, .bool c]) := by rw [h, hb]
theorem rd_none {r : Option Int} (h : r = none) : Ending.returned (.tuple #[.int .i64 0, .bool false]) = .returned (.tuple #[.int .i64 (r.getD 0), .bool r.isSome]) := by rw [h]; rfl
theorem rd_some {r : Option Int} {x : Int} (h : r = some x) : Ending.returned (.tuple #[.int .i64 x, .bool true]) = .returned (.tuple #[.int .i64 (r.getD 0), .bool r.isSome]) := by rw [h]; rfl
theorem digB_yes {b : UInt8} (h : digB b = true) : 48 ≤ (b.toNat : Int) ∧ (b.toNat : Int) ≤ 57 := by have := digB_iff.1 h; omega
theorem digB_no {b : UInt8} (h : digB b = false) : (b.toNat : Int) < 48 ∨ 57 < (b.toNat : Int) := by
  have : ¬ (48 ≤ b.toNat ∧ b.toNat ≤ 57) := by simpa [digB] using h
  omega
theorem dig_step {l : List UInt8} {k : Nat} {b : UInt8} (h : (l.take k).all digB = true) (hb : l[k]? = some b) (hp : digB b = true) : (l.take (k + 1)).all digB = true := by
  rw [List.take_add_one, hb, List.all_append, h]; simp [hp]
theorem rdD_dig {neg : Bool} {l : List UInt8} {k : Nat} {b : UInt8} (hb : l[k]? = some b) (hp : digB b = false) : rdD neg l = none := by
  unfold rdD
  rw [if_neg]
  rintro ⟨_, _, h, _⟩
  have := List.all_eq_true.1 h b (List.mem_of_getElem? hb)
  rw [hp] at this
  cases this
theorem rdD_long {neg : Bool} {l : List UInt8} (h : l.length < 1 ∨ 10 < l.length) : rdD neg l = none := by
  unfold rdD
  rw [if_neg]
  rintro ⟨_, _, _⟩
  omega
theorem rdD_nought {neg : Bool} {l : List UInt8} (h0 : l.head? = some 48) (h1 : neg = true ∨ 1 < l.length) : rdD neg l = none := by
  unfold rdD
  rw [if_neg]
  rintro ⟨_, _, _, h, _⟩
  exact h ⟨h0, h1⟩
theorem rdD_end {neg : Bool} {l : List UInt8} (h1 : 1 ≤ l.length) (h2 : l.length ≤ 10) (h3 : l.all digB = true) (h4 : ¬ (l.head? = some 48 ∧ (neg = true ∨ 1 < l.length))) :
    rdD neg l = if wordB (sgn neg (valN l)) = true then some (sgn neg (valN l)) else none := by
  unfold rdD
  by_cases h : wordB (sgn neg (valN l)) = true
  · rw [if_pos ⟨h1, h2, h3, h4, h⟩, if_pos h]
  · rw [if_neg (fun q => h q.2.2.2.2), if_neg h]
theorem valZ_take {l : List UInt8} {k : Nat} {b : UInt8} (hb : l[k]? = some b) (hd : digB b = true) : ((valN (l.take (k + 1)) : Nat) : Int) = (valN (l.take k) : Int) * 10 + ((b.toNat : Int) - 48) := by
  rw [valN_take hb]
  have := digB_iff.1 hd
  omega

set_option maxHeartbeats 1000000 in
theorem sRead_nil (w : World) : Calls Tryz.prog 155 #[str []] w (RdOut none w) := by
  go_enter Tryz.func155, Tryz.ntmps155
  go_wp2_with fail
  go_ret2
  exact ⟨rfl, rfl⟩

theorem val_bound {l : List UInt8} {k : Nat} (h : (l.take k).all digB = true) (hl : l.length ≤ 10) : 0 ≤ ((valN (l.take k) : Nat) : Int) ∧ ((valN (l.take k) : Nat) : Int) ≤ 9999999999 := by
  have := valN_lt h (by rw [List.length_take]; omega)
  omega

set_option maxHeartbeats 2000000 in
theorem sRead_neg (l r : List UInt8) (hl : l.length ≤ 1048576) (he : l = 45 :: r) (w : World) : Calls Tryz.prog 155 #[str l] w (RdOut (rdD true r) w) := by
  have hb0 : l[0]? = some 45 := by rw [he]; rfl
  have hix0 := idx_str (P := Tryz.prog) 9 l 0 45 Tryz.underlying9 hb0
  have HAT : Hid (∀ (j : Nat) (b : UInt8), r[j]? = some b → l[j + 1]? = some b) := Lib.hid (fun j b hb => by rw [he]; simpa using hb)
  have HL : Hid (l.length = r.length + 1) := Lib.hid (by rw [he]; rfl)
  have hne : (!l.isEmpty) = true := by rw [he]; rfl
  clear he hb0
  rw [show (((0 : Nat) : Int)) = 0 from rfl] at hix0
  unfold byte at hix0
  rw [show (((45 : UInt8).toNat : Int)) = 45 from rfl] at hix0
  by_cases h2 : l.length < 2
  · have HR := Lib.hid (rdD_long (neg := true) (l := r) (by have := HL.out; omega))
    rw [HR.out]
    have h2' : (l.length : Int) - 1 < 1 := by omega
    go_enter Tryz.func155, Tryz.ntmps155
    go_wp2_with fail
    go_ret2
    exact ⟨rfl, rfl⟩
  by_cases h11 : 11 < l.length
  · have HR := Lib.hid (rdD_long (neg := true) (l := r) (by have := HL.out; omega))
    rw [HR.out]
    have h2' : 1 ≤ (l.length : Int) - 1 := by omega
    have h3' : 10 < (l.length : Int) - 1 := by omega
    go_enter Tryz.func155, Tryz.ntmps155
    go_wp2_with fail
    go_ret2
    exact ⟨rfl, rfl⟩
  have h2' : 1 ≤ (l.length : Int) - 1 := by omega
  have h3' : (l.length : Int) - 1 ≤ 10 := by omega
  go_enter Tryz.func155, Tryz.ntmps155
  go_wp2_with fail
  go_loop [6, 7] (fun n i => ∃ k : Nat, 1 ≤ k ∧ k ≤ l.length ∧ i = .int .i64 k ∧ n = .int .i64 (valN (r.take (k - 1)) : Int) ∧ (r.take (k - 1)).all digB = true) (fun _ i => l.length - (intOf i).toNat)
  case atStart => exact ⟨1, by omega, by omega, rfl, rfl, rfl⟩
  case round =>
    obtain ⟨k, hk1, hk, rfl, rfl, hall⟩ := hrel
    have HA := Lib.hid hall
    obtain ⟨v0, v1⟩ := val_bound hall (by have := HL.out; omega)
    clear hall
    by_cases hlt : k < l.length
    · have hb := List.getElem?_eq_getElem (show k - 1 < r.length by have := HL.out; omega)
      generalize r[k - 1]'(_) = b at hb
      have hix := idx_str (P := Tryz.prog) 9 l k b Tryz.underlying9 (by have := HAT.out _ b hb; rwa [show k - 1 + 1 = k by omega] at this)
      unfold byte at hix
      cases hp : digB b
      · have HN := Lib.hid (rdD_dig (neg := true) hb hp)
        rw [HN.out]
        rcases digB_no hp with h | h
        all_goals
          clear hp hb
          generalize (b.toNat : Int) = z at hix h
          go_wp2_with fail
          go_ret2
          exact ⟨rfl, rfl⟩
      · have HS := Lib.hid (dig_step HA.out hb hp)
        have HV := Lib.hid (valZ_take hb hp)
        rw [show k - 1 + 1 = k + 1 - 1 by omega] at HS HV
        obtain ⟨h0, h1⟩ := digB_yes hp
        clear hp hb
        generalize (b.toNat : Int) = z at hix h0 h1 HV
        generalize ((valN (r.take (k - 1)) : Nat) : Int) = n at v0 v1 HV ⊢
        go_wp2_with fail
        go_round
        case rel => exact ⟨k + 1, by omega, by omega, by go_num, by rw [HV.out], HS.out⟩
        case measure => simp [intOf]; omega
    · have hjl : r.take (k - 1) = r := List.take_of_length_le (by have := HL.out; omega)
      rw [hjl] at HA v0 v1 ⊢
      clear hjl
      have hb := List.getElem?_eq_getElem (show 0 < r.length by have := HL.out; omega)
      generalize r[0]'(_) = c at hb
      have hix := idx_str (P := Tryz.prog) 9 l 1 c Tryz.underlying9 (HAT.out 0 c hb)
      rw [show (((1 : Nat) : Int)) = 1 from rfl] at hix
      have hh : r.head? = some c := by rw [List.head?_eq_getElem?]; exact hb
      by_cases hc : c = 48
      · subst hc
        have HN := Lib.hid (rdD_nought (neg := true) hh (.inl rfl))
        clear hh hb
        unfold byte at hix
        rw [show (((48 : UInt8).toNat : Int)) = 48 from rfl] at hix
        go_wp2_with fail
        go_ret2
        exact ⟨rd_none HN.out, rfl⟩
      · have HE := Lib.hid (rdD_end (neg := true) (l := r) (by have := HL.out; omega) (by have := HL.out; omega) HA.out (fun q => hc (by have := q.1; rw [hh] at this; simpa using this)))
        have e1 : ((c.toNat : Int) == 48) = false := u8_ne hc rfl
        clear hh hb hc
        unfold byte at hix
        generalize (c.toNat : Int) = z at hix e1
        have HG : Hid (sgn true (valN r) = -((valN r : Nat) : Int)) := Lib.hid rfl
        generalize sgn true (valN r) = g at HG HE
        generalize ((valN r : Nat) : Int) = n at v0 v1 HG ⊢
        cases hw : wordB g
        · rw [hw] at HE
          have HN : Hid (rdD true r = none) := Lib.hid (by rw [HE.out]; rfl)
          have HW : Hid (wordB (-n) = false) := Lib.hid (by rw [← HG.out]; exact hw)
          clear hw HE
          go_wp2_with fail
          refine (l5Word_any _ _).mono ?_
          rintro e w' ⟨rfl, rfl⟩
          rw [HW.out]
          go_wp2_with fail
          go_ret2
          exact ⟨rd_none HN.out, rfl⟩
        · rw [hw] at HE
          have HN : Hid (rdD true r = some (-n)) := Lib.hid (by rw [HE.out, ← HG.out]; rfl)
          have HW : Hid (wordB (-n) = true) := Lib.hid (by rw [← HG.out]; exact hw)
          clear hw HE
          go_wp2_with fail
          refine (l5Word_any _ _).mono ?_
          rintro e w' ⟨rfl, rfl⟩
          rw [HW.out]
          go_wp2_with fail
          go_ret2
          exact ⟨rd_some HN.out, rfl⟩

set_option maxHeartbeats 2000000 in
theorem sRead_pos (l : List UInt8) (a : UInt8) (hl : l.length ≤ 1048576) (hb0 : l[0]? = some a) (ha : ¬ a = 45) (w : World) : Calls Tryz.prog 155 #[str l] w (RdOut (rdD false l) w) := by
  have hix0 := idx_str (P := Tryz.prog) 9 l 0 a Tryz.underlying9 hb0
  have h1l : 1 ≤ l.length := (List.getElem?_eq_some_iff.1 hb0).1
  have hne : (!l.isEmpty) = true := by
    cases l with
    | nil => simp at hb0
    | cons _ _ => rfl
  have HH : Hid (l.head? = some a) := Lib.hid (by rw [List.head?_eq_getElem?]; exact hb0)
  clear hb0
  rw [show (((0 : Nat) : Int)) = 0 from rfl] at hix0
  have e45 : ((a.toNat : Int) == 45) = false := u8_ne ha rfl
  clear ha
  have HC : Hid (a = 48 ∨ ((a.toNat : Int) == 48) = false) := Lib.hid (by
    by_cases h : a = 48
    · exact .inl h
    · exact .inr (u8_ne h rfl))
  have HZ : Hid (a = 48 → (a.toNat : Int) = 48) := Lib.hid (fun h => by rw [h]; rfl)
  unfold byte at hix0
  generalize (a.toNat : Int) = y at hix0 e45 HC HZ
  have g1 : 1 ≤ (l.length : Int) := by omega
  by_cases h10 : 10 < l.length
  · have HR := Lib.hid (rdD_long (neg := false) (l := l) (by omega))
    rw [HR.out]
    go_enter Tryz.func155, Tryz.ntmps155
    go_wp2_with fail
    go_ret2
    exact ⟨rfl, rfl⟩
  have g10 : (l.length : Int) ≤ 10 := by omega
  go_enter Tryz.func155, Tryz.ntmps155
  go_wp2_with fail
  go_loop [6, 7] (fun n i => ∃ k : Nat, k ≤ l.length ∧ i = .int .i64 k ∧ n = .int .i64 (valN (l.take k) : Int) ∧ (l.take k).all digB = true) (fun _ i => l.length - (intOf i).toNat)
  case atStart => exact ⟨0, by omega, rfl, rfl, rfl⟩
  case round =>
    obtain ⟨k, hk, rfl, rfl, hall⟩ := hrel
    have HA := Lib.hid hall
    obtain ⟨v0, v1⟩ := val_bound hall (by omega)
    clear hall
    by_cases hlt : k < l.length
    · have hb := List.getElem?_eq_getElem hlt
      generalize l[k] = b at hb
      have hix := idx_str (P := Tryz.prog) 9 l k b Tryz.underlying9 hb
      unfold byte at hix
      cases hp : digB b
      · have HN := Lib.hid (rdD_dig (neg := false) hb hp)
        rw [HN.out]
        rcases digB_no hp with h | h
        all_goals
          clear hp hb
          generalize (b.toNat : Int) = z at hix h
          go_wp2_with fail
          go_ret2
          exact ⟨rfl, rfl⟩
      · have HS := Lib.hid (dig_step HA.out hb hp)
        have HV := Lib.hid (valZ_take hb hp)
        obtain ⟨h0, h1⟩ := digB_yes hp
        clear hp hb
        generalize (b.toNat : Int) = z at hix h0 h1 HV
        generalize ((valN (l.take k) : Nat) : Int) = n at v0 v1 HV ⊢
        go_wp2_with fail
        go_round
        case rel => exact ⟨k + 1, by omega, by go_num, by rw [HV.out], HS.out⟩
        case measure => simp [intOf]; omega
    · have hjl : l.take k = l := List.take_of_length_le (by omega)
      rw [hjl] at HA v0 v1 ⊢
      clear hjl
      by_cases hc : a = 48 ∧ 1 < l.length
      · have HN := Lib.hid (rdD_nought (neg := false) (l := l) (by rw [HH.out, hc.1]) (.inr hc.2))
        rw [HZ.out hc.1] at hix0
        have hgt : 1 < l.length := hc.2
        have hgt' : 1 < (l.length : Int) := by omega
        clear hc e45
        go_wp2_with fail
        go_ret2
        exact ⟨rd_none HN.out, rfl⟩
      · have HE := Lib.hid (rdD_end (neg := false) (l := l) (by omega) (by omega) HA.out (fun q => hc ⟨by have := q.1; rw [HH.out] at this; simpa using this, by rcases q.2 with h | h; cases h; exact h⟩))
        have HG : Hid (sgn false (valN l) = ((valN l : Nat) : Int)) := Lib.hid rfl
        generalize sgn false (valN l) = g at HG HE
        generalize ((valN l : Nat) : Int) = n at v0 v1 HG ⊢
        have HD : Hid ((y = 48 ∧ ¬ 1 < l.length) ∨ (y == 48) = false) := Lib.hid (by
          rcases HC.out with h | h
          · exact .inl ⟨HZ.out h, fun q => hc ⟨h, q⟩⟩
          · exact .inr h)
        clear hc HC HZ HH
        rcases HD.out with ⟨rfl, hq⟩ | hy
        · have hq' : (l.length : Int) ≤ 1 := by omega
          clear HD e45
          cases hw : wordB g
          · rw [hw] at HE
            have HN : Hid (rdD false l = none) := Lib.hid (by rw [HE.out]; rfl)
            have HW : Hid (wordB n = false) := Lib.hid (by rw [← HG.out]; exact hw)
            clear hw HE
            go_wp2_with fail
            refine (l5Word_any _ _).mono ?_
            rintro e w' ⟨rfl, rfl⟩
            rw [HW.out]
            go_wp2_with fail
            go_ret2
            exact ⟨rd_none HN.out, rfl⟩
          · rw [hw] at HE
            have HN : Hid (rdD false l = some n) := Lib.hid (by rw [HE.out, ← HG.out]; rfl)
            have HW : Hid (wordB n = true) := Lib.hid (by rw [← HG.out]; exact hw)
            clear hw HE
            go_wp2_with fail
            refine (l5Word_any _ _).mono ?_
            rintro e w' ⟨rfl, rfl⟩
            rw [HW.out]
            go_wp2_with fail
            go_ret2
            exact ⟨rd_some HN.out, rfl⟩
        · clear HD e45
          cases hw : wordB g
          · rw [hw] at HE
            have HN : Hid (rdD false l = none) := Lib.hid (by rw [HE.out]; rfl)
            have HW : Hid (wordB n = false) := Lib.hid (by rw [← HG.out]; exact hw)
            clear hw HE
            go_wp2_with fail
            refine (l5Word_any _ _).mono ?_
            rintro e w' ⟨rfl, rfl⟩
            rw [HW.out]
            go_wp2_with fail
            go_ret2
            exact ⟨rd_none HN.out, rfl⟩
          · rw [hw] at HE
            have HN : Hid (rdD false l = some n) := Lib.hid (by rw [HE.out, ← HG.out]; rfl)
            have HW : Hid (wordB n = true) := Lib.hid (by rw [← HG.out]; exact hw)
            clear hw HE
            go_wp2_with fail
            refine (l5Word_any _ _).mono ?_
            rintro e w' ⟨rfl, rfl⟩
            rw [HW.out]
            go_wp2_with fail
            go_ret2
            exact ⟨rd_some HN.out, rfl⟩

theorem sReadWord_any (l : List UInt8) (hl : l.length ≤ 1048576) (w : World) : Calls Tryz.prog 155 #[str l] w (RdOut (rdS l) w) := by
  cases l with
  | nil => exact sRead_nil w
  | cons c r =>
    by_cases h : c = 45
    · subst h
      rw [rdS_neg]
      exact sRead_neg _ r hl rfl w
    · rw [rdS_pos h]
      exact sRead_pos (c :: r) c hl rfl h w

end Go.Proofs.YtigcbegeaikfcaaGreatDoor

namespace Go.Proofs.YtigcbegeaikfcaaGreatDoor
open Go.RowKit
set_option linter.unusedVariables false

/-- The place of the first that is s, counted from k on; -1 when none is. -/
def idxS : List (List UInt8) → List UInt8 → Nat → Int
  | [], _, _ => -1
  | x :: r, s, k => if x = s then (k : Int) else idxS r s (k + 1)
theorem idx_yes {ss : List (List UInt8)} {k : Nat} {x s : List UInt8} (hv : idxS (ss.drop k) s k = idxS ss s 0) (hx : ss[k]? = some x) (h : x = s) : idxS ss s 0 = (k : Int) := by
  rw [← hv, fin_cons hx, idxS, if_pos h]
theorem idx_no {ss : List (List UInt8)} {k : Nat} {x s : List UInt8} (hv : idxS (ss.drop k) s k = idxS ss s 0) (hx : ss[k]? = some x) (h : ¬ x = s) : idxS (ss.drop (k + 1)) s (k + 1) = idxS ss s 0 := by
  rw [← hv, fin_cons hx, idxS, if_neg h]
theorem idx_end {ss : List (List UInt8)} {s : List UInt8} (hv : idxS (ss.drop ss.length) s ss.length = idxS ss s 0) : idxS ss s 0 = -1 := by
  rw [← hv, List.drop_of_length_le (Nat.le_refl _)]; rfl
theorem strs_at {w : World} {B : Nat} {A : Option Addr} {m c : Nat} {ss : List (List UInt8)} {k : Nat} {x : List UInt8} (h : SeeV w B (.slice A m c) (ss.map str)) (hx : ss[k]? = some x) :
    ∃ g o, A = some ⟨g, o, none⟩ ∧ g < B ∧ w.cell? ⟨g, o + k, none⟩ = some (str x) := h.at_ (by rw [List.getElem?_map, hx]; rfl)
theorem strs_shape {w : World} {B : Nat} {v : Value} {ss : List (List UInt8)} (h : SeeV w B v (ss.map str)) : ∃ A c, v = .slice A ss.length c := by
  obtain ⟨A, c, e⟩ := h.shape; exact ⟨A, c, by rw [e, List.length_map]⟩
theorem strs_len {w : World} {B : Nat} {v : Value} {ss : List (List UInt8)} (h : SeeV w B v (ss.map str)) : ss.length ≤ maxLen := by have := h.1; rwa [List.length_map] at this

set_option maxHeartbeats 1000000 in
theorem l1At_any (B : Nat) (v : Value) (ss : List (List UInt8)) (s : List UInt8) (w : World) (h : SeeV w B v (ss.map str)) :
    Calls Tryz.prog 157 #[v, str s] w fun e w' => e = .returned (.int .i64 (idxS ss s 0)) ∧ w = w' := by
  have hm := strs_len h
  unfold maxLen at hm
  obtain ⟨A, c, rfl⟩ := strs_shape h
  go_enter Tryz.func157, Tryz.ntmps157
  go_wp2_with fail
  go_loop [5] (fun i => ∃ k : Nat, k ≤ ss.length ∧ i = .int .i64 k ∧ idxS (ss.drop k) s k = idxS ss s 0) (fun i => ss.length - (intOf i).toNat)
  case atStart => exact ⟨0, Nat.zero_le _, rfl, rfl⟩
  case round =>
    obtain ⟨k, hk, rfl, hv⟩ := hrel
    have HV := Lib.hid hv
    clear hv
    by_cases hlt : k < ss.length
    · have hb := List.getElem?_eq_getElem hlt
      generalize ss[k] = x at hb
      obtain ⟨g, o, rfl, -, hn⟩ := strs_at h hb
      by_cases hs : x = s
      · subst hs
        have HE := Lib.hid (idx_yes HV.out hb rfl)
        clear hb h
        go_wp2_with fail
        go_ret
        exact ⟨ret_int HE.out.symm, rfl⟩
      · have HE := Lib.hid (idx_no HV.out hb hs)
        have hf : (x == s) = false := by simpa using hs
        clear hb h hs
        go_wp2_with fail
        go_round
        case rel => exact ⟨k + 1, by omega, by go_num, HE.out⟩
        case measure => simp [intOf]; omega
    · obtain rfl : k = ss.length := by omega
      have HE := Lib.hid (idx_end HV.out)
      go_wp2_with fail
      go_ret
      exact ⟨ret_int HE.out.symm, rfl⟩

def opsL : List (List UInt8) := [[43], [45], [42], [47], [60], [61]]
theorem opN_idx (s : List UInt8) : opN s = idxS opsL s 0 + 1 := by
  unfold opN opsL
  simp only [idxS, eq_comm (a := s)]
  repeat' split
  all_goals first | rfl | simp_all

set_option maxHeartbeats 1000000 in
theorem l6Ops_any (w : World) : Calls Tryz.prog 177 #[] w fun e w' => ∃ v, e = .returned v ∧ SeeV w' w'.heap.size v (opsL.map str) ∧ Below w.heap.size w w' := by
  go_enter Tryz.func177, Tryz.ntmps177
  go_wp2_with fail
  go_ret
  refine ⟨_, rfl, ⟨by decide, _, _, rfl, by simp [opsL], fun k x hx => ⟨_, _, rfl, by simp, ?_⟩⟩, (Below.refl _ _).alloc (Nat.le_refl _) _⟩
  rw [Nat.zero_add, cell_of_row _ _ k _ _ (0, 0) (heap_alloc_new _ _)]
  rw [← hx]
  simp [opsL]

set_option maxHeartbeats 1000000 in
theorem l6Op_any (s : List UInt8) (w : World) : Calls Tryz.prog 156 #[str s] w fun e w' => e = .returned (.int .i64 (opN s)) ∧ Below w.heap.size w w' := by
  have HO := Lib.hid (opN_idx s)
  obtain ⟨r0, r1⟩ := opN_range s
  rw [HO.out] at r0 r1
  go_enter Tryz.func156, Tryz.ntmps156
  go_wp2_with fail
  refine (l6Ops_any _).mono ?_
  rintro e w1 ⟨v, rfl, h1, b1⟩
  obtain ⟨A, c, rfl⟩ := h1.shape
  go_wp2_with fail
  refine (l1At_any _ _ opsL s _ h1).mono ?_
  rintro e w' ⟨rfl, rfl⟩
  generalize idxS opsL s 0 = z at HO r0 r1 ⊢
  go_wp2_with fail
  go_ret
  exact ⟨ret_int HO.out.symm, b1⟩

end Go.Proofs.YtigcbegeaikfcaaGreatDoor

namespace Go.Proofs.YtigcbegeaikfcaaGreatDoor
open Go.RowKit
set_option linter.unusedVariables false

/-- No sign is longer than that. -/
def shortS (ss : List (List UInt8)) : Prop := ∀ s ∈ ss, s.length ≤ 1048576
def IntLt (w : World) (x : Int) (e : Ending) (w' : World) : Prop := e = .returned (.int .i64 x) ∧ Below w.heap.size w w'

set_option maxHeartbeats 4000000 in
theorem sSumEnd_neg (n c : Nat) (A : Option Addr) (a : Int) (w : World) (ha : a < 0) : Calls Tryz.prog 117 #[.slice A n c, .int .i64 a] w (IntLt w (-1)) := by
  go_enter Tryz.func117, Tryz.ntmps117
  go_wp2_with fail
  go_loopw [1, 5, 6, 7, 28, 37] (fun i j _ _ _ _ wr => i = .int .i64 a ∧ j = .int .i64 1 ∧ wr = w) (fun _ _ _ _ _ _ _ => 0)
  case atStart => exact ⟨rfl, rfl, rfl⟩
  case round =>
    obtain ⟨rfl, rfl, rfl⟩ := hrel
    go_wp2_with fail
    go_ret
    exact ⟨rfl, Below.refl _ _⟩

theorem leaf_name {s : List UInt8} (h : rdS s = none) : leafB s = nameB s := by unfold leafB; rw [h]; rfl
theorem leaf_word {s : List UInt8} {v : Int} (h : rdS s = some v) : leafB s = true := by unfold leafB; rw [h]; rfl
theorem ret_neg {R : Int} (h : R = -1) : Ending.returned (.int .i64 (-1)) = .returned (.int .i64 R) := by rw [h]

set_option maxHeartbeats 4000000 in
theorem sSumEnd_nat (B : Nat) (v : Value) (ss : List (List UInt8)) (k0 : Nat) (w : World) (h : SeeV w B v (ss.map str)) (hB : B ≤ w.heap.size) (hS : shortS ss) (hn : ss.length ≤ 1048576) :
    Calls Tryz.prog 117 #[v, .int .i64 k0] w (IntLt w (finS ss k0 1)) := by
  obtain ⟨A, c, rfl⟩ := strs_shape h
  generalize hR : finS ss k0 1 = R
  have HR := Lib.hid hR
  clear hR
  go_enter Tryz.func117, Tryz.ntmps117
  go_wp2_with fail
  go_loopw [1, 5, 6, 7, 28, 37] (fun i j _ _ _ _ wr => ∃ (k n : Nat), i = .int .i64 k ∧ j = .int .i64 n ∧ Below w.heap.size w wr ∧ ((n = 0 ∧ R = k) ∨ (1 ≤ n ∧ n ≤ k + 1 ∧ R = finS ss k n))) (fun i j _ _ _ _ _ => ss.length - (intOf i).toNat + (intOf j).toNat * 0)
  case atStart => exact ⟨k0, 1, rfl, rfl, Below.refl _ _, .inr ⟨by omega, by omega, HR.out.symm⟩⟩
  case round =>
    obtain ⟨k, n, rfl, rfl, hbw, hst⟩ := hrel
    rcases hst with ⟨rfl, hq⟩ | ⟨n1, n2, hq⟩
    · have HQ := Lib.hid hq
      clear hq
      go_wp2_with fail
      go_ret
      exact ⟨ret_int HQ.out.symm, hbw⟩
    have HQ := Lib.hid hq
    clear hq
    by_cases hlt : k < ss.length
    · have hx := List.getElem?_eq_getElem hlt
      generalize ss[k] = x at hx
      have hsx := hS x (List.mem_of_getElem? hx)
      obtain ⟨g, o, rfl, hgB, hcx⟩ := strs_at (h.below (hbw.mono hB)) hx
      have c1 := fun W (q : Below wr.heap.size wr W) => (q.cell (p := ⟨g, o + k, none⟩) (World.block_lt_of_cell? wr _ hcx)).trans hcx
      go_wp2_with fail
      refine (sReadWord_any x hsx _).mono ?_
      rintro e w' ⟨rfl, rfl⟩
      generalize hrd : rdS x = rd
      have HRD := Lib.hid hrd
      clear hrd
      go_wp2_with fail
      refine (l6Op_any x _).mono ?_
      rintro e w2 ⟨rfl, b2⟩
      have hc2 := c1 _ b2
      replace b2 := below_then hbw b2 (Nat.le_refl _)
      obtain ⟨r0, r1⟩ := opN_range x
      generalize hop : opN x = op at r0 r1 ⊢
      have HOP := Lib.hid hop
      clear hop c1 hcx
      by_cases ho : op = 0
      · subst ho
        cases rd with
        | some y =>
          have HLF := Lib.hid (leaf_word HRD.out)
          by_cases hn1 : n = 1
          · subst hn1
            have HE : Hid (R = ((k + 1 : Nat) : Int)) := Lib.hid (HQ.out.trans (fin_last hx HOP.out HLF.out))
            clear hx
            go_wp2_with fail
            go_roundw
            case rel => exact ⟨k + 1, 0, by go_num, by go_num, b2, .inl ⟨rfl, HE.out⟩⟩
            case measure => simp [intOf]; omega
          · have HE : Hid (R = finS ss (k + 1) (n - 1)) := Lib.hid (HQ.out.trans (fin_leaf hx HOP.out HLF.out hn1))
            clear hx
            go_wp2_with fail
            go_roundw
            case rel => exact ⟨k + 1, n - 1, by go_num, by go_num, b2, .inr ⟨by omega, by omega, HE.out⟩⟩
            case measure => simp [intOf]; omega
        | none =>
          cases hnm : nameB x
          · have HLF : Hid (leafB x = false) := Lib.hid ((leaf_name HRD.out).trans hnm)
            have HE := Lib.hid (HQ.out.trans (fin_bad hx HOP.out HLF.out))
            have HNM := Lib.hid hnm
            clear hx hnm
            go_wp2_with fail
            refine (sNameOk_any x hsx _).mono ?_
            rintro e w' ⟨rfl, rfl⟩
            rw [HNM.out]
            go_wp2_with fail
            go_ret
            exact ⟨ret_neg HE.out, b2⟩
          · have HLF : Hid (leafB x = true) := Lib.hid ((leaf_name HRD.out).trans hnm)
            have HNM := Lib.hid hnm
            clear hnm
            by_cases hn1 : n = 1
            · subst hn1
              have HE : Hid (R = ((k + 1 : Nat) : Int)) := Lib.hid (HQ.out.trans (fin_last hx HOP.out HLF.out))
              clear hx
              go_wp2_with fail
              refine (sNameOk_any x hsx _).mono ?_
              rintro e w' ⟨rfl, rfl⟩
              rw [HNM.out]
              go_wp2_with fail
              go_roundw
              case rel => exact ⟨k + 1, 0, by go_num, by go_num, b2, .inl ⟨rfl, HE.out⟩⟩
              case measure => simp [intOf]; omega
            · have HE : Hid (R = finS ss (k + 1) (n - 1)) := Lib.hid (HQ.out.trans (fin_leaf hx HOP.out HLF.out hn1))
              clear hx
              go_wp2_with fail
              refine (sNameOk_any x hsx _).mono ?_
              rintro e w' ⟨rfl, rfl⟩
              rw [HNM.out]
              go_wp2_with fail
              go_roundw
              case rel => exact ⟨k + 1, n - 1, by go_num, by go_num, b2, .inr ⟨by omega, by omega, HE.out⟩⟩
              case measure => simp [intOf]; omega
      · have HE : Hid (R = finS ss (k + 1) (n + 1)) := Lib.hid (HQ.out.trans (fin_op hx (by rw [HOP.out]; exact ho)))
        have ho' : 0 < op := by omega
        clear hx
        go_wp2_with fail
        go_roundw
        case rel => exact ⟨k + 1, n + 1, by go_num, by go_num, b2, .inr ⟨by omega, by omega, HE.out⟩⟩
        case measure => simp [intOf]; omega
    · have HE := Lib.hid (HQ.out.trans (fin_out (by omega)))
      go_wp2_with fail
      go_ret
      exact ⟨ret_neg HE.out, hbw⟩

theorem sSumEnd_any (B : Nat) (v : Value) (ss : List (List UInt8)) (a : Int) (w : World) (h : SeeV w B v (ss.map str)) (hB : B ≤ w.heap.size) (hS : shortS ss) (hn : ss.length ≤ 1048576) :
    Calls Tryz.prog 117 #[v, .int .i64 a] w (IntLt w (sumEndS ss a)) := by
  by_cases ha : a < 0
  · obtain ⟨A, c, rfl⟩ := strs_shape h
    rw [end_neg ha]
    exact sSumEnd_neg _ _ _ a w ha
  · obtain ⟨k, rfl⟩ : ∃ k : Nat, a = k := ⟨a.toNat, by omega⟩
    rw [end_nat]
    exact sSumEnd_nat B v ss k w h hB hS hn

end Go.Proofs.YtigcbegeaikfcaaGreatDoor

namespace Go.Proofs.YtigcbegeaikfcaaGreatDoor
open Go.RowKit
set_option linter.unusedVariables false

theorem at_leaf {ss : List (List UInt8)} {k : Nat} {s : List UInt8} (h : SumAt ss k (.leaf s)) : ss[k]? = some s ∧ opN s = 0 ∧ leafB s = true := by
  obtain ⟨h1, rest, h2⟩ := h
  have : (ss.drop k)[0]? = some s := by rw [h2]; rfl
  rw [List.getElem?_drop] at this
  exact ⟨this, h1.1, h1.2⟩
theorem at_op {ss : List (List UInt8)} {k : Nat} {s : List UInt8} {a b : Sum} (h : SumAt ss k (.op s a b)) : ss[k]? = some s ∧ ¬ opN s = 0 ∧ SumAt ss (k + 1) a ∧ SumAt ss (k + 1 + a.flat.length) b := by
  obtain ⟨h1, rest, h2⟩ := h
  have h3 : ss.drop k = s :: (a.flat ++ (b.flat ++ rest)) := by rw [h2]; simp [Sum.flat]
  have h4 : (ss.drop k)[0]? = some s := by rw [h3]; rfl
  rw [List.getElem?_drop] at h4
  have h5 : ss.drop (k + 1) = a.flat ++ (b.flat ++ rest) := by
    rw [← List.drop_drop, h3]; rfl
  refine ⟨h4, h1.1, ⟨h1.2.1, _, h5⟩, h1.2.2, rest, ?_⟩
  rw [← List.drop_drop, h5, List.drop_left' rfl]

def SumOut (r : Option Int) (k : Nat) (w : World) (e : Ending) (w' : World) : Prop := e = .returned (.tuple #[.int .i64 (r.getD 0), .int .i64 (k : Int), .bool r.isSome]) ∧ Below w.heap.size w w'
theorem sum_ret {x : Int} {y : Int} {b : Bool} {r : Option Int} {k : Nat} (h1 : x = r.getD 0) (h2 : y = (k : Int)) (h3 : b = r.isSome) : Ending.returned (.tuple #[.int .i64 x, .int .i64 y, .bool b]) = .returned (.tuple #[.int .i64 (r.getD 0), .int .i64 (k : Int), .bool r.isSome]) := by rw [h1, h2, h3]
theorem eval_no1 {bs : List Bx} {s : List UInt8} {a b : Sum} (h : evalT bs a = none) : evalT bs (.op s a b) = none := by rw [evalT, h]
theorem eval_no2 {bs : List Bx} {s : List UInt8} {a b : Sum} (h : evalT bs b = none) : evalT bs (.op s a b) = none := by
  rw [evalT, h]
  cases evalT bs a <;> rfl
theorem eval_did {bs : List Bx} {s : List UInt8} {a b : Sum} {x y : Int} (ha : evalT bs a = some x) (hb : evalT bs b = some y) : evalT bs (.op s a b) = if (didS (opN s) x y).2 = true then some (didS (opN s) x y).1 else none := by
  rw [evalT, ha, hb]
theorem did_zero {o a b v : Int} (h : didS o a b = (v, false)) : v = 0 := by
  unfold didS didV at h
  repeat' split at h
  all_goals first | (cases h; rfl) | cases h
theorem did_val {o x y v : Int} {is : Bool} {r : Option Int} (hd : didS o x y = (v, is)) (hr : r = if (didS o x y).2 = true then some (didS o x y).1 else none) : v = r.getD 0 ∧ is = r.isSome := by
  rw [hd] at hr
  cases is with
  | true => subst hr; exact ⟨rfl, rfl⟩
  | false => subst hr; exact ⟨did_zero hd, rfl⟩

def RdLt (r : Option Int) (w : World) (e : Ending) (w' : World) : Prop := e = .returned (.tuple #[.int .i64 (r.getD 0), .bool r.isSome]) ∧ Below w.heap.size w w'

end Go.Proofs.YtigcbegeaikfcaaGreatDoor
