/- Numerals of words: a text that a word's numeral is, read by the model's rule, by the library's parse and by the library's numeral. Plain mathematics; no function of the program is named. -/
import Derived.Test.YtblnonlcjfcblaaGreatDoorWordA
import Derived.Lib.ParseIntBTie
import Derived.Lib.ItoaMem
namespace Go.Proofs.YtblnonlcjfcblaaGreatDoor
open Go.RowKit
set_option linter.unusedVariables false

def digB (b : UInt8) : Bool := decide (48 ≤ b.toNat ∧ b.toNat ≤ 57)
def dgv (n : Nat) (b : UInt8) : Nat := n * 10 + (b.toNat - 48)
/-- The number that digits tell. -/
def valN (l : List UInt8) : Nat := l.foldl dgv 0
theorem digB_iff {b : UInt8} : digB b = true ↔ 48 ≤ b.toNat ∧ b.toNat ≤ 57 := by simp [digB]
theorem valN_snoc (l : List UInt8) (b : UInt8) : valN (l ++ [b]) = valN l * 10 + (b.toNat - 48) := by simp [valN, List.foldl_append, dgv]
theorem valN_take {l : List UInt8} {k : Nat} {b : UInt8} (hb : l[k]? = some b) : valN (l.take (k + 1)) = valN (l.take k) * 10 + (b.toNat - 48) := by
  rw [List.take_add_one, hb]; exact valN_snoc _ _
theorem fold_ge (l : List UInt8) : ∀ a, a ≤ l.foldl dgv a := by
  induction l with
  | nil => intro a; exact Nat.le_refl _
  | cons b l ih => intro a; exact Nat.le_trans (by unfold dgv; omega) (ih (dgv a b))
theorem fold_lt (l : List UInt8) (hd : l.all digB = true) : ∀ a, l.foldl dgv a < (a + 1) * 10 ^ l.length := by
  induction l with
  | nil => intro a; simp
  | cons b l ih =>
    intro a
    rw [List.all_cons, Bool.and_eq_true] at hd
    have hb := digB_iff.1 hd.1
    have h := ih hd.2 (dgv a b)
    rw [List.foldl_cons, List.length_cons, Nat.pow_succ]
    refine Nat.lt_of_lt_of_le h ?_
    rw [Nat.mul_comm (10 ^ l.length) 10, ← Nat.mul_assoc]
    exact Nat.mul_le_mul_right _ (by unfold dgv; omega)
theorem valN_lt {l : List UInt8} (hd : l.all digB = true) (hl : l.length ≤ 10) : valN l < 10000000000 := by
  have h := fold_lt l hd 0
  have hp : 10 ^ l.length ≤ 10 ^ 10 := Nat.pow_le_pow_right (by decide) hl
  have e : (10 : Nat) ^ 10 = 10000000000 := by decide
  unfold valN
  omega
theorem byte_of {b : UInt8} (h : 48 ≤ b.toNat ∧ b.toNat ≤ 57) : UInt8.ofNat (48 + (b.toNat - 48)) = b := by
  rw [show 48 + (b.toNat - 48) = b.toNat by omega]
  exact UInt8.ofNat_toNat
theorem toNat_dig {x : Nat} (h : x < 10) : (UInt8.ofNat (48 + x)).toNat = 48 + x := by
  rw [UInt8.toNat_ofNat']
  omega
theorem dec_small {u : Nat} (h : u < 10) : Lib.decDigits u = [UInt8.ofNat (48 + u)] := by rw [Lib.decDigits, dif_pos h]
theorem dec_big {u : Nat} (h : ¬ u < 10) : Lib.decDigits u = Lib.decDigits (u / 10) ++ [UInt8.ofNat (48 + u % 10)] := by rw [Lib.decDigits, dif_neg h]

/-- What a number's numeral is like. -/
theorem dec_facts (u : Nat) : (Lib.decDigits u).all digB = true ∧ valN (Lib.decDigits u) = u ∧ (∃ b r, Lib.decDigits u = b :: r ∧ (1 ≤ u → ¬ b = 48) ∧ (u < 10 → r = [])) := by
  induction u using Nat.strongRecOn with
  | _ u ih =>
    by_cases h : u < 10
    · rw [dec_small h]
      have ht := toNat_dig h
      refine ⟨?_, ?_, _, _, rfl, fun h1 e => ?_, fun _ => rfl⟩
      · simp only [List.all_cons, List.all_nil, Bool.and_true]; rw [digB_iff, ht]; omega
      · rw [show [UInt8.ofNat (48 + u)] = [] ++ [UInt8.ofNat (48 + u)] from rfl, valN_snoc, ht]; simp [valN]
      · have := congrArg UInt8.toNat e
        rw [ht] at this
        have h48 : (48 : UInt8).toNat = 48 := rfl
        omega
    · rw [dec_big h]
      obtain ⟨i1, i2, b, r, i3, i4, _⟩ := ih (u / 10) (by omega)
      have ht := toNat_dig (x := u % 10) (by omega)
      refine ⟨?_, ?_, b, r ++ [UInt8.ofNat (48 + u % 10)], by rw [i3]; rfl, fun _ => i4 (by omega), fun h' => absurd h' h⟩
      · rw [List.all_append, i1]
        simp only [List.all_cons, List.all_nil, Bool.and_true, Bool.true_and]; rw [digB_iff, ht]; omega
      · rw [valN_snoc, i2, ht]; omega
theorem dec_len : ∀ (k u : Nat), 1 ≤ k → u < 10 ^ k → (Lib.decDigits u).length ≤ k := by
  intro k
  induction k with
  | zero => intro u h; omega
  | succ k ih =>
    intro u _ hu
    by_cases h : u < 10
    · rw [dec_small h]; simp
    · rw [dec_big h, List.length_append]
      have hk : 1 ≤ k := by
        rcases Nat.eq_zero_or_pos k with rfl | hp
        · simp at hu; omega
        · exact hp
      have := ih (u / 10) hk (by rw [Nat.pow_succ] at hu; omega)
      simp; omega
theorem valN_pos {b : UInt8} {r : List UInt8} (hb : digB b = true) (h : ¬ b = 48) : 1 ≤ valN (b :: r) := by
  have h1 := digB_iff.1 hb
  have h2 : b.toNat ≠ 48 := fun e => h (UInt8.toNat_inj.1 e)
  have := fold_ge r (dgv 0 b)
  have e : valN (b :: r) = r.foldl dgv (dgv 0 b) := rfl
  rw [e]
  have e2 : dgv 0 b = 0 * 10 + (b.toNat - 48) := rfl
  omega
/-- Digits without a nought ahead are the numeral of what they tell. -/
theorem dec_back (d : List UInt8) : ∀ (n : Nat), d.length = n → 1 ≤ n → d.all digB = true → ¬ (d.head? = some 48 ∧ 1 < d.length) → Lib.decDigits (valN d) = d := by
  intro n
  induction n generalizing d with
  | zero => intro _ h; omega
  | succ n ih =>
    intro hn _ hd hz
    rcases List.eq_nil_or_concat d with rfl | ⟨d', c, rfl⟩
    · simp at hn
    rw [List.concat_eq_append] at *
    rw [List.all_append, Bool.and_eq_true] at hd
    have hc : digB c = true := by have := hd.2; simpa using this
    have hc' := digB_iff.1 hc
    rw [valN_snoc]
    cases d' with
    | nil =>
      have e : valN [] = 0 := rfl
      rw [e, dec_small (by omega)]
      simp only [List.nil_append, List.cons.injEq, and_true]
      have := byte_of hc'
      rwa [show 48 + (0 * 10 + (c.toNat - 48)) = 48 + (c.toNat - 48) by omega]
    | cons b r =>
      have hb : ¬ b = 48 := fun e => hz ⟨by simp [e], by simp⟩
      have hbd : digB b = true := by have := hd.1; rw [List.all_cons, Bool.and_eq_true] at this; exact this.1
      have hp := valN_pos (r := r) hbd hb
      have hi := ih (b :: r) (by simp at hn ⊢; omega) (by simp at hn; omega) hd.1 (fun q => hb (by simpa using q.1))
      rw [dec_big (by omega)]
      rw [show (valN (b :: r) * 10 + (c.toNat - 48)) / 10 = valN (b :: r) by omega, hi, show (valN (b :: r) * 10 + (c.toNat - 48)) % 10 = c.toNat - 48 by omega, byte_of hc']

def sgn (neg : Bool) (n : Nat) : Int := if neg then -(n : Int) else n
/-- What digits behind a sign (or none) tell by the model's rule. -/
def rdD (neg : Bool) (d : List UInt8) : Option Int :=
  if 1 ≤ d.length ∧ d.length ≤ 10 ∧ d.all digB = true ∧ ¬ (d.head? = some 48 ∧ (neg = true ∨ 1 < d.length)) ∧ wordB (sgn neg (valN d)) = true then some (sgn neg (valN d)) else none
def rdS : List UInt8 → Option Int
  | [] => none
  | c :: r => if c = 45 then rdD true r else rdD false (c :: r)

theorem rdS_neg (r : List UInt8) : rdS (45 :: r) = rdD true r := by simp only [rdS, if_true]
theorem rdS_pos {c : UInt8} (h : ¬ c = 45) (r : List UInt8) : rdS (c :: r) = rdD false (c :: r) := by simp only [rdS, h, if_false]
theorem rdD_some {neg : Bool} {d : List UInt8} {v : Int} (h : rdD neg d = some v) :
    1 ≤ d.length ∧ d.all digB = true ∧ ¬ (d.head? = some 48 ∧ (neg = true ∨ 1 < d.length)) ∧ wordB v = true ∧ v = sgn neg (valN d) := by
  unfold rdD at h
  split at h
  · rename_i q
    injection h with h
    subst h
    exact ⟨q.1, q.2.2.1, q.2.2.2.1, q.2.2.2.2, rfl⟩
  · cases h
theorem rdD_mk {neg : Bool} {u : Nat} (hw : wordB (sgn neg u) = true) (h : neg = true → 1 ≤ u) : rdD neg (Lib.decDigits u) = some (sgn neg u) := by
  obtain ⟨h1, h2, b, r, h3, h4, h5⟩ := dec_facts u
  have hu : u ≤ 2147483648 := by
    rw [wordB_iff] at hw
    cases neg <;> simp [sgn] at hw <;> omega
  have hl := dec_len 10 u (by omega) (by have e : (10 : Nat) ^ 10 = 10000000000 := by decide
                                         omega)
  unfold rdD
  rw [h2, if_pos]
  refine ⟨by rw [h3]; simp, hl, h1, ?_, hw⟩
  rintro ⟨q1, q2⟩
  rw [h3] at q1 q2
  have hb : b = 48 := by simpa using q1
  by_cases hu1 : 1 ≤ u
  · exact h4 hu1 hb
  · rcases q2 with q2 | q2
    · exact hu1 (h q2)
    · rw [h5 (by omega)] at q2; simp at q2

theorem rdS_some {l : List UInt8} {v : Int} (h : rdS l = some v) : wordB v = true ∧ Lib.itoa v = l := by
  cases l with
  | nil => cases h
  | cons c r =>
    by_cases hc : c = 45
    · subst hc
      rw [rdS_neg] at h
      obtain ⟨h1, h2, h3, h4, rfl⟩ := rdD_some h
      refine ⟨h4, ?_⟩
      have hb := dec_back r r.length rfl h1 h2 (fun q => h3 ⟨q.1, .inl rfl⟩)
      have hp : 1 ≤ valN r := by
        cases r with
        | nil => simp at h1
        | cons b r =>
          rw [List.all_cons, Bool.and_eq_true] at h2
          exact valN_pos h2.1 (fun e => h3 ⟨by simp [e], .inl rfl⟩)
      show Lib.itoa (-(valN r : Int)) = _
      rw [Lib.itoa_neg _ hp, hb]
    · rw [rdS_pos hc] at h
      obtain ⟨h1, h2, h3, h4, rfl⟩ := rdD_some h
      refine ⟨h4, ?_⟩
      show Lib.itoa (valN (c :: r) : Int) = _
      rw [Lib.itoa_nonneg]
      exact dec_back (c :: r) _ rfl h1 h2 (fun q => h3 ⟨q.1, .inr q.2⟩)
theorem rdS_itoa {v : Int} (h : wordB v = true) : rdS (Lib.itoa v) = some v := by
  by_cases hv : v < 0
  · obtain ⟨u, rfl⟩ : ∃ u : Nat, v = -(u : Int) := ⟨v.natAbs, by omega⟩
    rw [Lib.itoa_neg u (by omega), rdS_neg]
    exact rdD_mk (neg := true) h (fun _ => by omega)
  · obtain ⟨u, rfl⟩ : ∃ u : Nat, v = (u : Int) := ⟨v.toNat, by omega⟩
    rw [Lib.itoa_nonneg]
    obtain ⟨h1, h2, b, r, h3, h4, h5⟩ := dec_facts u
    have hr := rdD_mk (neg := false) (u := u) h (fun e => by cases e)
    rw [h3] at hr h1 ⊢
    rw [rdS_pos]
    · exact hr
    · rintro rfl
      rw [List.all_cons, Bool.and_eq_true] at h1
      exact absurd h1.1 (by decide)

theorem parseM_ok (M : Nat) (hM : M < 1844674407370955162) (l : List UInt8) (hd : l.all digB = true) : ∀ a, l.foldl dgv a ≤ M → Lib.parseUintM M a l = .ok (l.foldl dgv a) := by
  induction l with
  | nil => intro a _; rfl
  | cons b l ih =>
    intro a h
    rw [List.all_cons, Bool.and_eq_true] at hd
    have hb := digB_iff.1 hd.1
    have hg := fold_ge l (dgv a b)
    rw [List.foldl_cons] at h ⊢
    have e : dgv a b = a * 10 + (b.toNat - 48) := rfl
    rw [Lib.parseUintM, if_pos hb, if_neg (by omega), if_neg (by omega), ← e]
    exact ih hd.2 _ h
theorem parseB_dec {u : Nat} (h : u ≤ 4294967295) : Lib.parseUintB 32 (Lib.decDigits u) = .ok u := by
  obtain ⟨h1, h2, b, r, h3, _⟩ := dec_facts u
  have e : 2 ^ 32 - 1 = 4294967295 := by decide
  unfold Lib.parseUintB
  rw [if_neg (by rw [h3]; simp), e]
  have h2' : (Lib.decDigits u).foldl dgv 0 = u := h2
  have := parseM_ok 4294967295 (by omega) _ h1 0 (by rw [h2']; exact h)
  rwa [h2'] at this
theorem parse_itoa {v : Int} (h : wordB v = true) : Lib.parseIntB 32 (Lib.itoa v) = .ok v := by
  have hw := wordB_iff.1 h
  have e : 2 ^ (32 - 1) = 2147483648 := by decide
  by_cases hv : v < 0
  · obtain ⟨u, rfl⟩ : ∃ u : Nat, v = -(u : Int) := ⟨v.natAbs, by omega⟩
    rw [Lib.itoa_neg u (by omega), Lib.parseIntB_minus, parseB_dec (by omega), e]
    show (if 2147483648 < u then _ else _) = _
    rw [if_neg (by omega)]
  · obtain ⟨u, rfl⟩ : ∃ u : Nat, v = (u : Int) := ⟨v.toNat, by omega⟩
    obtain ⟨h1, h2, b, r, h3, _⟩ := dec_facts u
    rw [Lib.itoa_nonneg]
    have hp := parseB_dec (u := u) (by omega)
    rw [h3] at h1 hp ⊢
    rw [List.all_cons, Bool.and_eq_true] at h1
    have hb := digB_iff.1 h1.1
    rw [Lib.parseIntB_plain _ _ _ (by omega) (by omega), hp, e]
    show (if 2147483648 ≤ u then _ else _) = _
    rw [if_neg (by omega)]
theorem parse_word {l : List UInt8} {v : Int} (h : Lib.parseIntB 32 l = .ok v) : wordB v = true := by
  have := Lib.parseIntB_bounds h
  have e : 2 ^ (32 - 1) = 2147483648 := by decide
  rw [e] at this
  rw [wordB_iff]
  omega
/-- Where the library's parse says yes: the model's rule says the same where the numeral is the text, else none. -/
theorem rd_ok_same {l : List UInt8} {v : Int} (h : Lib.parseIntB 32 l = .ok v) (he : Lib.itoa v = l) : rdS l = some v := by
  rw [← he]; exact rdS_itoa (parse_word h)
theorem rd_ok_other {l : List UInt8} {v : Int} (h : Lib.parseIntB 32 l = .ok v) (he : ¬ Lib.itoa v = l) : rdS l = none := by
  cases hr : rdS l with
  | none => rfl
  | some x =>
    obtain ⟨h1, h2⟩ := rdS_some hr
    have := parse_itoa h1
    rw [h2, h] at this
    injection this with this
    subst this
    exact absurd h2 he
theorem rd_no {l : List UInt8} (h : ∀ v, ¬ Lib.parseIntB 32 l = .ok v) : rdS l = none := by
  cases hr : rdS l with
  | none => rfl
  | some x =>
    obtain ⟨h1, h2⟩ := rdS_some hr
    have := parse_itoa h1
    rw [h2] at this
    exact absurd this (h x)

end Go.Proofs.YtblnonlcjfcblaaGreatDoor
