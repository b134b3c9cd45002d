/- Contracts of the small functions of layer 1 (sets): what each call returns; the world stays as it was. No conditions but those typed. Layer 5 (words): WordOk, Wrap and Did, of the program and of the model, by the same functions on numbers; the world stays as it was. No conditions but those typed. Numerals of words: a text that a word's numeral is, read by the model's rule, by the library's parse and by the library's numeral. Plain mathematics; no function of the program is named. Layer 5 (words): Did, of the program and of the model, by the same function on numbers. No conditions but those typed. Words of our own for memory: rows of integers that a call made, and what appending to them does. No program is named here. Regions that draw their order and hold calls that make memory, but turn nothing that was there, and hand back one value whatever the later world: walked once, in the text's order. Words of our own for rows of whatever values of one cell (bytes, strings): made by the call, or read. No program is named here. Words of our own for rows of structs: each element n cells side by side. No program is named here. Layer 5 (words): NameOk, of the program and of the model, and the law's walk. No conditions but those typed. Layer 6 (sums): boxes: ValueIn and BoxesOk, of the program and of the model, by the same functions. No conditions but those typed. Layer 6 (sums): BoxesOk, of the program and of the model, by the same function. No conditions but those typed. -/
import Derived.Test.YtigcbegeaikfcaaGreatDoorRows
import Derived.WalkKit
import Derived.WalkSpells
import Derived.WalkLawsBesides
import Derived.Lib.Hide
import Derived.Lib.ParseIntBTie
import Derived.Lib.ItoaMem
import Derived.Deep.QuietTactic
import Derived.BigQuiet
import Derived.Laws.IdiomStrings
import Derived.Lib.Join
import Derived.Lib.Repeat
import Derived.Laws.Strings2
import Derived.Laws.MakeOwn
import Derived.Laws.Cover1
namespace Go.Proofs.YtigcbegeaikfcaaGreatDoor
open Go.RowKit
set_option linter.unusedVariables false

def inB (x lo hi : Int) : Bool := decide (lo ≤ x ∧ x ≤ hi)
theorem inB_yes {x lo hi : Int} (h : lo ≤ x ∧ x ≤ hi) : inB x lo hi = true := by simp [inB, h]
theorem inB_no {x lo hi : Int} (h : ¬ (lo ≤ x ∧ x ≤ hi)) : inB x lo hi = false := by simp only [inB, h, decide_false]

set_option maxHeartbeats 400000 in
theorem in_any (x lo hi : Int) (w : World) : Calls Tryz.prog 61 #[.int .i64 x, .int .i64 lo, .int .i64 hi] w fun e w' => e = .returned (.bool (inB x lo hi)) ∧ w = w' := by
  by_cases h0 : lo ≤ x <;> by_cases h1 : x ≤ hi
  all_goals
    have hb : inB x lo hi = decide (lo ≤ x ∧ x ≤ hi) := rfl
    simp only [h0, h1] at hb
    have HB := Lib.hid hb
    clear hb
    go_enter Tryz.func61, Tryz.ntmps61
    go_wp2
    go_ret
    rw [HB.out]
    exact ⟨rfl, rfl⟩

end Go.Proofs.YtigcbegeaikfcaaGreatDoor

namespace Go.Proofs.YtigcbegeaikfcaaGreatDoor
open Go.RowKit
set_option linter.unusedVariables false

def wordB (n : Int) : Bool := inB n (-2147483648) 2147483647
/-- The word that a number is, modulo 2^32. -/
def wrapW (n : Int) : Int := if 2147483648 ≤ n % 4294967296 then n % 4294967296 - 4294967296 else n % 4294967296
theorem and_word (n : Int) : bits BinOp.and IntKind.i64 n 4294967295 = n % 4294967296 := by
  have h32 : (BitVec.ofInt 64 4294967295).toNat = 2 ^ 32 - 1 := by decide
  have key : (BitVec.ofInt 64 n &&& BitVec.ofInt 64 4294967295).toNat = (n % ((2 ^ 64 : Nat) : Int)).toNat % 2 ^ 32 := by
    rw [BitVec.toNat_and, BitVec.toNat_ofInt, h32, Nat.and_two_pow_sub_one_eq_mod]
  show IntKind.i64.wrap ((BitVec.ofInt 64 n &&& BitVec.ofInt 64 4294967295).toNat : Nat) = n % 4294967296
  rw [key, IntKind.wrap_i64]
  omega
theorem ret_int {k : IntKind} {a b : Int} (h : a = b) : Ending.returned (.int k a) = .returned (.int k b) := by rw [h]
def truthI (b : Bool) : Int := if b then 1 else 0

theorem wordB_iff {n : Int} : wordB n = true ↔ -2147483648 ≤ n ∧ n ≤ 2147483647 := by simp [wordB, inB]
theorem wrapW_word (n : Int) : wordB (wrapW n) = true := by
  rw [wordB_iff]; unfold wrapW; split <;> omega
theorem wrapW_same {n : Int} (h : wordB n = true) : wrapW n = n := by
  rw [wordB_iff] at h; unfold wrapW; split <;> omega
theorem wrapW_mod (n : Int) : ∃ k, wrapW n = n + 4294967296 * k := by
  unfold wrapW
  split
  · exact ⟨-(n / 4294967296) - 1, by omega⟩
  · exact ⟨-(n / 4294967296), by omega⟩

set_option maxHeartbeats 400000 in
theorem l5Word_any (n : Int) (w : World) : Calls Tryz.prog 60 #[.int .i64 n] w fun e w' => e = .returned (.bool (wordB n)) ∧ w = w' := by
  go_enter Tryz.func60, Tryz.ntmps60
  go_wp2_with fail
  refine (in_any _ _ _ _).mono ?_
  rintro e w' ⟨rfl, rfl⟩
  go_wp2_with fail
  go_ret
  exact ⟨rfl, rfl⟩

set_option maxHeartbeats 400000 in
theorem iWordOk_any (n : Int) (w : World) : Calls Tryz.prog 109 #[.int .i64 n] w fun e w' => e = .returned (.bool (wordB n)) ∧ w = w' := by
  by_cases h0 : -2147483648 ≤ n <;> by_cases h1 : n ≤ 2147483647
  all_goals
    have hb : wordB n = decide (-2147483648 ≤ n ∧ n ≤ 2147483647) := rfl
    simp only [h0, h1] at hb
    have HB := Lib.hid hb
    clear hb
    go_enter Tryz.func109, Tryz.ntmps109
    go_wp2
    go_ret
    rw [HB.out]
    exact ⟨rfl, rfl⟩

set_option maxHeartbeats 400000 in
theorem l5Truth_any (b : Bool) (w : World) : Calls Tryz.prog 166 #[.bool b] w fun e w' => e = .returned (.int .i64 (truthI b)) ∧ w = w' := by
  cases b
  all_goals
    go_enter Tryz.func166, Tryz.ntmps166
    go_wp2
    go_ret
    exact ⟨rfl, rfl⟩

set_option maxHeartbeats 400000 in
theorem oneWhere_any (b : Bool) (w : World) : Calls Tryz.prog 180 #[.bool b] w fun e w' => e = .returned (.int .i64 (truthI b)) ∧ w = w' := by
  cases b
  all_goals
    go_enter Tryz.func180, Tryz.ntmps180
    go_wp2
    go_ret
    exact ⟨rfl, rfl⟩

theorem wrap_conv (n : Int) : wrap64 (wrap32 n) = wrapW n := by
  unfold wrap64 wrap32 wrapW
  split <;> omega

set_option maxHeartbeats 400000 in
theorem iWrap_any (n : Int) (w : World) : Calls Tryz.prog 179 #[.int .i64 n] w fun e w' => e = .returned (.int .i64 (wrapW n)) ∧ w = w' := by
  have H := Lib.hid (wrap_conv n)
  go_enter Tryz.func179, Tryz.ntmps179
  go_wp2
  go_ret
  exact ⟨ret_int H.out, rfl⟩

set_option maxHeartbeats 400000 in
theorem sWrap_any (n : Int) (w : World) : Calls Tryz.prog 165 #[.int .i64 n] w fun e w' => e = .returned (.int .i64 (wrapW n)) ∧ w = w' := by
  have H := Lib.hid (and_word n)
  have HW : Hid (wrapW n = if 2147483648 ≤ n % 4294967296 then n % 4294967296 - 4294967296 else n % 4294967296) := Lib.hid rfl
  go_enter Tryz.func165, Tryz.ntmps165
  go_wp2
  · rename_i h
    rw [H.out] at h ⊢
    go_ret
    refine ⟨ret_int ?_, rfl⟩
    rw [HW.out, if_pos (by omega)]
    unfold wrap64
    omega
  · rename_i h
    rw [H.out] at h ⊢
    go_ret
    refine ⟨ret_int ?_, rfl⟩
    rw [HW.out, if_neg (by omega)]

end Go.Proofs.YtigcbegeaikfcaaGreatDoor

namespace Go.Proofs.YtigcbegeaikfcaaGreatDoor
open Go.RowKit
set_option linter.unusedVariables false

def digB (b : UInt8) : Bool := decide (48 ≤ b.toNat ∧ b.toNat ≤ 57)
def dgv (n : Nat) (b : UInt8) : Nat := n * 10 + (b.toNat - 48)
/-- The number that digits tell. -/
def valN (l : List UInt8) : Nat := l.foldl dgv 0
theorem digB_iff {b : UInt8} : digB b = true ↔ 48 ≤ b.toNat ∧ b.toNat ≤ 57 := by simp [digB]
theorem valN_snoc (l : List UInt8) (b : UInt8) : valN (l ++ [b]) = valN l * 10 + (b.toNat - 48) := by simp [valN, List.foldl_append, dgv]
theorem valN_take {l : List UInt8} {k : Nat} {b : UInt8} (hb : l[k]? = some b) : valN (l.take (k + 1)) = valN (l.take k) * 10 + (b.toNat - 48) := by
  rw [List.take_add_one, hb]; exact valN_snoc _ _
theorem fold_ge (l : List UInt8) : ∀ a, a ≤ l.foldl dgv a := by
  induction l with
  | nil => intro a; exact Nat.le_refl _
  | cons b l ih => intro a; exact Nat.le_trans (by unfold dgv; omega) (ih (dgv a b))
theorem fold_lt (l : List UInt8) (hd : l.all digB = true) : ∀ a, l.foldl dgv a < (a + 1) * 10 ^ l.length := by
  induction l with
  | nil => intro a; simp
  | cons b l ih =>
    intro a
    rw [List.all_cons, Bool.and_eq_true] at hd
    have hb := digB_iff.1 hd.1
    have h := ih hd.2 (dgv a b)
    rw [List.foldl_cons, List.length_cons, Nat.pow_succ]
    refine Nat.lt_of_lt_of_le h ?_
    rw [Nat.mul_comm (10 ^ l.length) 10, ← Nat.mul_assoc]
    exact Nat.mul_le_mul_right _ (by unfold dgv; omega)
theorem valN_lt {l : List UInt8} (hd : l.all digB = true) (hl : l.length ≤ 10) : valN l < 10000000000 := by
  have h := fold_lt l hd 0
  have hp : 10 ^ l.length ≤ 10 ^ 10 := Nat.pow_le_pow_right (by decide) hl
  have e : (10 : Nat) ^ 10 = 10000000000 := by decide
  unfold valN
  omega
theorem byte_of {b : UInt8} (h : 48 ≤ b.toNat ∧ b.toNat ≤ 57) : UInt8.ofNat (48 + (b.toNat - 48)) = b := by
  rw [show 48 + (b.toNat - 48) = b.toNat by omega]
  exact UInt8.ofNat_toNat
theorem toNat_dig {x : Nat} (h : x < 10) : (UInt8.ofNat (48 + x)).toNat = 48 + x := by
  rw [UInt8.toNat_ofNat']
  omega
theorem dec_small {u : Nat} (h : u < 10) : Lib.decDigits u = [UInt8.ofNat (48 + u)] := by rw [Lib.decDigits, dif_pos h]
theorem dec_big {u : Nat} (h : ¬ u < 10) : Lib.decDigits u = Lib.decDigits (u / 10) ++ [UInt8.ofNat (48 + u % 10)] := by rw [Lib.decDigits, dif_neg h]

/-- What a number's numeral is like. -/
theorem dec_facts (u : Nat) : (Lib.decDigits u).all digB = true ∧ valN (Lib.decDigits u) = u ∧ (∃ b r, Lib.decDigits u = b :: r ∧ (1 ≤ u → ¬ b = 48) ∧ (u < 10 → r = [])) := by
  induction u using Nat.strongRecOn with
  | _ u ih =>
    by_cases h : u < 10
    · rw [dec_small h]
      have ht := toNat_dig h
      refine ⟨?_, ?_, _, _, rfl, fun h1 e => ?_, fun _ => rfl⟩
      · simp only [List.all_cons, List.all_nil, Bool.and_true]; rw [digB_iff, ht]; omega
      · rw [show [UInt8.ofNat (48 + u)] = [] ++ [UInt8.ofNat (48 + u)] from rfl, valN_snoc, ht]; simp [valN]
      · have := congrArg UInt8.toNat e
        rw [ht] at this
        have h48 : (48 : UInt8).toNat = 48 := rfl
        omega
    · rw [dec_big h]
      obtain ⟨i1, i2, b, r, i3, i4, _⟩ := ih (u / 10) (by omega)
      have ht := toNat_dig (x := u % 10) (by omega)
      refine ⟨?_, ?_, b, r ++ [UInt8.ofNat (48 + u % 10)], by rw [i3]; rfl, fun _ => i4 (by omega), fun h' => absurd h' h⟩
      · rw [List.all_append, i1]
        simp only [List.all_cons, List.all_nil, Bool.and_true, Bool.true_and]; rw [digB_iff, ht]; omega
      · rw [valN_snoc, i2, ht]; omega
theorem dec_len : ∀ (k u : Nat), 1 ≤ k → u < 10 ^ k → (Lib.decDigits u).length ≤ k := by
  intro k
  induction k with
  | zero => intro u h; omega
  | succ k ih =>
    intro u _ hu
    by_cases h : u < 10
    · rw [dec_small h]; simp
    · rw [dec_big h, List.length_append]
      have hk : 1 ≤ k := by
        rcases Nat.eq_zero_or_pos k with rfl | hp
        · simp at hu; omega
        · exact hp
      have := ih (u / 10) hk (by rw [Nat.pow_succ] at hu; omega)
      simp; omega
theorem valN_pos {b : UInt8} {r : List UInt8} (hb : digB b = true) (h : ¬ b = 48) : 1 ≤ valN (b :: r) := by
  have h1 := digB_iff.1 hb
  have h2 : b.toNat ≠ 48 := fun e => h (UInt8.toNat_inj.1 e)
  have := fold_ge r (dgv 0 b)
  have e : valN (b :: r) = r.foldl dgv (dgv 0 b) := rfl
  rw [e]
  have e2 : dgv 0 b = 0 * 10 + (b.toNat - 48) := rfl
  omega
/-- Digits without a nought ahead are the numeral of what they tell. -/
theorem dec_back (d : List UInt8) : ∀ (n : Nat), d.length = n → 1 ≤ n → d.all digB = true → ¬ (d.head? = some 48 ∧ 1 < d.length) → Lib.decDigits (valN d) = d := by
  intro n
  induction n generalizing d with
  | zero => intro _ h; omega
  | succ n ih =>
    intro hn _ hd hz
    rcases List.eq_nil_or_concat d with rfl | ⟨d', c, rfl⟩
    · simp at hn
    rw [List.concat_eq_append] at *
    rw [List.all_append, Bool.and_eq_true] at hd
    have hc : digB c = true := by have := hd.2; simpa using this
    have hc' := digB_iff.1 hc
    rw [valN_snoc]
    cases d' with
    | nil =>
      have e : valN [] = 0 := rfl
      rw [e, dec_small (by omega)]
      simp only [List.nil_append, List.cons.injEq, and_true]
      have := byte_of hc'
      rwa [show 48 + (0 * 10 + (c.toNat - 48)) = 48 + (c.toNat - 48) by omega]
    | cons b r =>
      have hb : ¬ b = 48 := fun e => hz ⟨by simp [e], by simp⟩
      have hbd : digB b = true := by have := hd.1; rw [List.all_cons, Bool.and_eq_true] at this; exact this.1
      have hp := valN_pos (r := r) hbd hb
      have hi := ih (b :: r) (by simp at hn ⊢; omega) (by simp at hn; omega) hd.1 (fun q => hb (by simpa using q.1))
      rw [dec_big (by omega)]
      rw [show (valN (b :: r) * 10 + (c.toNat - 48)) / 10 = valN (b :: r) by omega, hi, show (valN (b :: r) * 10 + (c.toNat - 48)) % 10 = c.toNat - 48 by omega, byte_of hc']

def sgn (neg : Bool) (n : Nat) : Int := if neg then -(n : Int) else n
/-- What digits behind a sign (or none) tell by the model's rule. -/
def rdD (neg : Bool) (d : List UInt8) : Option Int :=
  if 1 ≤ d.length ∧ d.length ≤ 10 ∧ d.all digB = true ∧ ¬ (d.head? = some 48 ∧ (neg = true ∨ 1 < d.length)) ∧ wordB (sgn neg (valN d)) = true then some (sgn neg (valN d)) else none
def rdS : List UInt8 → Option Int
  | [] => none
  | c :: r => if c = 45 then rdD true r else rdD false (c :: r)

theorem rdS_neg (r : List UInt8) : rdS (45 :: r) = rdD true r := by simp only [rdS, if_true]
theorem rdS_pos {c : UInt8} (h : ¬ c = 45) (r : List UInt8) : rdS (c :: r) = rdD false (c :: r) := by simp only [rdS, h, if_false]
theorem rdD_some {neg : Bool} {d : List UInt8} {v : Int} (h : rdD neg d = some v) :
    1 ≤ d.length ∧ d.all digB = true ∧ ¬ (d.head? = some 48 ∧ (neg = true ∨ 1 < d.length)) ∧ wordB v = true ∧ v = sgn neg (valN d) := by
  unfold rdD at h
  split at h
  · rename_i q
    injection h with h
    subst h
    exact ⟨q.1, q.2.2.1, q.2.2.2.1, q.2.2.2.2, rfl⟩
  · cases h
theorem rdD_mk {neg : Bool} {u : Nat} (hw : wordB (sgn neg u) = true) (h : neg = true → 1 ≤ u) : rdD neg (Lib.decDigits u) = some (sgn neg u) := by
  obtain ⟨h1, h2, b, r, h3, h4, h5⟩ := dec_facts u
  have hu : u ≤ 2147483648 := by
    rw [wordB_iff] at hw
    cases neg <;> simp [sgn] at hw <;> omega
  have hl := dec_len 10 u (by omega) (by have e : (10 : Nat) ^ 10 = 10000000000 := by decide
                                         omega)
  unfold rdD
  rw [h2, if_pos]
  refine ⟨by rw [h3]; simp, hl, h1, ?_, hw⟩
  rintro ⟨q1, q2⟩
  rw [h3] at q1 q2
  have hb : b = 48 := by simpa using q1
  by_cases hu1 : 1 ≤ u
  · exact h4 hu1 hb
  · rcases q2 with q2 | q2
    · exact hu1 (h q2)
    · rw [h5 (by omega)] at q2; simp at q2

theorem rdS_some {l : List UInt8} {v : Int} (h : rdS l = some v) : wordB v = true ∧ Lib.itoa v = l := by
  cases l with
  | nil => cases h
  | cons c r =>
    by_cases hc : c = 45
    · subst hc
      rw [rdS_neg] at h
      obtain ⟨h1, h2, h3, h4, rfl⟩ := rdD_some h
      refine ⟨h4, ?_⟩
      have hb := dec_back r r.length rfl h1 h2 (fun q => h3 ⟨q.1, .inl rfl⟩)
      have hp : 1 ≤ valN r := by
        cases r with
        | nil => simp at h1
        | cons b r =>
          rw [List.all_cons, Bool.and_eq_true] at h2
          exact valN_pos h2.1 (fun e => h3 ⟨by simp [e], .inl rfl⟩)
      show Lib.itoa (-(valN r : Int)) = _
      rw [Lib.itoa_neg _ hp, hb]
    · rw [rdS_pos hc] at h
      obtain ⟨h1, h2, h3, h4, rfl⟩ := rdD_some h
      refine ⟨h4, ?_⟩
      show Lib.itoa (valN (c :: r) : Int) = _
      rw [Lib.itoa_nonneg]
      exact dec_back (c :: r) _ rfl h1 h2 (fun q => h3 ⟨q.1, .inr q.2⟩)
theorem rdS_itoa {v : Int} (h : wordB v = true) : rdS (Lib.itoa v) = some v := by
  by_cases hv : v < 0
  · obtain ⟨u, rfl⟩ : ∃ u : Nat, v = -(u : Int) := ⟨v.natAbs, by omega⟩
    rw [Lib.itoa_neg u (by omega), rdS_neg]
    exact rdD_mk (neg := true) h (fun _ => by omega)
  · obtain ⟨u, rfl⟩ : ∃ u : Nat, v = (u : Int) := ⟨v.toNat, by omega⟩
    rw [Lib.itoa_nonneg]
    obtain ⟨h1, h2, b, r, h3, h4, h5⟩ := dec_facts u
    have hr := rdD_mk (neg := false) (u := u) h (fun e => by cases e)
    rw [h3] at hr h1 ⊢
    rw [rdS_pos]
    · exact hr
    · rintro rfl
      rw [List.all_cons, Bool.and_eq_true] at h1
      exact absurd h1.1 (by decide)

theorem parseM_ok (M : Nat) (hM : M < 1844674407370955162) (l : List UInt8) (hd : l.all digB = true) : ∀ a, l.foldl dgv a ≤ M → Lib.parseUintM M a l = .ok (l.foldl dgv a) := by
  induction l with
  | nil => intro a _; rfl
  | cons b l ih =>
    intro a h
    rw [List.all_cons, Bool.and_eq_true] at hd
    have hb := digB_iff.1 hd.1
    have hg := fold_ge l (dgv a b)
    rw [List.foldl_cons] at h ⊢
    have e : dgv a b = a * 10 + (b.toNat - 48) := rfl
    rw [Lib.parseUintM, if_pos hb, if_neg (by omega), if_neg (by omega), ← e]
    exact ih hd.2 _ h
theorem parseB_dec {u : Nat} (h : u ≤ 4294967295) : Lib.parseUintB 32 (Lib.decDigits u) = .ok u := by
  obtain ⟨h1, h2, b, r, h3, _⟩ := dec_facts u
  have e : 2 ^ 32 - 1 = 4294967295 := by decide
  unfold Lib.parseUintB
  rw [if_neg (by rw [h3]; simp), e]
  have h2' : (Lib.decDigits u).foldl dgv 0 = u := h2
  have := parseM_ok 4294967295 (by omega) _ h1 0 (by rw [h2']; exact h)
  rwa [h2'] at this
theorem parse_itoa {v : Int} (h : wordB v = true) : Lib.parseIntB 32 (Lib.itoa v) = .ok v := by
  have hw := wordB_iff.1 h
  have e : 2 ^ (32 - 1) = 2147483648 := by decide
  by_cases hv : v < 0
  · obtain ⟨u, rfl⟩ : ∃ u : Nat, v = -(u : Int) := ⟨v.natAbs, by omega⟩
    rw [Lib.itoa_neg u (by omega), Lib.parseIntB_minus, parseB_dec (by omega), e]
    show (if 2147483648 < u then _ else _) = _
    rw [if_neg (by omega)]
  · obtain ⟨u, rfl⟩ : ∃ u : Nat, v = (u : Int) := ⟨v.toNat, by omega⟩
    obtain ⟨h1, h2, b, r, h3, _⟩ := dec_facts u
    rw [Lib.itoa_nonneg]
    have hp := parseB_dec (u := u) (by omega)
    rw [h3] at h1 hp ⊢
    rw [List.all_cons, Bool.and_eq_true] at h1
    have hb := digB_iff.1 h1.1
    rw [Lib.parseIntB_plain _ _ _ (by omega) (by omega), hp, e]
    show (if 2147483648 ≤ u then _ else _) = _
    rw [if_neg (by omega)]
theorem parse_word {l : List UInt8} {v : Int} (h : Lib.parseIntB 32 l = .ok v) : wordB v = true := by
  have := Lib.parseIntB_bounds h
  have e : 2 ^ (32 - 1) = 2147483648 := by decide
  rw [e] at this
  rw [wordB_iff]
  omega
/-- Where the library's parse says yes: the model's rule says the same where the numeral is the text, else none. -/
theorem rd_ok_same {l : List UInt8} {v : Int} (h : Lib.parseIntB 32 l = .ok v) (he : Lib.itoa v = l) : rdS l = some v := by
  rw [← he]; exact rdS_itoa (parse_word h)
theorem rd_ok_other {l : List UInt8} {v : Int} (h : Lib.parseIntB 32 l = .ok v) (he : ¬ Lib.itoa v = l) : rdS l = none := by
  cases hr : rdS l with
  | none => rfl
  | some x =>
    obtain ⟨h1, h2⟩ := rdS_some hr
    have := parse_itoa h1
    rw [h2, h] at this
    injection this with this
    subst this
    exact absurd h2 he
theorem rd_no {l : List UInt8} (h : ∀ v, ¬ Lib.parseIntB 32 l = .ok v) : rdS l = none := by
  cases hr : rdS l with
  | none => rfl
  | some x =>
    obtain ⟨h1, h2⟩ := rdS_some hr
    have := parse_itoa h1
    rw [h2] at this
    exact absurd this (h x)

end Go.Proofs.YtigcbegeaikfcaaGreatDoor

namespace Go.Proofs.YtigcbegeaikfcaaGreatDoor
open Go.RowKit
set_option linter.unusedVariables false

theorem wrapW_64 (n : Int) : wrapW (wrap64 n) = wrapW n := by
  have h : wrap64 n % 4294967296 = n % 4294967296 := by unfold wrap64; omega
  unfold wrapW
  rw [h]

/-- What an op makes of two words. -/
def didV (o a b : Int) : Int × Bool :=
  if o = 1 then (wrapW (a + b), true) else if o = 2 then (wrapW (a - b), true) else if o = 3 then (wrapW (a * b), true)
  else if o = 4 then (if b = 0 then (0, false) else (wrapW (a.tdiv b), true))
  else if o = 5 then (truthI (decide (a < b)), true) else if o = 6 then (truthI (decide (a = b)), true) else (0, false)
def didS (o a b : Int) : Int × Bool := if wordB a = true ∧ wordB b = true then didV o a b else (0, false)
def DidOut (r : Int × Bool) (w : World) (e : Ending) (w' : World) : Prop := e = .returned (.tuple #[.int .i64 r.1, .bool r.2]) ∧ w = w'
theorem did_ret {x y : Int} {b c : Bool} (h : x = y) (hb : b = c) : Ending.returned (.tuple #[.int .i64 x, .bool b]) = .returned (.tuple #[.int .i64 y, .bool c]) := by rw [h, hb]

theorem did_no {o a b : Int} (h : ¬ (wordB a = true ∧ wordB b = true)) : didS o a b = (0, false) := by unfold didS; rw [if_neg h]
theorem did_yes {o a b : Int} (ha : wordB a = true) (hb : wordB b = true) : didS o a b = didV o a b := by unfold didS; rw [if_pos ⟨ha, hb⟩]

set_option maxHeartbeats 400000 in
theorem sDid_no (o a b : Int) (h : ¬ (wordB a = true ∧ wordB b = true)) (w : World) : Calls Tryz.prog 146 #[.int .i64 o, .int .i64 a, .int .i64 b] w (DidOut (0, false) w) := by
  cases ha : wordB a
  · have HA := Lib.hid ha
    clear ha h
    go_enter Tryz.func146, Tryz.ntmps146
    go_wp2_with fail
    refine (l5Word_any _ _).mono ?_
    rintro e w' ⟨rfl, rfl⟩
    rw [HA.out]
    go_wp2_with fail
    go_ret2
    exact ⟨rfl, rfl⟩
  · have hb : wordB b = false := by
      cases hb : wordB b
      · rfl
      · exact absurd ⟨ha, hb⟩ h
    have HA := Lib.hid ha
    have HB := Lib.hid hb
    clear ha hb h
    go_enter Tryz.func146, Tryz.ntmps146
    go_wp2_with fail
    refine (l5Word_any _ _).mono ?_
    rintro e w' ⟨rfl, rfl⟩
    rw [HA.out]
    go_wp2_with fail
    refine (l5Word_any _ _).mono ?_
    rintro e w' ⟨rfl, rfl⟩
    rw [HB.out]
    go_wp2_with fail
    go_ret2
    exact ⟨rfl, rfl⟩

set_option maxHeartbeats 400000 in
theorem iDid_no (o a b : Int) (h : ¬ (wordB a = true ∧ wordB b = true)) (w : World) : Calls Tryz.prog 162 #[.int .i64 o, .int .i64 a, .int .i64 b] w (DidOut (0, false) w) := by
  cases ha : wordB a
  · have HA := Lib.hid ha
    clear ha h
    go_enter Tryz.func162, Tryz.ntmps162
    go_wp2_with fail
    refine (iWordOk_any _ _).mono ?_
    rintro e w' ⟨rfl, rfl⟩
    rw [HA.out]
    go_wp2_with fail
    go_ret2
    exact ⟨rfl, rfl⟩
  · have hb : wordB b = false := by
      cases hb : wordB b
      · rfl
      · exact absurd ⟨ha, hb⟩ h
    have HA := Lib.hid ha
    have HB := Lib.hid hb
    clear ha hb h
    go_enter Tryz.func162, Tryz.ntmps162
    go_wp2_with fail
    refine (iWordOk_any _ _).mono ?_
    rintro e w' ⟨rfl, rfl⟩
    rw [HA.out]
    go_wp2_with fail
    refine (iWordOk_any _ _).mono ?_
    rintro e w' ⟨rfl, rfl⟩
    rw [HB.out]
    go_wp2_with fail
    go_ret2
    exact ⟨rfl, rfl⟩

theorem didV_1 (a b : Int) : didV 1 a b = (wrapW (a + b), true) := rfl
theorem didV_2 (a b : Int) : didV 2 a b = (wrapW (a - b), true) := rfl
theorem didV_3 (a b : Int) : didV 3 a b = (wrapW (a * b), true) := rfl
theorem didV_40 (a : Int) : didV 4 a 0 = (0, false) := rfl
theorem didV_4 (a b : Int) (h : ¬ b = 0) : didV 4 a b = (wrapW (a.tdiv b), true) := by show (if b = 0 then _ else _) = _; rw [if_neg h]
theorem didV_5 (a b : Int) : didV 5 a b = (truthI (decide (a < b)), true) := rfl
theorem didV_6 (a b : Int) : didV 6 a b = (truthI (decide (a = b)), true) := rfl
theorem didV_n {o : Int} (a b : Int) (h1 : ¬ o = 1) (h2 : ¬ o = 2) (h3 : ¬ o = 3) (h4 : ¬ o = 4) (h5 : ¬ o = 5) (h6 : ¬ o = 6) : didV o a b = (0, false) := by
  unfold didV; rw [if_neg h1, if_neg h2, if_neg h3, if_neg h4, if_neg h5, if_neg h6]

set_option maxHeartbeats 1000000 in
theorem sDid_yes (o a b : Int) (ha : wordB a = true) (hb : wordB b = true) (w : World) : Calls Tryz.prog 146 #[.int .i64 o, .int .i64 a, .int .i64 b] w (DidOut (didV o a b) w) := by
  have HA := Lib.hid ha
  have HB := Lib.hid hb
  obtain ⟨a0, a1⟩ := wordB_iff.1 ha
  obtain ⟨b0, b1⟩ := wordB_iff.1 hb
  clear ha hb
  by_cases o1 : o = 1
  · subst o1
    rw [didV_1]
    go_enter Tryz.func146, Tryz.ntmps146
    go_wp2_with fail
    refine (l5Word_any _ _).mono ?_
    rintro e w' ⟨rfl, rfl⟩
    rw [HA.out]
    go_wp2_with fail
    refine (l5Word_any _ _).mono ?_
    rintro e w' ⟨rfl, rfl⟩
    rw [HB.out]
    go_wp2_with fail
    refine (sWrap_any _ _).mono ?_
    rintro e w' ⟨rfl, rfl⟩
    go_wp2_with fail
    go_ret2
    exact ⟨did_ret rfl rfl, rfl⟩
  by_cases o2 : o = 2
  · subst o2
    have HS := Lib.hid (show wrapW (a + -b) = wrapW (a - b) from by rw [Int.sub_eq_add_neg])
    rw [didV_2]
    clear o1
    go_enter Tryz.func146, Tryz.ntmps146
    go_wp2_with fail
    refine (l5Word_any _ _).mono ?_
    rintro e w' ⟨rfl, rfl⟩
    rw [HA.out]
    go_wp2_with fail
    refine (l5Word_any _ _).mono ?_
    rintro e w' ⟨rfl, rfl⟩
    rw [HB.out]
    go_wp2_with fail
    refine (sWrap_any _ _).mono ?_
    rintro e w' ⟨rfl, rfl⟩
    go_wp2_with fail
    go_ret2
    exact ⟨did_ret (by first | rfl | exact HS.out) rfl, rfl⟩
  by_cases o3 : o = 3
  · subst o3
    rw [didV_3]
    clear o1 o2
    go_enter Tryz.func146, Tryz.ntmps146
    go_wp2_with fail
    refine (l5Word_any _ _).mono ?_
    rintro e w' ⟨rfl, rfl⟩
    rw [HA.out]
    go_wp2_with fail
    refine (l5Word_any _ _).mono ?_
    rintro e w' ⟨rfl, rfl⟩
    rw [HB.out]
    go_wp2_with fail
    refine (sWrap_any _ _).mono ?_
    rintro e w' ⟨rfl, rfl⟩
    go_wp2_with fail
    go_ret2
    exact ⟨did_ret (wrapW_64 _) rfl, rfl⟩
  by_cases o4 : o = 4
  · subst o4
    clear o1 o2 o3
    by_cases hz : b = 0
    · subst hz
      rw [didV_40]
      go_enter Tryz.func146, Tryz.ntmps146
      go_wp2_with fail
      refine (l5Word_any _ _).mono ?_
      rintro e w' ⟨rfl, rfl⟩
      rw [HA.out]
      go_wp2_with fail
      refine (l5Word_any _ _).mono ?_
      rintro e w' ⟨rfl, rfl⟩
      rw [HB.out]
      go_wp2_with fail
      go_ret2
      exact ⟨did_ret rfl rfl, rfl⟩
    · rw [didV_4 a b hz]
      have hz' : (b == 0) = false := by simpa using hz
      go_enter Tryz.func146, Tryz.ntmps146
      go_wp2_with fail
      refine (l5Word_any _ _).mono ?_
      rintro e w' ⟨rfl, rfl⟩
      rw [HA.out]
      go_wp2_with fail
      refine (l5Word_any _ _).mono ?_
      rintro e w' ⟨rfl, rfl⟩
      rw [HB.out]
      go_wp2_with fail
      refine (sWrap_any _ _).mono ?_
      rintro e w' ⟨rfl, rfl⟩
      go_wp2_with fail
      go_ret2
      exact ⟨did_ret (wrapW_64 _) rfl, rfl⟩
  by_cases o5 : o = 5
  · subst o5
    rw [didV_5]
    clear o1 o2 o3 o4
    go_enter Tryz.func146, Tryz.ntmps146
    go_wp2_with fail
    refine (l5Word_any _ _).mono ?_
    rintro e w' ⟨rfl, rfl⟩
    rw [HA.out]
    go_wp2_with fail
    refine (l5Word_any _ _).mono ?_
    rintro e w' ⟨rfl, rfl⟩
    rw [HB.out]
    go_wp2_with fail
    refine (l5Truth_any _ _).mono ?_
    rintro e w' ⟨rfl, rfl⟩
    go_wp2_with fail
    go_ret2
    exact ⟨did_ret rfl rfl, rfl⟩
  by_cases o6 : o = 6
  · subst o6
    have HS := Lib.hid (show truthI (a == b) = truthI (decide (a = b)) from rfl)
    rw [didV_6]
    clear o1 o2 o3 o4 o5
    go_enter Tryz.func146, Tryz.ntmps146
    go_wp2_with fail
    refine (l5Word_any _ _).mono ?_
    rintro e w' ⟨rfl, rfl⟩
    rw [HA.out]
    go_wp2_with fail
    refine (l5Word_any _ _).mono ?_
    rintro e w' ⟨rfl, rfl⟩
    rw [HB.out]
    go_wp2_with fail
    refine (l5Truth_any _ _).mono ?_
    rintro e w' ⟨rfl, rfl⟩
    go_wp2_with fail
    go_ret2
    exact ⟨did_ret HS.out rfl, rfl⟩
  rw [didV_n a b o1 o2 o3 o4 o5 o6]
  have e1 : (o == 1) = false := by simpa using o1
  have e2 : (o == 2) = false := by simpa using o2
  have e3 : (o == 3) = false := by simpa using o3
  have e4 : (o == 4) = false := by simpa using o4
  have e5 : (o == 5) = false := by simpa using o5
  have e6 : (o == 6) = false := by simpa using o6
  clear o1 o2 o3 o4 o5 o6
  go_enter Tryz.func146, Tryz.ntmps146
  go_wp2_with fail
  refine (l5Word_any _ _).mono ?_
  rintro e w' ⟨rfl, rfl⟩
  rw [HA.out]
  go_wp2_with fail
  refine (l5Word_any _ _).mono ?_
  rintro e w' ⟨rfl, rfl⟩
  rw [HB.out]
  go_wp2_with fail
  go_ret2
  exact ⟨did_ret rfl rfl, rfl⟩

theorem sDid_any (o a b : Int) (w : World) : Calls Tryz.prog 146 #[.int .i64 o, .int .i64 a, .int .i64 b] w (DidOut (didS o a b) w) := by
  by_cases h : wordB a = true ∧ wordB b = true
  · rw [did_yes h.1 h.2]; exact sDid_yes o a b h.1 h.2 w
  · rw [did_no h]; exact sDid_no o a b h w

set_option maxHeartbeats 1000000 in
theorem iDid_yes (o a b : Int) (ha : wordB a = true) (hb : wordB b = true) (w : World) : Calls Tryz.prog 162 #[.int .i64 o, .int .i64 a, .int .i64 b] w (DidOut (didV o a b) w) := by
  have HA := Lib.hid ha
  have HB := Lib.hid hb
  obtain ⟨a0, a1⟩ := wordB_iff.1 ha
  obtain ⟨b0, b1⟩ := wordB_iff.1 hb
  clear ha hb
  by_cases o1 : o = 1
  · subst o1
    rw [didV_1]
    go_enter Tryz.func162, Tryz.ntmps162
    go_wp2_with fail
    refine (iWordOk_any _ _).mono ?_
    rintro e w' ⟨rfl, rfl⟩
    rw [HA.out]
    go_wp2_with fail
    refine (iWordOk_any _ _).mono ?_
    rintro e w' ⟨rfl, rfl⟩
    rw [HB.out]
    go_wp2_with fail
    refine (iWrap_any _ _).mono ?_
    rintro e w' ⟨rfl, rfl⟩
    go_wp2_with fail
    go_ret2
    exact ⟨did_ret rfl rfl, rfl⟩
  by_cases o2 : o = 2
  · subst o2
    have HS := Lib.hid (show wrapW (a + -b) = wrapW (a - b) from by rw [Int.sub_eq_add_neg])
    rw [didV_2]
    clear o1
    go_enter Tryz.func162, Tryz.ntmps162
    go_wp2_with fail
    refine (iWordOk_any _ _).mono ?_
    rintro e w' ⟨rfl, rfl⟩
    rw [HA.out]
    go_wp2_with fail
    refine (iWordOk_any _ _).mono ?_
    rintro e w' ⟨rfl, rfl⟩
    rw [HB.out]
    go_wp2_with fail
    refine (iWrap_any _ _).mono ?_
    rintro e w' ⟨rfl, rfl⟩
    go_wp2_with fail
    go_ret2
    exact ⟨did_ret (by first | rfl | exact HS.out) rfl, rfl⟩
  by_cases o3 : o = 3
  · subst o3
    rw [didV_3]
    clear o1 o2
    go_enter Tryz.func162, Tryz.ntmps162
    go_wp2_with fail
    refine (iWordOk_any _ _).mono ?_
    rintro e w' ⟨rfl, rfl⟩
    rw [HA.out]
    go_wp2_with fail
    refine (iWordOk_any _ _).mono ?_
    rintro e w' ⟨rfl, rfl⟩
    rw [HB.out]
    go_wp2_with fail
    refine (iWrap_any _ _).mono ?_
    rintro e w' ⟨rfl, rfl⟩
    go_wp2_with fail
    go_ret2
    exact ⟨did_ret (wrapW_64 _) rfl, rfl⟩
  by_cases o4 : o = 4
  · subst o4
    clear o1 o2 o3
    by_cases hz : b = 0
    · subst hz
      rw [didV_40]
      go_enter Tryz.func162, Tryz.ntmps162
      go_wp2_with fail
      refine (iWordOk_any _ _).mono ?_
      rintro e w' ⟨rfl, rfl⟩
      rw [HA.out]
      go_wp2_with fail
      refine (iWordOk_any _ _).mono ?_
      rintro e w' ⟨rfl, rfl⟩
      rw [HB.out]
      go_wp2_with fail
      go_ret2
      exact ⟨did_ret rfl rfl, rfl⟩
    · rw [didV_4 a b hz]
      have hz' : (b == 0) = false := by simpa using hz
      go_enter Tryz.func162, Tryz.ntmps162
      go_wp2_with fail
      refine (iWordOk_any _ _).mono ?_
      rintro e w' ⟨rfl, rfl⟩
      rw [HA.out]
      go_wp2_with fail
      refine (iWordOk_any _ _).mono ?_
      rintro e w' ⟨rfl, rfl⟩
      rw [HB.out]
      go_wp2_with fail
      refine (iWrap_any _ _).mono ?_
      rintro e w' ⟨rfl, rfl⟩
      go_wp2_with fail
      go_ret2
      exact ⟨did_ret (wrapW_64 _) rfl, rfl⟩
  by_cases o5 : o = 5
  · subst o5
    rw [didV_5]
    clear o1 o2 o3 o4
    go_enter Tryz.func162, Tryz.ntmps162
    go_wp2_with fail
    refine (iWordOk_any _ _).mono ?_
    rintro e w' ⟨rfl, rfl⟩
    rw [HA.out]
    go_wp2_with fail
    refine (iWordOk_any _ _).mono ?_
    rintro e w' ⟨rfl, rfl⟩
    rw [HB.out]
    go_wp2_with fail
    refine (oneWhere_any _ _).mono ?_
    rintro e w' ⟨rfl, rfl⟩
    go_wp2_with fail
    go_ret2
    exact ⟨did_ret rfl rfl, rfl⟩
  by_cases o6 : o = 6
  · subst o6
    have HS := Lib.hid (show truthI (a == b) = truthI (decide (a = b)) from rfl)
    rw [didV_6]
    clear o1 o2 o3 o4 o5
    go_enter Tryz.func162, Tryz.ntmps162
    go_wp2_with fail
    refine (iWordOk_any _ _).mono ?_
    rintro e w' ⟨rfl, rfl⟩
    rw [HA.out]
    go_wp2_with fail
    refine (iWordOk_any _ _).mono ?_
    rintro e w' ⟨rfl, rfl⟩
    rw [HB.out]
    go_wp2_with fail
    refine (oneWhere_any _ _).mono ?_
    rintro e w' ⟨rfl, rfl⟩
    go_wp2_with fail
    go_ret2
    exact ⟨did_ret HS.out rfl, rfl⟩
  rw [didV_n a b o1 o2 o3 o4 o5 o6]
  have e1 : (o == 1) = false := by simpa using o1
  have e2 : (o == 2) = false := by simpa using o2
  have e3 : (o == 3) = false := by simpa using o3
  have e4 : (o == 4) = false := by simpa using o4
  have e5 : (o == 5) = false := by simpa using o5
  have e6 : (o == 6) = false := by simpa using o6
  clear o1 o2 o3 o4 o5 o6
  go_enter Tryz.func162, Tryz.ntmps162
  go_wp2_with fail
  refine (iWordOk_any _ _).mono ?_
  rintro e w' ⟨rfl, rfl⟩
  rw [HA.out]
  go_wp2_with fail
  refine (iWordOk_any _ _).mono ?_
  rintro e w' ⟨rfl, rfl⟩
  rw [HB.out]
  go_wp2_with fail
  go_ret2
  exact ⟨did_ret rfl rfl, rfl⟩

theorem iDid_any (o a b : Int) (w : World) : Calls Tryz.prog 162 #[.int .i64 o, .int .i64 a, .int .i64 b] w (DidOut (didS o a b) w) := by
  by_cases h : wordB a = true ∧ wordB b = true
  · rw [did_yes h.1 h.2]; exact iDid_yes o a b h.1 h.2 w
  · rw [did_no h]; exact iDid_no o a b h w

end Go.Proofs.YtigcbegeaikfcaaGreatDoor

namespace Go.Proofs.YtigcbegeaikfcaaGreatDoor
open Go.RowKit
set_option linter.unusedVariables false

/-- The value v is a slice of int64 of the call's own (blocks from B on), which holds zs. -/
def OwnI (w : World) (B : Nat) (e : TypeId) (v : Value) (zs : List Int) : Prop := w.ownsRow B e 1 v zs.length (zs.map (Value.int .i64))

theorem OwnI.nil (w : World) (B : Nat) (e : TypeId) : OwnI w B e (.slice none 0 0) [] := World.ownsRow_nil _ _ _ _
theorem OwnI.empty (w : World) (B : Nat) (e : TypeId) (hB : B ≤ w.heap.size) : OwnI (w.alloc (.cells #[] e)) B e (.slice (some ⟨w.heap.size, 0, none⟩) 0 0) [] :=
  World.ownsRow_made w #[] 0 hB (Nat.zero_le _) rfl
theorem OwnI.alloc {w : World} {B : Nat} {e : TypeId} {v : Value} {zs : List Int} (h : OwnI w B e v zs) (o : Obj) : OwnI (w.alloc o) B e v zs := World.ownsRow.alloc h o

/-- Behind 'append(v, x)', x an integer that lies in a new block o. -/
theorem own_push {w wr w1 : World} {B : Nat} {e : TypeId} {v v' : Value} {zs : List Int} {z : Int} {o : Obj} (hb : Below B w wr) (hB : B ≤ w.heap.size) (h : OwnI wr B e v zs)
    (h1 : w1.ownsRow B e 1 v' (zs.length + 1) (zs.map (Value.int .i64) ++ [.int .i64 z])) (hg : (wr.alloc o).grownBy w1 v.ownBlock) : OwnI w1 B e v' (zs ++ [z]) ∧ Below B w w1 := by
  have hs : B ≤ wr.heap.size := Nat.le_trans hB hb.size
  refine ⟨?_, (hb.alloc hs o).grown hg (by simp; omega) (fun j hj => (World.ownsRow.lt h j hj).1)⟩
  unfold OwnI
  simpa using h1

/-- Of the numbers 0 .. k-1 those of which p holds. -/
def sel (p : Int → Bool) : Nat → List Int
  | 0 => []
  | k + 1 => if p k then sel p k ++ [(k : Int)] else sel p k
theorem sel_yes {p : Int → Bool} {k : Nat} (h : p k = true) : sel p (k + 1) = sel p k ++ [(k : Int)] := by simp [sel, h]
theorem sel_no {p : Int → Bool} {k : Nat} (h : p k = false) : sel p (k + 1) = sel p k := by simp [sel, h]
theorem sel_le (p : Int → Bool) (k : Nat) : (sel p k).length ≤ k := by
  induction k with
  | zero => simp [sel]
  | succ k ih =>
    unfold sel
    split
    · simp; omega
    · omega
theorem sel_congr {p q : Int → Bool} (k : Nat) (h : ∀ j : Nat, j < k → p j = q j) : sel p k = sel q k := by
  induction k with
  | zero => rfl
  | succ k ih => unfold sel; rw [h k (by omega), ih fun j hj => h j (by omega)]
theorem mem_sel {p : Int → Bool} {k : Nat} {x : Int} : x ∈ sel p k ↔ ∃ j : Nat, j < k ∧ x = j ∧ p j = true := by
  induction k with
  | zero => simp [sel]
  | succ k ih =>
    cases hp : p k
    · rw [sel_no hp, ih]
      constructor
      · rintro ⟨j, h1, h2, h3⟩; exact ⟨j, by omega, h2, h3⟩
      · rintro ⟨j, h1, h2, h3⟩
        refine ⟨j, ?_, h2, h3⟩
        rcases Nat.lt_or_ge j k with h | h
        · exact h
        · obtain rfl : j = k := by omega
          rw [hp] at h3; cases h3
    · rw [sel_yes hp, List.mem_append, ih, List.mem_singleton]
      constructor
      · rintro (⟨j, h1, h2, h3⟩ | rfl)
        · exact ⟨j, by omega, h2, h3⟩
        · exact ⟨k, by omega, rfl, hp⟩
      · rintro ⟨j, h1, h2, h3⟩
        rcases Nat.lt_or_ge j k with h | h
        · exact .inl ⟨j, h, h2, h3⟩
        · obtain rfl : j = k := by omega
          exact .inr h2

/-- The value v is a slice (nil, empty or not) that reads as the integers zs; its cells lie below block B. -/
def SeeI (w : World) (B : Nat) (v : Value) (zs : List Int) : Prop :=
  zs.length ≤ maxLen ∧ ∃ A c, v = .slice A zs.length c ∧ ∀ k, k < zs.length → ∃ g o, A = some ⟨g, o, none⟩ ∧ g < B ∧ w.cell? ⟨g, o + k, none⟩ = some (.int .i64 (zs.getD k 0))

theorem SeeI.keep {w w' : World} {B : Nat} {v : Value} {zs : List Int} (h : SeeI w B v zs) (hk : ∀ p : Addr, p.block < B → w'.cell? p = w.cell? p) : SeeI w' B v zs := by
  obtain ⟨h0, A, c, rfl, h1⟩ := h
  refine ⟨h0, A, c, rfl, fun k hk' => ?_⟩
  obtain ⟨g, o, rfl, hg, hc⟩ := h1 k hk'
  exact ⟨g, o, rfl, hg, (hk _ hg).trans hc⟩
theorem SeeI.below {w w' : World} {B : Nat} {v : Value} {zs : List Int} (h : SeeI w B v zs) (hb : Below B w w') : SeeI w' B v zs := h.keep fun _ hp => hb.cell hp
theorem SeeI.drewN {w : World} {B : Nat} {v : Value} {zs : List Int} (h : SeeI w B v zs) (n : Nat) : SeeI (w.drewN n) B v zs := h
theorem SeeI.more {w : World} {B B' : Nat} {v : Value} {zs : List Int} (h : SeeI w B v zs) (hB : B ≤ B') : SeeI w B' v zs := by
  obtain ⟨h0, A, c, rfl, h1⟩ := h
  refine ⟨h0, A, c, rfl, fun k hk' => ?_⟩
  obtain ⟨g, o, rfl, hg, hc⟩ := h1 k hk'
  exact ⟨g, o, rfl, by omega, hc⟩
theorem OwnI.see {w : World} {B : Nat} {e : TypeId} {v : Value} {zs : List Int} (h : OwnI w B e v zs) : SeeI w w.heap.size v zs := by
  obtain ⟨hl, h⟩ := h
  rcases h with ⟨rfl, hn⟩ | ⟨g, cap, cur, rfl, hb, hg, hnc, hcm, hcs, ht⟩
  · refine ⟨by omega, none, 0, by rw [hn], fun k hk => by omega⟩
  · refine ⟨by omega, some ⟨g, 0, none⟩, cap, rfl, fun k hk => ⟨g, 0, rfl, (Array.getElem?_eq_some_iff.1 hg).1, ?_⟩⟩
    rw [Nat.zero_add, cell_of_row w g k cur e (0, 0) hg]
    have : (cur.toList.take (zs.length * 1))[k]? = (zs.map (Value.int .i64))[k]? := by rw [ht]
    rw [List.getElem?_take, if_pos (by omega)] at this
    rw [← Array.getElem?_toList, this]
    simp [List.getElem?_eq_getElem hk]
/-- One element of such a slice, for a walk. -/
theorem SeeI.at_ {w : World} {B : Nat} {A : Option Addr} {n c : Nat} {zs : List Int} {k : Nat} (h : SeeI w B (.slice A n c) zs) (hk : k < zs.length) :
    ∃ g o x, A = some ⟨g, o, none⟩ ∧ g < B ∧ zs[k]? = some x ∧ w.cell? ⟨g, o + k, none⟩ = some (.int .i64 x) := by
  obtain ⟨_, A', c', he, h1⟩ := h
  obtain ⟨g, o, rfl, hg, hc⟩ := h1 k hk
  injection he with he
  exact ⟨g, o, zs[k], he, hg, List.getElem?_eq_getElem hk, by simpa [List.getElem?_eq_getElem hk] using hc⟩
theorem SeeI.shape {w : World} {B : Nat} {v : Value} {zs : List Int} (h : SeeI w B v zs) : ∃ A c, v = .slice A zs.length c := by
  obtain ⟨_, A, c, rfl, _⟩ := h; exact ⟨A, c, rfl⟩

def eqI (xs ys : List Int) : Bool := decide (xs = ys)
theorem eqI_same (xs : List Int) : eqI xs xs = true := by simp [eqI]
theorem take_more {xs ys : List Int} {k : Nat} {x : Int} (h : xs.take k = ys.take k) (hx : xs[k]? = some x) (hy : ys[k]? = some x) : xs.take (k + 1) = ys.take (k + 1) := by
  rw [List.take_add_one, List.take_add_one, h, hx, hy]

/-- The numbers s, s+1 .. s+n-1, by which the laws mark a list. -/
def marks (s n : Nat) : List Int := (List.range n).map fun j => ((s + j : Nat) : Int)
@[simp] theorem marks_length (s n : Nat) : (marks s n).length = n := by simp [marks]
theorem marks_at {s n k : Nat} (h : k < n) : (marks s n)[k]? = some ((s + k : Nat) : Int) := by simp [marks, h]
theorem marks_succ (s k : Nat) : marks s (k + 1) = marks s k ++ [((s + k : Nat) : Int)] := by simp [marks, List.range_succ]

theorem grown_set {w wr : World} {g k : Nat} (h : w.grownBy wr (some g)) (u : Value) : w.grownBy (wr.setCell ⟨g, k, none⟩ u) (some g) :=
  ⟨h.os, h.tape, h.output, by simpa [World.setCell] using h.size, fun i hi hne => (Below.heap_setCell wr ⟨g, k, none⟩ u i (fun e => hne (by rw [e]))).trans (h.block i hi hne)⟩
theorem heap_set {w : World} {g k : Nat} {cur : Array Value} {e : TypeId} (h : w.heap[g]? = some (.cells cur e (0, 0))) (u : Value) : (w.setCell ⟨g, k, none⟩ u).heap[g]? = some (.cells (cur.setIfInBounds k u) e (0, 0)) := by
  simp [World.setCell, Array.getElem?_modify, h]
theorem frozen_row {w : World} {g k : Nat} {cur : Array Value} {e : TypeId} (h : w.heap[g]? = some (.cells cur e (0, 0))) : w.frozen? ⟨g, k, none⟩ = false := by simp [World.frozen?, h]
theorem take_set {cur : Array Value} {k : Nat} {u : Value} {l : List Value} (h : cur.toList.take k = l) (hk : k < cur.size) : (cur.setIfInBounds k u).toList.take (k + 1) = l ++ [u] := by
  rw [List.take_add_one]
  have h1 : (cur.setIfInBounds k u).toList.take k = l := by
    rw [← h]; apply List.ext_getElem?; intro j
    by_cases hj : j < k
    · simp [hj, show ¬ k = j from by omega]
    · simp [List.getElem?_take, hj]
  rw [h1]
  simp [hk]

theorem SeeI.grown {w w' : World} {B : Nat} {v : Value} {zs : List Int} (h : SeeI w B v zs) {row : Option Nat} (hg : w.grownBy w' row) (hB : B ≤ w.heap.size) (hr : ∀ g, row = some g → B ≤ g) : SeeI w' B v zs :=
  h.keep fun p hp => World.cell?_of_block (hg.block p.block (by omega) (fun e => by have := hr _ e.symm; omega))
theorem OwnI.lt {w : World} {B : Nat} {e : TypeId} {v : Value} {zs : List Int} (h : OwnI w B e v zs) : ∀ g, v.ownBlock = some g → B ≤ g ∧ g < w.heap.size := World.ownsRow.lt h
theorem below_drewN {B : Nat} {a w : World} (h : Below B a w) (n : Nat) : Below B a (w.drewN n) := ⟨h.os, h.tape, h.output, h.size, h.block⟩
theorem OwnI.drewN {w : World} {B : Nat} {e : TypeId} {v : Value} {zs : List Int} (h : OwnI w B e v zs) (n : Nat) : OwnI (w.drewN n) B e v zs := h

end Go.Proofs.YtigcbegeaikfcaaGreatDoor

namespace Go.Proofs.YtigcbegeaikfcaaGreatDoor
open Go.RowKit
set_option linter.unusedVariables false

theorem below_then {B : Nat} {W0 Wx w' : World} (h : Below B W0 Wx) (hb : Below Wx.heap.size Wx w') (hB : B ≤ W0.heap.size) : Below B W0 w' := h.trans (hb.mono (Nat.le_trans hB h.size))
/-- A later world: what was there in W is as it was. -/
structure Later (W : World) where
  now : World
  old : Below W.heap.size W now
instance (W : World) : Nonempty (Later W) := ⟨⟨W, Below.refl _ _⟩⟩

theorem region_later {P : Program} {id : Nat} {Q : Exit → Act → World → Prop} {a : Act} {w : World} {l : List Oper} (hm : P.follows .mixedOrders = true) (hB : Region.lexB .any l.toArray = true)
    (h : wpQuiet P l.toArray (fun w' => ∃ i : Later w, w' = i.now) (fun a' => ∀ w', (∃ i : Later w, w' = i.now) → Q .normal a' w') l a) : (Code.region id l.toArray true).wp P Q a w :=
  wp_region_quiet (C := fun w' => ∃ i : Later w, w' = i.now) hm hB ⟨⟨_, (Below.refl _ _).drew⟩, rfl⟩ (by simpa using h)
theorem later_call {P : Program} {f : FuncId} {args : Array Value} {W : World} {i : Later W} {v : Value} (h : Calls P f args i.now fun e w' => e = .returned v ∧ Below i.now.heap.size i.now w') :
    Calls P f args i.now fun e w'' => e = .returned v ∧ ∃ j : Later W, w'' = j.now :=
  h.mono fun _ _ ⟨he, hb⟩ => ⟨he, ⟨_, below_then i.old hb (Nat.le_refl _)⟩, rfl⟩
theorem later_same {P : Program} {f : FuncId} {args : Array Value} {W : World} {i : Later W} {v : Value} (h : Calls P f args i.now fun e w' => e = .returned v ∧ i.now = w') :
    Calls P f args i.now fun e w'' => e = .returned v ∧ ∃ j : Later W, w'' = j.now :=
  h.mono fun _ _ ⟨he, hb⟩ => ⟨he, i, hb.symm⟩
theorem later_drew {P : Program} {f : FuncId} {args : Array Value} {W : World} {i : Later W} {v : Value} (h : Calls P f args i.now fun e w' => e = .returned v ∧ ∃ n, w' = i.now.drewN n) :
    Calls P f args i.now fun e w'' => e = .returned v ∧ ∃ j : Later W, w'' = j.now :=
  h.mono fun _ _ ⟨he, n, hb⟩ => ⟨he, ⟨_, below_drewN i.old n⟩, hb⟩
theorem later_cell {W : World} {b o : Nat} {v : Value} (h : W.cell? ⟨b, o, none⟩ = some v) (i : Later W) : i.now.cell? ⟨b, o, none⟩ = some v :=
  (i.old.cell (World.block_lt_of_cell? W ⟨b, o, none⟩ h)).trans h

end Go.Proofs.YtigcbegeaikfcaaGreatDoor

namespace Go.Proofs.YtigcbegeaikfcaaGreatDoor
open Go.RowKit
set_option linter.unusedVariables false

def OwnV (w : World) (B : Nat) (e : TypeId) (v : Value) (xs : List Value) : Prop := w.ownsRow B e 1 v xs.length xs
theorem OwnV.nil (w : World) (B : Nat) (e : TypeId) : OwnV w B e (.slice none 0 0) [] := World.ownsRow_nil _ _ _ _
theorem OwnV.empty (w : World) (B : Nat) (e : TypeId) (hB : B ≤ w.heap.size) : OwnV (w.alloc (.cells #[] e)) B e (.slice (some ⟨w.heap.size, 0, none⟩) 0 0) [] :=
  World.ownsRow_made w #[] 0 hB (Nat.zero_le _) rfl
theorem OwnV.alloc {w : World} {B : Nat} {e : TypeId} {v : Value} {xs : List Value} (h : OwnV w B e v xs) (o : Obj) : OwnV (w.alloc o) B e v xs := World.ownsRow.alloc h o
theorem OwnV.drewN {w : World} {B : Nat} {e : TypeId} {v : Value} {xs : List Value} (h : OwnV w B e v xs) (n : Nat) : OwnV (w.drewN n) B e v xs := h
theorem OwnV.lt {w : World} {B : Nat} {e : TypeId} {v : Value} {xs : List Value} (h : OwnV w B e v xs) : ∀ g, v.ownBlock = some g → B ≤ g ∧ g < w.heap.size := World.ownsRow.lt h
theorem OwnV.far {w : World} {B : Nat} {e : TypeId} {v : Value} {xs : List Value} (h : OwnV w B e v xs) {p : Addr} (hp : p.block < B) (u : Value) : OwnV (w.setCell p u) B e v xs := ownsRow_setCell_below h hp u
theorem OwnV.less {w : World} {B B' : Nat} {e : TypeId} {v : Value} {xs : List Value} (h : OwnV w B e v xs) (hB : B' ≤ B) : OwnV w B' e v xs := by
  obtain ⟨hl, h⟩ := h
  rcases h with h | ⟨g, cap, cur, h1, h2, h3⟩
  · exact ⟨hl, .inl h⟩
  · exact ⟨hl, .inr ⟨g, cap, cur, h1, Nat.le_trans hB h2, h3⟩⟩
theorem OwnV.push {w wr w1 : World} {B : Nat} {e : TypeId} {v v' : Value} {xs : List Value} {x : Value} {o : Obj} (hb : Below B w wr) (hB : B ≤ w.heap.size) (h : OwnV wr B e v xs)
    (h1 : w1.ownsRow B e 1 v' (xs.length + 1) (xs ++ [x])) (hg : (wr.alloc o).grownBy w1 v.ownBlock) : OwnV w1 B e v' (xs ++ [x]) ∧ Below B w w1 := by
  have hs : B ≤ wr.heap.size := Nat.le_trans hB hb.size
  refine ⟨?_, (hb.alloc hs o).grown hg (by simp; omega) (fun j hj => (h.lt j hj).1)⟩
  unfold OwnV
  simpa using h1
/-- The row of the call's own goes on over a call that leaves alone what was there. -/
theorem OwnV.later {w w' : World} {B : Nat} {e : TypeId} {v : Value} {xs : List Value} (h : OwnV w B e v xs) (hb : Below w.heap.size w w') : OwnV w' B e v xs := by
  obtain ⟨hl, h⟩ := h
  rcases h with h | ⟨g, cap, cur, h1, h2, h3, h4⟩
  · exact ⟨hl, .inl h⟩
  · exact ⟨hl, .inr ⟨g, cap, cur, h1, h2, (hb.block g (Array.getElem?_eq_some_iff.1 h3).1).trans h3, h4⟩⟩

theorem OwnI.later {w w' : World} {B : Nat} {e : TypeId} {v : Value} {zs : List Int} (h : OwnI w B e v zs) (hb : Below w.heap.size w w') : OwnI w' B e v zs := by
  obtain ⟨hl, h⟩ := h
  rcases h with h | ⟨g, cap, cur, h1, h2, h3, h4⟩
  · exact ⟨hl, .inl h⟩
  · exact ⟨hl, .inr ⟨g, cap, cur, h1, h2, (hb.block g (Array.getElem?_eq_some_iff.1 h3).1).trans h3, h4⟩⟩

def SeeV (w : World) (B : Nat) (v : Value) (xs : List Value) : Prop :=
  xs.length ≤ maxLen ∧ ∃ A c, v = .slice A xs.length c ∧ xs.length ≤ c ∧ ∀ k x, xs[k]? = some x → ∃ g o, A = some ⟨g, o, none⟩ ∧ g < B ∧ w.cell? ⟨g, o + k, none⟩ = some x
theorem SeeV.keep {w w' : World} {B : Nat} {v : Value} {xs : List Value} (h : SeeV w B v xs) (hk : ∀ p : Addr, p.block < B → w'.cell? p = w.cell? p) : SeeV w' B v xs := by
  obtain ⟨h0, A, c, rfl, hc, h1⟩ := h
  refine ⟨h0, A, c, rfl, hc, fun k x hx => ?_⟩
  obtain ⟨g, o, rfl, hg, hcell⟩ := h1 k x hx
  exact ⟨g, o, rfl, hg, (hk _ hg).trans hcell⟩
theorem SeeV.below {w w' : World} {B : Nat} {v : Value} {xs : List Value} (h : SeeV w B v xs) (hb : Below B w w') : SeeV w' B v xs := h.keep fun _ hp => hb.cell hp
theorem SeeV.alloc {w : World} {B : Nat} {v : Value} {xs : List Value} (h : SeeV w B v xs) (hB : B ≤ w.heap.size) (o : Obj) : SeeV (w.alloc o) B v xs := h.keep fun p hp => World.cell?_alloc_lt w o p (by omega)
theorem SeeV.more {w : World} {B B' : Nat} {v : Value} {xs : List Value} (h : SeeV w B v xs) (hB : B ≤ B') : SeeV w B' v xs := by
  obtain ⟨h0, A, c, rfl, hc, h1⟩ := h
  refine ⟨h0, A, c, rfl, hc, fun k x hx => ?_⟩
  obtain ⟨g, o, rfl, hg, hcell⟩ := h1 k x hx
  exact ⟨g, o, rfl, by omega, hcell⟩
theorem SeeV.shape {w : World} {B : Nat} {v : Value} {xs : List Value} (h : SeeV w B v xs) : ∃ A c, v = .slice A xs.length c := by
  obtain ⟨_, A, c, rfl, _⟩ := h; exact ⟨A, c, rfl⟩
theorem OwnV.see {w : World} {B : Nat} {e : TypeId} {v : Value} {xs : List Value} (h : OwnV w B e v xs) : SeeV w w.heap.size v xs := by
  obtain ⟨hl, h⟩ := h
  rcases h with ⟨rfl, hn⟩ | ⟨g, cap, cur, rfl, hb, hg, hnc, hcm, hcs, ht⟩
  · refine ⟨by omega, none, 0, by rw [hn], by omega, fun k x hx => ?_⟩
    have := (List.getElem?_eq_some_iff.1 hx).1
    omega
  · refine ⟨by omega, some ⟨g, 0, none⟩, cap, rfl, hnc, fun k x hx => ⟨g, 0, rfl, (Array.getElem?_eq_some_iff.1 hg).1, ?_⟩⟩
    have hk := (List.getElem?_eq_some_iff.1 hx).1
    rw [Nat.zero_add, cell_of_row w g k cur e (0, 0) hg]
    have : (cur.toList.take (xs.length * 1))[k]? = xs[k]? := by rw [ht]
    rw [List.getElem?_take, if_pos (by omega)] at this
    rw [← Array.getElem?_toList, this, hx]
theorem SeeV.at_ {w : World} {B : Nat} {A : Option Addr} {n c : Nat} {xs : List Value} {k : Nat} {x : Value} (h : SeeV w B (.slice A n c) xs) (hx : xs[k]? = some x) :
    ∃ g o, A = some ⟨g, o, none⟩ ∧ g < B ∧ w.cell? ⟨g, o + k, none⟩ = some x := by
  obtain ⟨_, A', c', he, _, h1⟩ := h
  obtain ⟨g, o, rfl, hg, hc⟩ := h1 k x hx
  injection he with he
  exact ⟨g, o, he, hg, hc⟩

/-- A text's value. -/
abbrev str (l : List UInt8) : Value := .string ⟨l.toArray⟩
abbrev byte (b : UInt8) : Value := .int .u8 (b.toNat : Int)
theorem mk_append (a b : List UInt8) : (⟨a.toArray⟩ : ByteArray) ++ ⟨b.toArray⟩ = ⟨(a ++ b).toArray⟩ := ByteArray.mk_append_mk a b
theorem u8_ne {b c : UInt8} (h : ¬ b = c) {z : Int} (hz : z = (c.toNat : Int)) : ((b.toNat : Int) == z) = false := by
  subst hz
  simp only [beq_eq_false_iff_ne, ne_eq]
  intro e
  exact h (UInt8.toNat_inj.1 (by omega))
/-- 's[k]'. -/
theorem idx_str {P : Program} (t : TypeId) (l : List UInt8) (k : Nat) (b : UInt8) (h : P.underlying t = some .string) (hk : l[k]? = some b) (W : World) :
    (Instr.index t (.string ⟨l.toArray⟩) (.int .i64 (k : Int))).run P W = .ok (byte b) W := by
  have hl := (List.getElem?_eq_some_iff.1 hk).1
  rw [run_index_string W t ⟨l.toArray⟩ .i64 k h, dif_pos (by simp [ByteArray.size]; omega)]
  have : (⟨l.toArray⟩ : ByteArray)[(k : Int).toNat]'(by simp [ByteArray.size]; omega) = b := by
    show l.toArray[(k : Int).toNat]'_ = b
    simp
    exact (List.getElem?_eq_some_iff.1 hk).2
  rw [this]

/-- 's[a:b]'. -/
theorem sub_str {P : Program} (t : TypeId) (l : List UInt8) (a b : Nat) (h : P.underlying t = some .string) (h1 : a ≤ b) (h2 : b ≤ l.length) (W : World) :
    (Instr.slice t (.string ⟨l.toArray⟩) (some (.int .i64 (a : Int))) (some (.int .i64 (b : Int))) none).run P W = .ok (str ((l.drop a).take (b - a))) W := by
  have hz : (⟨l.toArray⟩ : ByteArray).size = l.length := by simp [ByteArray.size]
  rw [run_slice_string W t ⟨l.toArray⟩ .i64 .i64 a b h (by omega) (by omega) (by omega)]
  have : (⟨l.toArray⟩ : ByteArray).extract (a : Int).toNat (b : Int).toNat = ⟨((l.drop a).take (b - a)).toArray⟩ := by
    rw [Int.toNat_natCast, Int.toNat_natCast]
    exact ByteArray.ext (Array.ext' (by rw [Lib.extract_data]))
  rw [this]

/-- '[]byte(s)': a new row of the text's bytes, which may be written. -/
theorem conv_bytes {P : Program} (w : World) (src dst e : TypeId) (l : List UInt8) (hs : P.underlying src = some .string) (hd : P.underlying dst = some (.slice e)) (he : P.underlying e = some (.int .u8)) :
    ∃ cap W, (convert src dst (.string ⟨l.toArray⟩)).run P w = .ok (.slice (some ⟨w.heap.size, 0, none⟩) l.length cap) W ∧ (∀ j b, l[j]? = some b → W.cell? ⟨w.heap.size, j, none⟩ = some (byte b)) ∧
      (∀ j, j < l.length → W.frozen? ⟨w.heap.size, j, none⟩ = false) ∧ Below w.heap.size w W ∧ w.heap.size < W.heap.size := by
  have hr := run_bytes_of_string w src dst e ⟨l.toArray⟩ hs hd he
  have hz : (⟨l.toArray⟩ : ByteArray).size = l.length := by simp [ByteArray.size]
  rw [hz] at hr
  generalize hcap : grownCap w l.length 0 e = cap at hr
  refine ⟨cap, _, hr, fun j b hj => ?_, fun j hj => ?_, ?_, by simp⟩
  · have hg : (w.drew.alloc (.cells (bytesRow ⟨l.toArray⟩ cap) e ((bytesRow ⟨l.toArray⟩ cap).size, (bytesRow ⟨l.toArray⟩ cap).size + 1))).heap[w.heap.size]? = some (.cells (bytesRow ⟨l.toArray⟩ cap) e ((bytesRow ⟨l.toArray⟩ cap).size, (bytesRow ⟨l.toArray⟩ cap).size + 1)) := heap_alloc_new w.drew _
    rw [cell_of_row _ _ j _ _ _ hg]
    have hjl := (List.getElem?_eq_some_iff.1 hj).1
    have : (bytesRow ⟨l.toArray⟩ cap)[j]? = ((⟨l.toArray⟩ : ByteArray).data.map (fun b => Value.int .u8 b.toNat))[j]? := by
      unfold bytesRow
      rw [Array.getElem?_append_left (by simpa using hjl)]
    rw [this]
    simp [hj, byte]
  · have hg : (w.drew.alloc (.cells (bytesRow ⟨l.toArray⟩ cap) e ((bytesRow ⟨l.toArray⟩ cap).size, (bytesRow ⟨l.toArray⟩ cap).size + 1))).heap[w.heap.size]? = some (.cells (bytesRow ⟨l.toArray⟩ cap) e ((bytesRow ⟨l.toArray⟩ cap).size, (bytesRow ⟨l.toArray⟩ cap).size + 1)) := heap_alloc_new w.drew _
    have hl : l.length ≤ (bytesRow ⟨l.toArray⟩ cap).size := by simp [bytesRow]
    simp only [World.frozen?, hg]
    simp
    omega
  · exact (Below.refl w.heap.size w).drew.alloc (Nat.le_refl _) _
/-- 'string(b)'. -/
theorem conv_back {P : Program} (w : World) (src dst e : TypeId) (B : Nat) (v : Value) (l : List UInt8) (hs : P.underlying src = some (.slice e)) (he : P.underlying e = some (.int .u8)) (hd : P.underlying dst = some .string)
    (h : SeeV w B v (l.map byte)) : (convert src dst v).run P w = .ok (str l) w := by
  obtain ⟨_, A, c, rfl, _, hc⟩ := h
  rw [List.length_map]
  cases l with
  | nil =>
    rw [run_convert_bytes_string w src dst e A _ c hs he hd]
    cases A with
    | none => simp [Conv.bytesToString, str]; rfl
    | some a =>
      have := run_convert_bytes_back w src dst e a c [] hs he hd (fun j hj => by simp at hj)
      rw [run_convert_bytes_string w src dst e _ _ c hs he hd] at this
      exact this
  | cons b l =>
    obtain ⟨g, o, rfl, _, _⟩ := hc 0 (byte b) rfl
    refine run_convert_bytes_back w src dst e ⟨g, o, none⟩ c (b :: l) hs he hd (fun j hj => ?_)
    obtain ⟨g', o', he', _, hcell⟩ := hc j (byte (b :: l)[j]) (by rw [List.getElem?_map, List.getElem?_eq_getElem hj]; rfl)
    injection he' with he'
    injection he' with e1 e2
    subst e1 e2
    rw [show (⟨g, o, none⟩ : Addr).add j = ⟨g, o + j, none⟩ from by unfold Addr.add; split <;> simp_all]
    exact hcell

end Go.Proofs.YtigcbegeaikfcaaGreatDoor

namespace Go.Proofs.YtigcbegeaikfcaaGreatDoor
open Go.RowKit
set_option linter.unusedVariables false

/-- The value v is a slice (nil, empty or not) whose elements, of n cells each, read as xs; its cells lie below block B. -/
def SeeN (n : Nat) (w : World) (B : Nat) (v : Value) (xs : List (List Value)) : Prop :=
  xs.length ≤ maxLen ∧ ∃ A c, v = .slice A xs.length c ∧ xs.length ≤ c ∧ ∀ k x, xs[k]? = some x → ∃ g o, A = some ⟨g, o, none⟩ ∧ g < B ∧ ∀ i y, x[i]? = some y → w.cell? ⟨g, o + k * n + i, none⟩ = some y
theorem SeeN.keep {n : Nat} {w w' : World} {B : Nat} {v : Value} {xs : List (List Value)} (h : SeeN n w B v xs) (hk : ∀ p : Addr, p.block < B → w'.cell? p = w.cell? p) : SeeN n w' B v xs := by
  obtain ⟨h0, A, c, rfl, hc, h1⟩ := h
  refine ⟨h0, A, c, rfl, hc, fun k x hx => ?_⟩
  obtain ⟨g, o, rfl, hg, hcell⟩ := h1 k x hx
  exact ⟨g, o, rfl, hg, fun i y hy => (hk _ hg).trans (hcell i y hy)⟩
theorem SeeN.below {n : Nat} {w w' : World} {B : Nat} {v : Value} {xs : List (List Value)} (h : SeeN n w B v xs) (hb : Below B w w') : SeeN n w' B v xs := h.keep fun _ hp => hb.cell hp
theorem SeeN.alloc {n : Nat} {w : World} {B : Nat} {v : Value} {xs : List (List Value)} (h : SeeN n w B v xs) (hB : B ≤ w.heap.size) (o : Obj) : SeeN n (w.alloc o) B v xs := h.keep fun p hp => World.cell?_alloc_lt w o p (by omega)
theorem SeeN.more {n : Nat} {w : World} {B B' : Nat} {v : Value} {xs : List (List Value)} (h : SeeN n w B v xs) (hB : B ≤ B') : SeeN n w B' v xs := by
  obtain ⟨h0, A, c, rfl, hc, h1⟩ := h
  refine ⟨h0, A, c, rfl, hc, fun k x hx => ?_⟩
  obtain ⟨g, o, rfl, hg, hcell⟩ := h1 k x hx
  exact ⟨g, o, rfl, by omega, hcell⟩
theorem SeeN.shape {n : Nat} {w : World} {B : Nat} {v : Value} {xs : List (List Value)} (h : SeeN n w B v xs) : ∃ A c, v = .slice A xs.length c := by
  obtain ⟨_, A, c, rfl, _⟩ := h; exact ⟨A, c, rfl⟩
theorem SeeN.at_ {n : Nat} {w : World} {B : Nat} {A : Option Addr} {m c : Nat} {xs : List (List Value)} {k : Nat} {x : List Value} (h : SeeN n w B (.slice A m c) xs) (hx : xs[k]? = some x) :
    ∃ g o, A = some ⟨g, o, none⟩ ∧ g < B ∧ ∀ i y, x[i]? = some y → w.cell? ⟨g, o + k * n + i, none⟩ = some y := by
  obtain ⟨_, A', c', he, _, h1⟩ := h
  obtain ⟨g, o, rfl, hg, hc⟩ := h1 k x hx
  injection he with he
  exact ⟨g, o, he, hg, hc⟩

/-- The value v is a slice of the call's own (blocks from B on) whose elements, of n cells each, are xs. -/
def OwnN (n : Nat) (w : World) (B : Nat) (e : TypeId) (v : Value) (xs : List (List Value)) : Prop := w.ownsRow B e n v xs.length xs.flatten ∧ ∀ x ∈ xs, x.length = n
theorem OwnN.nil (n : Nat) (w : World) (B : Nat) (e : TypeId) : OwnN n w B e (.slice none 0 0) [] := ⟨World.ownsRow_nil _ _ _ _, by simp⟩
theorem OwnN.empty (n : Nat) (w : World) (B : Nat) (e : TypeId) (hB : B ≤ w.heap.size) : OwnN n (w.alloc (.cells #[] e)) B e (.slice (some ⟨w.heap.size, 0, none⟩) 0 0) [] :=
  ⟨World.ownsRow_made w #[] 0 hB (Nat.zero_le _) (by simp), by simp⟩
theorem OwnN.alloc {n : Nat} {w : World} {B : Nat} {e : TypeId} {v : Value} {xs : List (List Value)} (h : OwnN n w B e v xs) (o : Obj) : OwnN n (w.alloc o) B e v xs := ⟨World.ownsRow.alloc h.1 o, h.2⟩
theorem OwnN.drewN {n : Nat} {w : World} {B : Nat} {e : TypeId} {v : Value} {xs : List (List Value)} (h : OwnN n w B e v xs) (k : Nat) : OwnN n (w.drewN k) B e v xs := h
theorem OwnN.lt {n : Nat} {w : World} {B : Nat} {e : TypeId} {v : Value} {xs : List (List Value)} (h : OwnN n w B e v xs) : ∀ g, v.ownBlock = some g → B ≤ g ∧ g < w.heap.size := World.ownsRow.lt h.1
theorem OwnN.less {n : Nat} {w : World} {B B' : Nat} {e : TypeId} {v : Value} {xs : List (List Value)} (h : OwnN n w B e v xs) (hB : B' ≤ B) : OwnN n w B' e v xs := by
  obtain ⟨⟨hl, h⟩, hn⟩ := h
  rcases h with h | ⟨g, cap, cur, h1, h2, h3⟩
  · exact ⟨⟨hl, .inl h⟩, hn⟩
  · exact ⟨⟨hl, .inr ⟨g, cap, cur, h1, Nat.le_trans hB h2, h3⟩⟩, hn⟩
theorem OwnN.later {n : Nat} {w w' : World} {B : Nat} {e : TypeId} {v : Value} {xs : List (List Value)} (h : OwnN n w B e v xs) (hb : Below w.heap.size w w') : OwnN n w' B e v xs := by
  obtain ⟨⟨hl, h⟩, hn⟩ := h
  rcases h with h | ⟨g, cap, cur, h1, h2, h3, h4⟩
  · exact ⟨⟨hl, .inl h⟩, hn⟩
  · exact ⟨⟨hl, .inr ⟨g, cap, cur, h1, h2, (hb.block g (Array.getElem?_eq_some_iff.1 h3).1).trans h3, h4⟩⟩, hn⟩
/-- One cell of rows side by side. -/
theorem flat_at {n : Nat} : ∀ {xs : List (List Value)}, (∀ x ∈ xs, x.length = n) → ∀ {k i : Nat} {x : List Value} {y : Value}, xs[k]? = some x → x[i]? = some y → xs.flatten[k * n + i]? = some y
  | [], _, k, i, x, y, hx, _ => by simp at hx
  | z :: r, hn, 0, i, x, y, hx, hy => by
    obtain rfl : z = x := by simpa using hx
    have hi := (List.getElem?_eq_some_iff.1 hy).1
    rw [List.flatten_cons, Nat.zero_mul, Nat.zero_add, List.getElem?_append_left hi, hy]
  | z :: r, hn, k + 1, i, x, y, hx, hy => by
    have hz : z.length = n := hn z (by simp)
    rw [List.flatten_cons, Nat.succ_mul, List.getElem?_append_right (by omega), show k * n + n + i - z.length = k * n + i by omega]
    exact flat_at (fun a ha => hn a (by simp [ha])) (by simpa using hx) hy
theorem flat_len {n : Nat} : ∀ {xs : List (List Value)}, (∀ x ∈ xs, x.length = n) → xs.flatten.length = xs.length * n
  | [], _ => by simp
  | z :: r, hn => by
    have hz : z.length = n := hn z (by simp)
    rw [List.flatten_cons, List.length_append, hz, flat_len (fun a ha => hn a (by simp [ha])), List.length_cons, Nat.succ_mul]; omega
theorem OwnN.see {n : Nat} {w : World} {B : Nat} {e : TypeId} {v : Value} {xs : List (List Value)} (h : OwnN n w B e v xs) : SeeN n w w.heap.size v xs := by
  obtain ⟨⟨hl, h⟩, hn⟩ := h
  rcases h with ⟨rfl, h0⟩ | ⟨g, cap, cur, rfl, hb, hg, hnc, hcm, hcs, ht⟩
  · refine ⟨by omega, none, 0, by rw [h0], by omega, fun k x hx => ?_⟩
    have := (List.getElem?_eq_some_iff.1 hx).1
    omega
  · refine ⟨by omega, some ⟨g, 0, none⟩, cap, rfl, hnc, fun k x hx => ⟨g, 0, rfl, (Array.getElem?_eq_some_iff.1 hg).1, fun i y hy => ?_⟩⟩
    have hf := flat_at hn hx hy
    have hlt := (List.getElem?_eq_some_iff.1 hf).1
    rw [hl] at hlt
    rw [Nat.zero_add, cell_of_row w g _ cur e (0, 0) hg]
    have : (cur.toList.take (xs.length * n))[k * n + i]? = xs.flatten[k * n + i]? := by rw [ht]
    rw [List.getElem?_take, if_pos hlt, hf] at this
    rw [← Array.getElem?_toList, this]

/-- 'make([]T, n)', T of size cells. -/
theorem make_rows {P : Program} (t e : TypeId) (z : Value) (size bytes : Nat) (ht : P.underlying t = some (.slice e)) (hinfo : (P.info? e).map (fun i => (i.zero, i.size, i.bytes)) = some (some z, size, bytes))
    (kl kc : IntKind) (n : Nat) (hbytes : bytes * n ≤ 281474976710656) (h63 : n ≤ 9223372036854775807) (w : World) :
    (Instr.makeSlice t (.int kl (n : Int)) (.int kc (n : Int))).run P w = .ok (.slice (some ⟨w.heap.size, 0, none⟩) n n) (w.alloc (.cells (madeCells z.cells (n * size)) e)) := by
  obtain ⟨i, hi, hzz⟩ := Option.map_eq_some_iff.1 hinfo
  simp only [Prod.mk.injEq] at hzz
  obtain ⟨hz, hs, hb⟩ := hzz
  subst hs hb
  have hb' : (i.bytes : Int) * (n : Int) ≤ 281474976710656 := by
    have h : ((i.bytes * n : Nat) : Int) ≤ 281474976710656 := by omega
    rwa [Int.natCast_mul] at h
  have hr := run_make (P := P) w t e i z ht hi hz kl kc n n (by omega) (Int.le_refl _) hb' (by omega)
  simpa only [Int.toNat_natCast] using hr
theorem take_more_flat {xs : List (List Value)} {k : Nat} {x : List Value} (hx : xs[k]? = some x) : (xs.take (k + 1)).flatten = (xs.take k).flatten ++ x := by
  rw [List.take_add_one, hx]; simp
theorem take_two {cur : Array Value} {k : Nat} {u v : Value} {l : List Value} (h : cur.toList.take (k * 2) = l) (hk : k * 2 + 1 < cur.size) :
    ((cur.setIfInBounds (k * 2) u).setIfInBounds (k * 2 + 1) v).toList.take ((k + 1) * 2) = l ++ [u, v] := by
  have h1 := take_set (u := u) h (show k * 2 < cur.size by omega)
  have h2 := take_set (u := v) h1 (by rw [Array.size_setIfInBounds]; exact hk)
  rw [show (k + 1) * 2 = k * 2 + 1 + 1 by omega, h2]
  simp

end Go.Proofs.YtigcbegeaikfcaaGreatDoor

namespace Go.Proofs.YtigcbegeaikfcaaGreatDoor
open Go.RowKit
set_option linter.unusedVariables false

def lowB (b : UInt8) : Bool := decide (97 ≤ (b.toNat : Int) ∧ (b.toNat : Int) ≤ 122)
/-- 1 to 6 bytes of a to z. -/
def nameB (l : List UInt8) : Bool := l.all lowB && inB l.length 1 6
theorem lowB_yes {b : UInt8} (h : lowB b = true) : 97 ≤ (b.toNat : Int) ∧ (b.toNat : Int) ≤ 122 := by simpa [lowB] using h
theorem lowB_no {b : UInt8} (h : lowB b = false) : (b.toNat : Int) < 97 ∨ 122 < (b.toNat : Int) := by
  have : ¬ (97 ≤ (b.toNat : Int) ∧ (b.toNat : Int) ≤ 122) := by simpa [lowB] using h
  omega
theorem low_step {l : List UInt8} {k : Nat} {b : UInt8} (h : (l.take k).all lowB = true) (hb : l[k]? = some b) (hp : lowB b = true) : (l.take (k + 1)).all lowB = true := by
  rw [List.take_add_one, hb, List.all_append, h]; simp [hp]
theorem low_out {l : List UInt8} {k : Nat} {b : UInt8} (hb : l[k]? = some b) (hp : lowB b = false) : l.all lowB = false := by
  rw [List.all_eq_false]; exact ⟨b, List.mem_of_getElem? hb, by simp [hp]⟩
theorem ret_bool {a b : Bool} (h : a = b) : Ending.returned (.bool a) = .returned (.bool b) := by rw [h]
def BoolIs (b : Bool) (w : World) (e : Ending) (w' : World) : Prop := e = .returned (.bool b) ∧ w = w'

set_option maxHeartbeats 1000000 in
theorem sNameOk_any (l : List UInt8) (hl : l.length ≤ 1048576) (w : World) : Calls Tryz.prog 112 #[str l] w (BoolIs (nameB l) w) := by
  go_enter Tryz.func112, Tryz.ntmps112
  go_wp2_with fail
  go_loop [3] (fun i => ∃ k : Nat, k ≤ l.length ∧ i = .int .i64 k ∧ (l.take k).all lowB = true) (fun i => l.length - (intOf i).toNat)
  case atStart => exact ⟨0, Nat.zero_le _, rfl, rfl⟩
  case round =>
    obtain ⟨k, hk, rfl, hall⟩ := hrel
    have HA := Lib.hid hall
    clear hall
    by_cases hlt : k < l.length
    · have hb := List.getElem?_eq_getElem hlt
      generalize l[k] = b at hb
      have hix := idx_str (P := Tryz.prog) 9 l k b Tryz.underlying9 hb
      unfold byte at hix
      cases hp : lowB b
      · have HN : Hid (nameB l = false) := Lib.hid (by rw [nameB, low_out hb hp]; rfl)
        rw [HN.out]
        rcases lowB_no hp with h | h
        all_goals
          clear hp hb
          generalize (b.toNat : Int) = z at hix h
          go_wp2_with fail
          go_ret
          exact ⟨rfl, rfl⟩
      · have HS := Lib.hid (low_step HA.out hb hp)
        obtain ⟨h0, h1⟩ := lowB_yes hp
        clear hp hb
        generalize (b.toNat : Int) = z at hix h0 h1
        go_wp2_with fail
        go_round
        case rel => exact ⟨k + 1, by omega, by go_num, HS.out⟩
        case measure => simp [intOf]; omega
    · obtain rfl : k = l.length := by omega
      have HN : Hid (nameB l = inB l.length 1 6) := Lib.hid (by
        have := HA.out
        rw [List.take_length] at this
        rw [nameB, this]; rfl)
      clear HA
      go_wp2_with fail
      refine (in_any _ _ _ _).mono ?_
      rintro e w' ⟨rfl, rfl⟩
      go_wp2_with fail
      go_ret
      exact ⟨ret_bool HN.out.symm, rfl⟩

set_option maxHeartbeats 1000000 in
theorem iNameOk_any (l : List UInt8) (hl : l.length ≤ 1048576) (w : World) : Calls Tryz.prog 110 #[str l] w (BoolIs (nameB l) w) := by
  by_cases h1 : l.length < 1
  · have HN : Hid (nameB l = false) := Lib.hid (by rw [nameB, inB_no (by omega), Bool.and_false])
    rw [HN.out]
    have h1' : decide ((l.length : Int) < 1) = true := by simp; omega
    go_enter Tryz.func110, Tryz.ntmps110
    go_wp2_with fail
    go_ret
    exact ⟨rfl, rfl⟩
  by_cases h6 : 6 < l.length
  · have HN : Hid (nameB l = false) := Lib.hid (by rw [nameB, inB_no (by omega), Bool.and_false])
    rw [HN.out]
    go_enter Tryz.func110, Tryz.ntmps110
    go_wp2_with fail
    go_ret
    exact ⟨rfl, rfl⟩
  have HI : Hid (nameB l = l.all lowB) := Lib.hid (by rw [nameB, inB_yes (by omega), Bool.and_true])
  have g1 : 1 ≤ l.length := by omega
  have g6 : l.length ≤ 6 := by omega
  clear h1 h6
  rw [HI.out]
  go_enter Tryz.func110, Tryz.ntmps110
  go_wp2_with fail
  go_loop [3, 14] (fun _ i => ∃ k : Nat, k ≤ l.length ∧ i = .int .i64 k ∧ (l.take k).all lowB = true) (fun _ i => l.length - (intOf i).toNat)
  case atStart => exact ⟨0, Nat.zero_le _, rfl, rfl⟩
  case round =>
    obtain ⟨k, hk, rfl, hall⟩ := hrel
    have HA := Lib.hid hall
    clear hall
    by_cases hlt : k < l.length
    · have hb := List.getElem?_eq_getElem hlt
      generalize l[k] = b at hb
      have hix := idx_str (P := Tryz.prog) 9 l k b Tryz.underlying9 hb
      unfold byte at hix
      cases hp : lowB b
      · have HN : Hid (l.all lowB = false) := Lib.hid (low_out hb hp)
        rw [HN.out]
        rcases lowB_no hp with h | h
        all_goals
          clear hp hb
          generalize (b.toNat : Int) = z at hix h
          go_wp2_with fail
          go_ret
          exact ⟨rfl, rfl⟩
      · have HS := Lib.hid (low_step HA.out hb hp)
        obtain ⟨h0, h1⟩ := lowB_yes hp
        clear hp hb
        generalize (b.toNat : Int) = z at hix h0 h1
        go_wp2_with fail
        go_round
        case rel => exact ⟨k + 1, by omega, by go_num, HS.out⟩
        case measure => simp [intOf]; omega
    · obtain rfl : k = l.length := by omega
      have HN : Hid (l.all lowB = true) := Lib.hid (by
        have := HA.out
        rwa [List.take_length] at this)
      clear HA
      go_wp2_with fail
      go_ret
      exact ⟨ret_bool HN.out.symm, rfl⟩

end Go.Proofs.YtigcbegeaikfcaaGreatDoor

namespace Go.Proofs.YtigcbegeaikfcaaGreatDoor
open Go.RowKit
set_option linter.unusedVariables false

/-- A box: its name and its value. -/
abbrev Bx := List UInt8 × Int
abbrev boxV (b : Bx) : List Value := [str b.1, .int .i64 b.2]
def SeeBx (w : World) (B : Nat) (v : Value) (bs : List Bx) : Prop := SeeN 2 w B v (bs.map boxV)
def OwnBx (w : World) (B : Nat) (e : TypeId) (v : Value) (bs : List Bx) : Prop := OwnN 2 w B e v (bs.map boxV)
theorem SeeBx.below {w w' : World} {B : Nat} {v : Value} {bs : List Bx} (h : SeeBx w B v bs) (hb : Below B w w') : SeeBx w' B v bs := SeeN.below h hb
theorem SeeBx.alloc {w : World} {B : Nat} {v : Value} {bs : List Bx} (h : SeeBx w B v bs) (hB : B ≤ w.heap.size) (o : Obj) : SeeBx (w.alloc o) B v bs := SeeN.alloc h hB o
theorem SeeBx.more {w : World} {B B' : Nat} {v : Value} {bs : List Bx} (h : SeeBx w B v bs) (hB : B ≤ B') : SeeBx w B' v bs := SeeN.more h hB
theorem SeeBx.shape {w : World} {B : Nat} {v : Value} {bs : List Bx} (h : SeeBx w B v bs) : ∃ A c, v = .slice A bs.length c := by
  obtain ⟨A, c, e⟩ := SeeN.shape h; exact ⟨A, c, by rw [e, List.length_map]⟩
theorem SeeBx.len {w : World} {B : Nat} {v : Value} {bs : List Bx} (h : SeeBx w B v bs) : bs.length ≤ maxLen := by have := h.1; rwa [List.length_map] at this
theorem SeeBx.at_ {w : World} {B : Nat} {A : Option Addr} {m c : Nat} {bs : List Bx} {k : Nat} {b : Bx} (h : SeeBx w B (.slice A m c) bs) (hx : bs[k]? = some b) :
    ∃ g o, A = some ⟨g, o, none⟩ ∧ g < B ∧ w.cell? ⟨g, o + k * 2, none⟩ = some (str b.1) ∧ w.cell? ⟨g, o + k * 2 + 1, none⟩ = some (.int .i64 b.2) := by
  obtain ⟨g, o, h1, h2, h3⟩ := SeeN.at_ h (k := k) (x := boxV b) (by rw [List.getElem?_map, hx]; rfl)
  exact ⟨g, o, h1, h2, h3 0 _ rfl, h3 1 _ rfl⟩
theorem OwnBx.see {w : World} {B : Nat} {e : TypeId} {v : Value} {bs : List Bx} (h : OwnBx w B e v bs) : SeeBx w w.heap.size v bs := OwnN.see h
theorem OwnBx.later {w w' : World} {B : Nat} {e : TypeId} {v : Value} {bs : List Bx} (h : OwnBx w B e v bs) (hb : Below w.heap.size w w') : OwnBx w' B e v bs := OwnN.later h hb

/-- The value of the first box of that name; 0 when there is none. -/
def valueS : List Bx → List UInt8 → Int
  | [], _ => 0
  | b :: r, s => if b.1 = s then b.2 else valueS r s
theorem value_yes {bs : List Bx} {k : Nat} {b : Bx} {s : List UInt8} (hv : valueS (bs.drop k) s = valueS bs s) (hb : bs[k]? = some b) (h : b.1 = s) : valueS bs s = b.2 := by
  obtain ⟨hk, hg⟩ := List.getElem?_eq_some_iff.1 hb
  rw [← hv, List.drop_eq_getElem_cons hk, hg, valueS, if_pos h]
theorem value_no {bs : List Bx} {k : Nat} {b : Bx} {s : List UInt8} (hv : valueS (bs.drop k) s = valueS bs s) (hb : bs[k]? = some b) (h : ¬ b.1 = s) : valueS (bs.drop (k + 1)) s = valueS bs s := by
  obtain ⟨hk, hg⟩ := List.getElem?_eq_some_iff.1 hb
  rw [← hv, List.drop_eq_getElem_cons hk, hg, valueS, if_neg h]
theorem value_end {bs : List Bx} {s : List UInt8} (hv : valueS (bs.drop bs.length) s = valueS bs s) : valueS bs s = 0 := by
  rw [← hv, List.drop_of_length_le (Nat.le_refl _)]; rfl

set_option maxHeartbeats 1000000 in
theorem sValueIn_any (B : Nat) (v : Value) (bs : List Bx) (s : List UInt8) (w : World) (h : SeeBx w B v bs) :
    Calls Tryz.prog 145 #[v, str s] w fun e w' => e = .returned (.int .i64 (valueS bs s)) ∧ w = w' := by
  have hm := h.len
  unfold maxLen at hm
  obtain ⟨A, c, rfl⟩ := h.shape
  go_enter Tryz.func145, Tryz.ntmps145
  go_wp2_with fail
  go_loop [5] (fun i => ∃ k : Nat, k ≤ bs.length ∧ i = .int .i64 k ∧ valueS (bs.drop k) s = valueS bs s) (fun i => bs.length - (intOf i).toNat)
  case atStart => exact ⟨0, Nat.zero_le _, rfl, rfl⟩
  case round =>
    obtain ⟨k, hk, rfl, hv⟩ := hrel
    have HV := Lib.hid hv
    clear hv
    by_cases hlt : k < bs.length
    · have hb := List.getElem?_eq_getElem hlt
      generalize bs[k] = b at hb
      obtain ⟨g, o, rfl, -, hn, hx⟩ := h.at_ hb
      obtain ⟨n, x⟩ := b
      dsimp only at hn hx
      by_cases hs : n = s
      · subst hs
        have HE := Lib.hid (value_yes HV.out hb rfl)
        clear hb h
        go_wp2_with fail
        go_ret
        exact ⟨ret_int HE.out.symm, rfl⟩
      · have HE := Lib.hid (value_no HV.out hb hs)
        have hf : (n == s) = false := by simpa using hs
        clear hb h hs
        go_wp2_with fail
        go_round
        case rel => exact ⟨k + 1, by omega, by go_num, HE.out⟩
        case measure => simp [intOf]; omega
    · obtain rfl : k = bs.length := by omega
      have HE := Lib.hid (value_end HV.out)
      go_wp2_with fail
      go_ret
      exact ⟨ret_int HE.out.symm, rfl⟩

set_option maxHeartbeats 1000000 in
theorem iValueIn_any (B : Nat) (v : Value) (bs : List Bx) (s : List UInt8) (w : World) (h : SeeBx w B v bs) (hB : B ≤ w.heap.size) :
    Calls Tryz.prog 19 #[v, str s] w fun e w' => e = .returned (.int .i64 (valueS bs s)) ∧ Below w.heap.size w w' := by
  have hm := h.len
  unfold maxLen at hm
  obtain ⟨A, c, rfl⟩ := h.shape
  go_enter Tryz.func19, Tryz.ntmps19
  go_wp2_with fail
  go_loopw [6, 9] (fun _ i wr => ∃ k : Nat, k ≤ bs.length ∧ i = .int .i64 k ∧ valueS (bs.drop k) s = valueS bs s ∧ Below w.heap.size w wr) (fun _ i _ => bs.length - (intOf i).toNat)
  case atStart => exact ⟨0, Nat.zero_le _, rfl, rfl, Below.refl _ _⟩
  case round =>
    obtain ⟨k, hk, rfl, hv, hbw⟩ := hrel
    have HV := Lib.hid hv
    clear hv
    by_cases hlt : k < bs.length
    · have hb := List.getElem?_eq_getElem hlt
      generalize bs[k] = b at hb
      obtain ⟨g, o, rfl, -, hn, hx⟩ := (h.below (hbw.mono hB)).at_ hb
      obtain ⟨n, x⟩ := b
      dsimp only at hn hx
      have hb2 := hbw.alloc (hbw.size) (.cells #[str n, .int .i64 x] 92)
      by_cases hs : n = s
      · subst hs
        have HE := Lib.hid (value_yes HV.out hb rfl)
        clear hb h
        go_wp2_with fail
        go_ret
        exact ⟨ret_int HE.out.symm, hb2⟩
      · have HE := Lib.hid (value_no HV.out hb hs)
        have hf : (n == s) = false := by simpa using hs
        clear hb h hs
        go_wp2_with fail
        go_roundw
        case rel => exact ⟨k + 1, by omega, by go_num, HE.out, hb2⟩
        case measure => simp [intOf]; omega
    · obtain rfl : k = bs.length := by omega
      have HE := Lib.hid (value_end HV.out)
      go_wp2_with fail
      go_ret
      exact ⟨ret_int HE.out.symm, hbw⟩

end Go.Proofs.YtigcbegeaikfcaaGreatDoor

namespace Go.Proofs.YtigcbegeaikfcaaGreatDoor
open Go.RowKit
set_option linter.unusedVariables false

/-- Is the name of box j less 1 below that of box j? (Of the first one: yes.) -/
def risesAt (bs : List Bx) : Nat → List UInt8 → Bool
  | 0, _ => true
  | j + 1, n => match bs[j]? with
    | some c => Op.bytesLess c.1 n
    | none => false
/-- Is box k right? -/
def boxAt (bs : List Bx) (k : Nat) : Bool := match bs[k]? with
  | some b => nameB b.1 && (wordB b.2 && risesAt bs k b.1)
  | none => false
def boxesTo (bs : List Bx) (n : Nat) : Bool := (List.range n).all (boxAt bs)
def boxesB (bs : List Bx) : Bool := boxesTo bs bs.length && decide (bs.length ≤ 12)
theorem boxesTo_yes {bs : List Bx} {k : Nat} (h : boxesTo bs k = true) (hb : boxAt bs k = true) : boxesTo bs (k + 1) = true := by
  unfold boxesTo at h ⊢
  rw [List.range_succ, List.all_append, h]; simp [hb]
theorem boxesTo_no {bs : List Bx} {k : Nat} (hk : k < bs.length) (hb : boxAt bs k = false) : boxesB bs = false := by
  unfold boxesB boxesTo
  have : (List.range bs.length).all (boxAt bs) = false := by
    rw [List.all_eq_false]; exact ⟨k, List.mem_range.2 hk, by simp [hb]⟩
  rw [this]; rfl
theorem boxesTo_end {bs : List Bx} (h : boxesTo bs bs.length = true) : boxesB bs = decide (bs.length ≤ 12) := by unfold boxesB; rw [h]; rfl
theorem boxAt_name {bs : List Bx} {k : Nat} {b : Bx} (hb : bs[k]? = some b) (h : nameB b.1 = false) : boxAt bs k = false := by simp [boxAt, hb, h]
theorem boxAt_word {bs : List Bx} {k : Nat} {b : Bx} (hb : bs[k]? = some b) (h : wordB b.2 = false) : boxAt bs k = false := by simp [boxAt, hb, h]
theorem boxAt_0 {bs : List Bx} {b : Bx} (hb : bs[0]? = some b) (h : nameB b.1 = true) (h' : wordB b.2 = true) : boxAt bs 0 = true := by simp [boxAt, hb, h, h', risesAt]
theorem boxAt_s {bs : List Bx} {j : Nat} {b c : Bx} (hb : bs[j + 1]? = some b) (hc : bs[j]? = some c) (h : nameB b.1 = true) (h' : wordB b.2 = true) : boxAt bs (j + 1) = Op.bytesLess c.1 b.1 := by
  simp [boxAt, hb, h, h', risesAt, hc]
theorem less_lt : ∀ (x y : List UInt8), Op.bytesLess x y = decide (x < y)
  | [], [] => by simp [Op.bytesLess]
  | _ :: _, [] => by simp [Op.bytesLess]
  | [], _ :: _ => by simp [Op.bytesLess]
  | a :: x, b :: y => by
    rw [Op.bytesLess, less_lt x y]
    simp only [List.cons_lt_cons_iff]
    by_cases h1 : a < b <;> by_cases h2 : a = b <;> by_cases h3 : x < y <;> simp [h1, h2, h3]
theorem less_or_eq (a b : List UInt8) : (Op.bytesLess a b || a == b) = !Op.bytesLess b a := by
  rw [less_lt, less_lt]
  by_cases h : b < a
  · have h1 : ¬ a < b := fun q => List.lt_asymm h q
    have h2 : ¬ a = b := by rintro rfl; exact List.lt_irrefl _ h
    simp [h, h1, h2]
  · have h' : a ≤ b := h
    rcases (List.le_iff_lt_or_eq).1 h' with q | q
    · simp [h, q]
    · simp [q]

def BoolLt (w : World) (b : Bool) (e : Ending) (w' : World) : Prop := e = .returned (.bool b) ∧ Below w.heap.size w w'

/-- No name is longer than that. -/
def shortB (bs : List Bx) : Prop := ∀ b ∈ bs, b.1.length ≤ 1048576

theorem ret_le {n : Nat} {b : Bool} (h : b = decide (n ≤ 12)) : Ending.returned (.bool (decide ((n : Int) ≤ 12))) = .returned (.bool b) := by
  rw [h]
  by_cases q : n ≤ 12
  · rw [decide_eq_true q, decide_eq_true (show (n : Int) ≤ 12 by omega)]
  · rw [decide_eq_false q, decide_eq_false (show ¬ (n : Int) ≤ 12 by omega)]

set_option maxHeartbeats 2000000 in
theorem sBoxesOk_any (B : Nat) (v : Value) (bs : List Bx) (w : World) (h : SeeBx w B v bs) (hB : B ≤ w.heap.size) (hS : shortB bs) :
    Calls Tryz.prog 63 #[v] w (BoolLt w (boxesB bs)) := by
  have hm := h.len
  unfold maxLen at hm
  obtain ⟨A, c, rfl⟩ := h.shape
  go_enter Tryz.func63, Tryz.ntmps63
  go_wp2_with fail
  go_loopw [3] (fun i wr => ∃ k : Nat, k ≤ bs.length ∧ i = .int .i64 k ∧ boxesTo bs k = true ∧ Below w.heap.size w wr) (fun i _ => bs.length - (intOf i).toNat)
  case atStart => exact ⟨0, Nat.zero_le _, rfl, rfl, Below.refl _ _⟩
  case round =>
    obtain ⟨k, hk, rfl, hv, hbw⟩ := hrel
    have HV := Lib.hid hv
    clear hv
    by_cases hlt : k < bs.length
    · have hb := List.getElem?_eq_getElem hlt
      generalize bs[k] = b at hb
      have hsb := hS b (List.mem_of_getElem? hb)
      have h' := h.below (hbw.mono hB)
      obtain ⟨g, o, rfl, -, hn, hx⟩ := h'.at_ hb
      obtain ⟨n, x⟩ := b
      dsimp only at hn hx hsb
      have T1 : Hid (∀ i : Later wr, Calls Tryz.prog 112 #[str n] i.now (BoolIs (nameB n) i.now)) := Lib.hid fun i => sNameOk_any n hsb _
      have T2 : Hid (∀ i : Later wr, Calls Tryz.prog 60 #[.int .i64 x] i.now fun e w' => e = .returned (.bool (wordB x)) ∧ i.now = w') := Lib.hid fun i => l5Word_any x _
      have hn' := later_cell hn
      have hx' := later_cell hx
      cases hN : nameB n
      · have HE := Lib.hid (boxesTo_no hlt (boxAt_name hb hN))
        rw [hN] at T1
        clear hb hN h h' hn hx
        go_wp2_with fail
        refine region_later (by kernel_rfl) (by kernel_rfl) ?_
        repeat (go_big_quiet_step (first | (go_at_call 112; exact later_same (T1.out _)) | (go_at_call 60; exact later_same (T2.out _))))
        refine wpQuiet_nil ?_
        rintro w2 ⟨⟨_, hbk⟩, rfl⟩
        go_wp2_with fail
        go_ret
        exact ⟨ret_bool HE.out.symm, below_then hbw hbk (Nat.le_refl _)⟩
      cases hW : wordB x
      · have HE := Lib.hid (boxesTo_no hlt (boxAt_word hb hW))
        rw [hN] at T1
        rw [hW] at T2
        clear hb hN hW h h' hn hx
        go_wp2_with fail
        refine region_later (by kernel_rfl) (by kernel_rfl) ?_
        repeat (go_big_quiet_step (first | (go_at_call 112; exact later_same (T1.out _)) | (go_at_call 60; exact later_same (T2.out _))))
        refine wpQuiet_nil ?_
        rintro w2 ⟨⟨_, hbk⟩, rfl⟩
        go_wp2_with fail
        go_ret
        exact ⟨ret_bool HE.out.symm, below_then hbw hbk (Nat.le_refl _)⟩
      rw [hN] at T1
      rw [hW] at T2
      cases k with
      | zero =>
        have HE := Lib.hid (boxesTo_yes HV.out (boxAt_0 hb hN hW))
        clear hb hN hW h h' hn hx
        simp only [Nat.zero_mul, Nat.add_zero] at hn' hx'
        go_wp2_with fail
        refine region_later (by kernel_rfl) (by kernel_rfl) ?_
        repeat (go_big_quiet_step (first | (go_at_call 112; exact later_same (T1.out _)) | (go_at_call 60; exact later_same (T2.out _))))
        refine wpQuiet_nil ?_
        rintro w2 ⟨⟨_, hbk⟩, rfl⟩
        go_wp2_with fail
        go_roundw
        case rel => exact ⟨1, by omega, by go_num, HE.out, below_then hbw hbk (Nat.le_refl _)⟩
        case measure => simp [intOf]; omega
      | succ j =>
        have hd := List.getElem?_eq_getElem (show j < bs.length by omega)
        generalize bs[j]'(_) = d at hd
        obtain ⟨g', o', he, -, hd', -⟩ := h'.at_ hd
        injection he with he
        injection he with he1 he2
        subst he1 he2
        obtain ⟨n', x'⟩ := d
        dsimp only at hd'
        have hd'' := later_cell hd'
        cases hq : Op.bytesLess n' n
        · have HE := Lib.hid (boxesTo_no hlt ((boxAt_s hb hd hN hW).trans hq))
          have hle : (Op.bytesLess n n' || n == n') = true := by rw [less_or_eq, hq]; rfl
          clear hb hN hW h h' hd hq hn hx hd'
          go_wp2_with fail
          refine region_later (by kernel_rfl) (by kernel_rfl) ?_
          repeat (go_big_quiet_step (first | (go_at_call 112; exact later_same (T1.out _)) | (go_at_call 60; exact later_same (T2.out _))))
          refine wpQuiet_nil ?_
          rintro w2 ⟨⟨_, hbk⟩, rfl⟩
          go_wp2_with fail
          go_ret
          exact ⟨ret_bool HE.out.symm, below_then hbw hbk (Nat.le_refl _)⟩
        · have HE := Lib.hid (boxesTo_yes HV.out ((boxAt_s hb hd hN hW).trans hq))
          have hle : (Op.bytesLess n n' || n == n') = false := by rw [less_or_eq, hq]; rfl
          clear hb hN hW h h' hd hq hn hx hd'
          go_wp2_with fail
          refine region_later (by kernel_rfl) (by kernel_rfl) ?_
          repeat (go_big_quiet_step (first | (go_at_call 112; exact later_same (T1.out _)) | (go_at_call 60; exact later_same (T2.out _))))
          refine wpQuiet_nil ?_
          rintro w2 ⟨⟨_, hbk⟩, rfl⟩
          go_wp2_with fail
          go_roundw
          case rel => exact ⟨j + 1 + 1, by omega, by go_num, HE.out, below_then hbw hbk (Nat.le_refl _)⟩
          case measure => simp [intOf]; omega
    · obtain rfl : k = bs.length := by omega
      have HE := Lib.hid (boxesTo_end HV.out)
      go_wp2_with fail
      go_ret
      exact ⟨ret_le HE.out, hbw⟩

set_option maxHeartbeats 2000000 in
theorem iBoxesOk_any (B : Nat) (v : Value) (bs : List Bx) (w : World) (h : SeeBx w B v bs) (hB : B ≤ w.heap.size) (hS : shortB bs) :
    Calls Tryz.prog 58 #[v] w (BoolLt w (boxesB bs)) := by
  have hm := h.len
  unfold maxLen at hm
  obtain ⟨A, c, rfl⟩ := h.shape
  by_cases h12 : 12 < bs.length
  · have HE : Hid (boxesB bs = false) := Lib.hid (by unfold boxesB; rw [decide_eq_false (by omega), Bool.and_false])
    go_enter Tryz.func58, Tryz.ntmps58
    go_wp2_with fail
    go_ret
    exact ⟨ret_bool HE.out.symm, Below.refl _ _⟩
  have h12' : bs.length ≤ 12 := by omega
  clear h12
  go_enter Tryz.func58, Tryz.ntmps58
  go_wp2_with fail
  go_loopw [3, 4, 10] (fun _ _ i wr => ∃ k : Nat, k ≤ bs.length ∧ i = .int .i64 k ∧ boxesTo bs k = true ∧ Below w.heap.size w wr) (fun _ _ i _ => bs.length - (intOf i).toNat)
  case atStart => exact ⟨0, Nat.zero_le _, rfl, rfl, Below.refl _ _⟩
  case round =>
    obtain ⟨k, hk, rfl, hv, hbw⟩ := hrel
    have HV := Lib.hid hv
    clear hv
    by_cases hlt : k < bs.length
    · have hb := List.getElem?_eq_getElem hlt
      generalize bs[k] = b at hb
      have hsb := hS b (List.mem_of_getElem? hb)
      have h' := h.below (hbw.mono hB)
      obtain ⟨g, o, rfl, hgB, hn, hx⟩ := h'.at_ hb
      obtain ⟨n, x⟩ := b
      dsimp only at hn hx hsb
      have hb2 := hbw.alloc (hbw.size) (.cells #[str n, .int .i64 x] 92)
      have hbx : B ≤ wr.heap.size := Nat.le_trans hB hbw.size
      have HB := Lib.hid (hbw.alloc (hbw.size) (.cells #[str n, .int .i64 x] 92))
      have HZ : Hid ((wr.alloc (.cells #[str n, .int .i64 x] 92)).cell? ⟨wr.heap.size, 0, none⟩ = some (str n) ∧ (wr.alloc (.cells #[str n, .int .i64 x] 92)).cell? ⟨wr.heap.size, 1, none⟩ = some (.int .i64 x)) :=
        Lib.hid ⟨by rw [cell_of_row _ _ 0 _ _ (0, 0) (heap_alloc_new _ _)]; rfl, by rw [cell_of_row _ _ 1 _ _ (0, 0) (heap_alloc_new _ _)]; rfl⟩
      have HO : Hid (SeeBx (wr.alloc (.cells #[str n, .int .i64 x] 92)) B (.slice (some ⟨g, o, none⟩) bs.length c) bs) := Lib.hid (h'.alloc (Nat.le_trans hB hbw.size) _)
      clear h' h
      cases hN : nameB n
      · have HE := Lib.hid (boxesTo_no hlt (boxAt_name hb hN))
        clear hb
        go_wp2_with fail
        generalize wr.alloc _ = W at HZ HO HB ⊢
        generalize wr.heap.size = z at HZ ⊢
        obtain ⟨z0, z1⟩ := HZ.out
        have n' := later_cell z0
        have x' := later_cell z1
        have T1 : Hid (∀ i : Later W, Calls Tryz.prog 110 #[str n] i.now (BoolIs (nameB n) i.now)) := Lib.hid fun i => iNameOk_any n hsb _
        have T2 : Hid (∀ i : Later W, Calls Tryz.prog 109 #[.int .i64 x] i.now fun e w' => e = .returned (.bool (wordB x)) ∧ i.now = w') := Lib.hid fun i => iWordOk_any x _
        clear HZ z0 z1
        rw [hN] at T1
        clear hN HO
        refine region_later (by kernel_rfl) (by kernel_rfl) ?_
        repeat (go_big_quiet_step (first | (go_at_call 110; exact later_same (T1.out _)) | (go_at_call 109; exact later_same (T2.out _))))
        refine wpQuiet_nil ?_
        rintro w2 ⟨⟨_, hbk⟩, rfl⟩
        go_wp2_with fail
        go_ret
        exact ⟨ret_bool HE.out.symm, below_then HB.out hbk (Nat.le_refl _)⟩
      cases hW : wordB x
      · have HE := Lib.hid (boxesTo_no hlt (boxAt_word hb hW))
        clear hb
        go_wp2_with fail
        generalize wr.alloc _ = W at HZ HO HB ⊢
        generalize wr.heap.size = z at HZ ⊢
        obtain ⟨z0, z1⟩ := HZ.out
        have n' := later_cell z0
        have x' := later_cell z1
        have T1 : Hid (∀ i : Later W, Calls Tryz.prog 110 #[str n] i.now (BoolIs (nameB n) i.now)) := Lib.hid fun i => iNameOk_any n hsb _
        have T2 : Hid (∀ i : Later W, Calls Tryz.prog 109 #[.int .i64 x] i.now fun e w' => e = .returned (.bool (wordB x)) ∧ i.now = w') := Lib.hid fun i => iWordOk_any x _
        clear HZ z0 z1
        rw [hN] at T1
        rw [hW] at T2
        clear hN hW HO
        refine region_later (by kernel_rfl) (by kernel_rfl) ?_
        repeat (go_big_quiet_step (first | (go_at_call 110; exact later_same (T1.out _)) | (go_at_call 109; exact later_same (T2.out _))))
        refine wpQuiet_nil ?_
        rintro w2 ⟨⟨_, hbk⟩, rfl⟩
        go_wp2_with fail
        go_ret
        exact ⟨ret_bool HE.out.symm, below_then HB.out hbk (Nat.le_refl _)⟩
      cases k with
      | zero =>
        have HE := Lib.hid (boxesTo_yes HV.out (boxAt_0 hb hN hW))
        clear hb
        simp only [Nat.zero_mul, Nat.add_zero] at hn hx
        go_wp2_with fail
        generalize wr.alloc _ = W at HZ HO HB ⊢
        generalize wr.heap.size = z at HZ ⊢
        obtain ⟨z0, z1⟩ := HZ.out
        have n' := later_cell z0
        have x' := later_cell z1
        have T1 : Hid (∀ i : Later W, Calls Tryz.prog 110 #[str n] i.now (BoolIs (nameB n) i.now)) := Lib.hid fun i => iNameOk_any n hsb _
        have T2 : Hid (∀ i : Later W, Calls Tryz.prog 109 #[.int .i64 x] i.now fun e w' => e = .returned (.bool (wordB x)) ∧ i.now = w') := Lib.hid fun i => iWordOk_any x _
        clear HZ z0 z1
        rw [hN] at T1
        rw [hW] at T2
        clear hN hW HO
        refine region_later (by kernel_rfl) (by kernel_rfl) ?_
        repeat (go_big_quiet_step (first | (go_at_call 110; exact later_same (T1.out _)) | (go_at_call 109; exact later_same (T2.out _))))
        refine wpQuiet_nil ?_
        rintro w2 ⟨⟨_, hbk⟩, rfl⟩
        go_wp2_with fail
        go_roundw
        case rel => exact ⟨1, by omega, by go_num, HE.out, below_then HB.out hbk (Nat.le_refl _)⟩
        case measure => simp [intOf]; omega
      | succ j =>
        have hd := List.getElem?_eq_getElem (show j < bs.length by omega)
        generalize bs[j]'(_) = d at hd
        obtain ⟨n2, x2⟩ := d
        cases hq : Op.bytesLess n2 n
        · have HE := Lib.hid (boxesTo_no hlt ((boxAt_s hb hd hN hW).trans hq))
          clear hb
          go_wp2_with fail
          generalize wr.alloc _ = W at HZ HO HB ⊢
          generalize wr.heap.size = z at HZ ⊢
          obtain ⟨z0, z1⟩ := HZ.out
          have n' := later_cell z0
          have x' := later_cell z1
          have T1 : Hid (∀ i : Later W, Calls Tryz.prog 110 #[str n] i.now (BoolIs (nameB n) i.now)) := Lib.hid fun i => iNameOk_any n hsb _
          have T2 : Hid (∀ i : Later W, Calls Tryz.prog 109 #[.int .i64 x] i.now fun e w' => e = .returned (.bool (wordB x)) ∧ i.now = w') := Lib.hid fun i => iWordOk_any x _
          clear HZ z0 z1
          obtain ⟨g2, o2, he, -, hd2, -⟩ := HO.out.at_ hd
          injection he with he
          injection he with he1 he2
          subst he1 he2
          dsimp only at hd2
          have hd3 := later_cell hd2
          rw [hN] at T1
          rw [hW] at T2
          clear hN hW HO hd hd2
          refine region_later (by kernel_rfl) (by kernel_rfl) ?_
          repeat (go_big_quiet_step (first | (go_at_call 110; exact later_same (T1.out _)) | (go_at_call 109; exact later_same (T2.out _))))
          refine wpQuiet_nil ?_
          rintro w2 ⟨⟨_, hbk⟩, rfl⟩
          go_wp2_with fail
          go_ret
          exact ⟨ret_bool HE.out.symm, below_then HB.out hbk (Nat.le_refl _)⟩
        · have HE := Lib.hid (boxesTo_yes HV.out ((boxAt_s hb hd hN hW).trans hq))
          clear hb
          go_wp2_with fail
          generalize wr.alloc _ = W at HZ HO HB ⊢
          generalize wr.heap.size = z at HZ ⊢
          obtain ⟨z0, z1⟩ := HZ.out
          have n' := later_cell z0
          have x' := later_cell z1
          have T1 : Hid (∀ i : Later W, Calls Tryz.prog 110 #[str n] i.now (BoolIs (nameB n) i.now)) := Lib.hid fun i => iNameOk_any n hsb _
          have T2 : Hid (∀ i : Later W, Calls Tryz.prog 109 #[.int .i64 x] i.now fun e w' => e = .returned (.bool (wordB x)) ∧ i.now = w') := Lib.hid fun i => iWordOk_any x _
          clear HZ z0 z1
          obtain ⟨g2, o2, he, -, hd2, -⟩ := HO.out.at_ hd
          injection he with he
          injection he with he1 he2
          subst he1 he2
          dsimp only at hd2
          have hd3 := later_cell hd2
          rw [hN] at T1
          rw [hW] at T2
          clear hN hW HO hd hd2
          refine region_later (by kernel_rfl) (by kernel_rfl) ?_
          repeat (go_big_quiet_step (first | (go_at_call 110; exact later_same (T1.out _)) | (go_at_call 109; exact later_same (T2.out _))))
          refine wpQuiet_nil ?_
          rintro w2 ⟨⟨_, hbk⟩, rfl⟩
          go_wp2_with fail
          go_roundw
          case rel => exact ⟨j + 1 + 1, by omega, by go_num, HE.out, below_then HB.out hbk (Nat.le_refl _)⟩
          case measure => simp [intOf]; omega
    · obtain rfl : k = bs.length := by omega
      have HE := Lib.hid (boxesTo_end HV.out)
      go_wp2_with fail
      go_ret
      exact ⟨ret_bool (by rw [HE.out, decide_eq_true h12']), hbw⟩

end Go.Proofs.YtigcbegeaikfcaaGreatDoor
