/- Sets of six ranks as numbers, and ladders (six sets) as relations: plain mathematics; no function of the program is named. -/
import Derived.Test.YtigcbegeaikfcaaSetD
namespace Go.Proofs.Ytigcbegeaikfcaa
open Go.RowKit
set_option linter.unusedVariables false

/-- The number of the set of those x below 6 of which p holds. -/
def setN (p : Nat → Bool) : Int := (if p 0 then 1 else 0) + (if p 1 then 2 else 0) + (if p 2 then 4 else 0) + (if p 3 then 8 else 0) + (if p 4 then 16 else 0) + (if p 5 then 32 else 0)
theorem setN_congr {p q : Nat → Bool} (h : ∀ x, x < 6 → p x = q x) : setN p = setN q := by
  unfold setN; rw [h 0 (by omega), h 1 (by omega), h 2 (by omega), h 3 (by omega), h 4 (by omega), h 5 (by omega)]
def six (a b c d e f : Bool) (x : Nat) : Bool := [a, b, c, d, e, f].getD x false
theorem setN_six (p : Nat → Bool) : setN p = setN (six (p 0) (p 1) (p 2) (p 3) (p 4) (p 5)) := by
  refine setN_congr fun x hx => ?_
  have h : x = 0 ∨ x = 1 ∨ x = 2 ∨ x = 3 ∨ x = 4 ∨ x = 5 := by omega
  rcases h with rfl | rfl | rfl | rfl | rfl | rfl <;> rfl
theorem setN_range (p : Nat → Bool) : 0 ≤ setN p ∧ setN p ≤ 63 := by
  rw [setN_six]; generalize p 0 = a; generalize p 1 = b; generalize p 2 = c; generalize p 3 = d; generalize p 4 = e; generalize p 5 = f
  revert a b c d e f; decide +kernel
theorem lt6 {P : Nat → Prop} (h : ∀ x : Fin 6, P x) (x : Nat) (hx : x < 6) : P x := h ⟨x, hx⟩
theorem bit_setN (p : Nat → Bool) (x : Nat) (hx : x < 6) : bitB (setN p) x = p x := by
  have h : ∀ a b c d e f : Bool, ∀ x : Fin 6, bitB (setN (six a b c d e f)) ((x : Nat) : Int) = six a b c d e f x := by decide +kernel
  rw [setN_six, h (p 0) (p 1) (p 2) (p 3) (p 4) (p 5) ⟨x, hx⟩]
  have h : x = 0 ∨ x = 1 ∨ x = 2 ∨ x = 3 ∨ x = 4 ∨ x = 5 := by omega
  rcases h with rfl | rfl | rfl | rfl | rfl | rfl <;> rfl
theorem setN_or (p : Nat → Bool) (k : Nat) (hk : k < 6) : bits BinOp.or IntKind.i64 (setN p) (wrap64 (2 ^ k)) = setN fun x => p x || x == k := by
  have h : ∀ a b c d e f : Bool, ∀ k : Fin 6, bits BinOp.or IntKind.i64 (setN (six a b c d e f)) (wrap64 (2 ^ (k : Nat))) = setN fun x => six a b c d e f x || x == (k : Nat) := by decide +kernel
  rw [setN_six p, h (p 0) (p 1) (p 2) (p 3) (p 4) (p 5) ⟨k, hk⟩]
  refine setN_congr fun x hx => ?_
  have h : x = 0 ∨ x = 1 ∨ x = 2 ∨ x = 3 ∨ x = 4 ∨ x = 5 := by omega
  rcases h with rfl | rfl | rfl | rfl | rfl | rfl <;> rfl
theorem setN_bits (s : Int) (h0 : 0 ≤ s) (h1 : s ≤ 63) : setN (fun x => bitB s x) = s := by
  have h : ∀ i : Fin 64, setN (fun x => bitB ((i : Nat) : Int) x) = ((i : Nat) : Int) := by decide +kernel
  have := h ⟨s.toNat, by omega⟩
  rwa [show ((s.toNat : Nat) : Int) = s from by omega] at this
theorem all64 {P : Int → Prop} (h : ∀ i : Fin 64, P ((i : Nat) : Int)) (s : Int) (h0 : 0 ≤ s) (h1 : s ≤ 63) : P s := by
  have := h ⟨s.toNat, by omega⟩
  rwa [show ((s.toNat : Nat) : Int) = s from by omega] at this
theorem and_range (s t : Int) (h0 : 0 ≤ s) (h1 : s ≤ 63) (h2 : 0 ≤ t) (h3 : t ≤ 63) : bits BinOp.and IntKind.i64 s t = setN fun x => bitB s x && bitB t x := by
  revert s t
  have h : ∀ i j : Fin 64, bits BinOp.and IntKind.i64 ((i : Nat) : Int) ((j : Nat) : Int) = setN fun x => bitB ((i : Nat) : Int) x && bitB ((j : Nat) : Int) x := by decide +kernel
  intro s t h0 h1 h2 h3
  have := h ⟨s.toNat, by omega⟩ ⟨t.toNat, by omega⟩
  rwa [show ((s.toNat : Nat) : Int) = s from by omega, show ((t.toNat : Nat) : Int) = t from by omega] at this
theorem or_range (s t : Int) (h0 : 0 ≤ s) (h1 : s ≤ 63) (h2 : 0 ≤ t) (h3 : t ≤ 63) : bits BinOp.or IntKind.i64 s t = setN fun x => bitB s x || bitB t x := by
  revert s t
  have h : ∀ i j : Fin 64, bits BinOp.or IntKind.i64 ((i : Nat) : Int) ((j : Nat) : Int) = setN fun x => bitB ((i : Nat) : Int) x || bitB ((j : Nat) : Int) x := by decide +kernel
  intro s t h0 h1 h2 h3
  have := h ⟨s.toNat, by omega⟩ ⟨t.toNat, by omega⟩
  rwa [show ((s.toNat : Nat) : Int) = s from by omega, show ((t.toNat : Nat) : Int) = t from by omega] at this
theorem setN_and (p q : Nat → Bool) : bits BinOp.and IntKind.i64 (setN p) (setN q) = setN fun x => p x && q x := by
  rw [and_range _ _ (setN_range p).1 (setN_range p).2 (setN_range q).1 (setN_range q).2]
  exact setN_congr fun x hx => by rw [bit_setN p x hx, bit_setN q x hx]
theorem setN_both (p q : Nat → Bool) : bits BinOp.or IntKind.i64 (setN p) (setN q) = setN fun x => p x || q x := by
  rw [or_range _ _ (setN_range p).1 (setN_range p).2 (setN_range q).1 (setN_range q).2]
  exact setN_congr fun x hx => by rw [bit_setN p x hx, bit_setN q x hx]
theorem setN_inj {p q : Nat → Bool} (h : setN p = setN q) (x : Nat) (hx : x < 6) : p x = q x := by
  rw [← bit_setN p x hx, h, bit_setN q x hx]
theorem setN_first (n : Nat) (hn : n ≤ 6) : setN (fun x => decide (x < n)) = 2 ^ n - 1 := by
  have h : n = 0 ∨ n = 1 ∨ n = 2 ∨ n = 3 ∨ n = 4 ∨ n = 5 ∨ n = 6 := by omega
  rcases h with rfl | rfl | rfl | rfl | rfl | rfl | rfl <;> decide +kernel
theorem mem_setN (p : Nat → Bool) : memB (setN p) = sel (fun i => p i.toNat) 6 := by
  rw [memB_yes (inB_yes (setN_range p))]
  exact sel_congr 6 fun j hj => by rw [bit_setN p j hj, Int.toNat_natCast]

/-- The ladder of a relation: of each b the set of those x that R b x. -/
def ladR (R : Nat → Nat → Bool) : List Int := (List.range 6).map fun b => setN (R b)
theorem ladR_len (R : Nat → Nat → Bool) : (ladR R).length = 6 := by simp [ladR]
theorem ladR_at (R : Nat → Nat → Bool) (b : Nat) (hb : b < 6) : (ladR R).getD b 0 = setN (R b) := by simp [ladR, hb]
theorem ladR_congr {R S : Nat → Nat → Bool} (h : ∀ b x, b < 6 → x < 6 → R b x = S b x) : ladR R = ladR S := by
  unfold ladR
  refine List.map_congr_left fun b hb => ?_
  rw [List.mem_range] at hb
  exact setN_congr fun x hx => h b x hb hx
theorem ladR_inj {R S : Nat → Nat → Bool} (h : ladR R = ladR S) (b x : Nat) (hb : b < 6) (hx : x < 6) : R b x = S b x := by
  have h1 : (ladR R).getD b 0 = (ladR S).getD b 0 := by rw [h]
  rw [ladR_at R b hb, ladR_at S b hb] at h1
  exact setN_inj h1 x hx
theorem ladR_set (R : Nat → Nat → Bool) (k : Nat) (hk : k < 6) (q : Nat → Bool) : (ladR R).set k (setN q) = ladR fun b x => if b = k then q x else R b x := by
  refine List.ext_getElem (by simp [ladR]) fun j h1 h2 => ?_
  rw [List.getElem_set]
  split
  · rename_i e; subst e; simp [ladR]
  · rename_i e
    have e' : ¬ j = k := fun h => e h.symm
    simp [ladR, e']
theorem ladR_zero : ladR (fun _ _ => false) = [0, 0, 0, 0, 0, 0] := by decide +kernel

end Go.Proofs.Ytigcbegeaikfcaa
