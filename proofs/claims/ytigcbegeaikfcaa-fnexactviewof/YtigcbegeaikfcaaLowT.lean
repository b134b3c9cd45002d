/- How the laws count the size of what they are given. No program is named here. The laws' own helpers on lists of texts: their size, a copy, whether two are equal, marked, held. No conditions but those typed. The model's l1Int: a number's numeral. Condition: the number is an int64. The laws' own marks in lists of texts: markText, markStringS, heldStringS. No conditions but those typed. -/
import Derived.Test.YtigcbegeaikfcaaRows
import Derived.Test.YtigcbegeaikfcaaLowA
import Derived.WalkKit
import Derived.Deep.OwnRows
import Derived.Deep.QuietTactic
import Derived.BigQuiet
import Derived.Lib.ItoaLen
import Derived.Maps.AppendAt
namespace Go.Proofs.Ytigcbegeaikfcaa
set_option linter.unusedVariables false

/-- What is left when each of the lengths is taken off, one behind the other; -1 when it would fall below 0. -/
def szGo (left : Int) : List Nat → Int
  | [] => left
  | n :: r => if left < n then -1 else szGo (left - n) r
def szL (left : Int) (ls : List Nat) : Int := if left < ls.length then -1 else szGo (left - ls.length) ls
theorem szL_long {left : Int} {ls : List Nat} (h : left < ls.length) : szL left ls = -1 := by unfold szL; rw [if_pos h]
theorem szL_short {left : Int} {ls : List Nat} (h : ¬ left < ls.length) : szL left ls = szGo (left - ls.length) ls := by unfold szL; rw [if_neg h]
theorem szGo_no {x r : Int} {ls : List Nat} {k n : Nat} (h : szGo x (ls.drop k) = r) (hn : ls[k]? = some n) (hx : x < n) : r = -1 := by
  obtain ⟨hk, hg⟩ := List.getElem?_eq_some_iff.1 hn
  rw [← h, List.drop_eq_getElem_cons hk, hg, szGo, if_pos hx]
theorem szGo_yes {x r : Int} {ls : List Nat} {k n : Nat} (h : szGo x (ls.drop k) = r) (hn : ls[k]? = some n) (hx : ¬ x < n) : szGo (x - n) (ls.drop (k + 1)) = r := by
  obtain ⟨hk, hg⟩ := List.getElem?_eq_some_iff.1 hn
  rw [← h, List.drop_eq_getElem_cons hk, hg, szGo, if_neg hx]
theorem szGo_fits : ∀ {ls : List Nat} {left : Int}, 0 ≤ left → (szGo left ls = -1 ∨ (0 ≤ szGo left ls ∧ szGo left ls ≤ left ∧ ∀ n ∈ ls, (n : Int) ≤ left))
  | [], left, h => .inr ⟨h, Int.le_refl _, by simp⟩
  | n :: r, left, h => by
    unfold szGo
    by_cases q : left < n
    · rw [if_pos q]; exact .inl rfl
    · rw [if_neg q]
      rcases szGo_fits (ls := r) (left := left - n) (by omega) with e | ⟨e1, e2, e3⟩
      · exact .inl e
      · refine .inr ⟨e1, by omega, fun m hm => ?_⟩
        rcases List.mem_cons.1 hm with rfl | hm
        · omega
        · have := e3 m hm; omega
theorem szL_fits {ls : List Nat} {left : Int} (h : 0 ≤ left) : szL left ls = -1 ∨ (0 ≤ szL left ls ∧ szL left ls ≤ left ∧ (ls.length : Int) ≤ left ∧ ∀ n ∈ ls, (n : Int) ≤ left) := by
  unfold szL
  by_cases q : left < ls.length
  · rw [if_pos q]; exact .inl rfl
  · rw [if_neg q]
    rcases szGo_fits (ls := ls) (left := left - ls.length) (by omega) with e | ⟨e1, e2, e3⟩
    · exact .inl e
    · exact .inr ⟨e1, by omega, by omega, fun n hn => by have := e3 n hn; omega⟩

end Go.Proofs.Ytigcbegeaikfcaa

namespace Go.Proofs.Ytigcbegeaikfcaa
open Go.RowKit
set_option linter.unusedVariables false

theorem tx_at {w : World} {B : Nat} {A : Option Addr} {m c : Nat} {ss : List (List UInt8)} {k : Nat} {x : List UInt8} (h : SeeV w B (.slice A m c) (ss.map str)) (hx : ss[k]? = some x) :
    ∃ g o, A = some ⟨g, o, none⟩ ∧ g < B ∧ w.cell? ⟨g, o + k, none⟩ = some (str x) := h.at_ (by rw [List.getElem?_map, hx]; rfl)
theorem tx_shape {w : World} {B : Nat} {v : Value} {ss : List (List UInt8)} (h : SeeV w B v (ss.map str)) : ∃ A c, v = .slice A ss.length c := by
  obtain ⟨A, c, e⟩ := h.shape; exact ⟨A, c, by rw [e, List.length_map]⟩
theorem tx_len {w : World} {B : Nat} {v : Value} {ss : List (List UInt8)} (h : SeeV w B v (ss.map str)) : ss.length ≤ maxLen := by have := h.1; rwa [List.length_map] at this
theorem ret_num {a b : Int} (h : a = b) : Ending.returned (.int .i64 a) = .returned (.int .i64 b) := by rw [h]
theorem ret_tru {a b : Bool} (h : a = b) : Ending.returned (.bool a) = .returned (.bool b) := by rw [h]

def txLens (ss : List (List UInt8)) : List Nat := ss.map List.length
/-- No text is longer than an int64 says. -/
def fitS (ss : List (List UInt8)) : Prop := ∀ s ∈ ss, s.length ≤ 9223372036854775807

theorem sz_strs {ss : List (List UInt8)} {left : Int} (h : 0 ≤ szL left (txLens ss)) (h0 : 0 ≤ left) (h1 : left ≤ 1048576) : ss.length ≤ 1048576 ∧ (∀ s ∈ ss, s.length ≤ 1048576) ∧ szL left (txLens ss) ≤ 1048576 := by
  rcases szL_fits (ls := txLens ss) h0 with e | ⟨_, e1, e2, e3⟩
  · omega
  · refine ⟨by have : (txLens ss).length = ss.length := by simp [txLens]
               omega, fun s hs => ?_, by omega⟩
    have := e3 s.length (by unfold txLens; exact List.mem_map_of_mem hs)
    omega

theorem Try.infoStr : (Try.prog.info? 9).map (fun i => (i.zero, i.size, i.bytes)) = some (some (.string ⟨#[]⟩), 1, 16) := by kernel_rfl
theorem take_next {ss : List (List UInt8)} {k : Nat} {x : List UInt8} (hx : ss[k]? = some x) : (ss.take (k + 1)).map str = (ss.take k).map str ++ [str x] := by
  rw [List.take_add_one, hx]; simp

def eqT (xs ys : List (List UInt8)) : Bool := decide (xs = ys)
theorem eqT_same (xs : List (List UInt8)) : eqT xs xs = true := by simp [eqT]
theorem takeT_more {xs ys : List (List UInt8)} {k : Nat} {x : List UInt8} (h : xs.take k = ys.take k) (hx : xs[k]? = some x) (hy : ys[k]? = some x) : xs.take (k + 1) = ys.take (k + 1) := by
  rw [List.take_add_one, List.take_add_one, h, hx, hy]

end Go.Proofs.Ytigcbegeaikfcaa

namespace Go.Proofs.Ytigcbegeaikfcaa
open Go.RowKit
set_option linter.unusedVariables false

/-- What is told of a number u when the digits s behind it are told: all of its numeral. -/
def restD (u : Nat) (s : List UInt8) : List UInt8 := if u = 0 ∧ s ≠ [] then s else Lib.decDigits u ++ s
theorem restD_zero {s : List UInt8} (h : s ≠ []) : restD 0 s = s := by unfold restD; rw [if_pos ⟨rfl, h⟩]
theorem restD_nil (u : Nat) : restD u [] = Lib.decDigits u := by unfold restD; rw [if_neg (by simp), List.append_nil]
theorem restD_step {u : Nat} {s : List UInt8} (h : s = [] ∨ ¬ u = 0) : restD (u / 10) (UInt8.ofNat (48 + u % 10) :: s) = restD u s := by
  have h1 : restD u s = Lib.decDigits u ++ s := by
    unfold restD
    rw [if_neg]
    rintro ⟨a, b⟩
    rcases h with h | h
    · exact b h
    · exact h a
  rw [h1]
  by_cases hu : u < 10
  · rw [show u / 10 = 0 by omega, restD_zero (by simp), dec_small hu, show u % 10 = u by omega]; rfl
  · unfold restD
    rw [if_neg (by omega), dec_big hu, List.append_assoc]; rfl

def StrB (l : List UInt8) (w : World) (e : Ending) (w' : World) : Prop := e = .returned (str l) ∧ Below w.heap.size w w'

theorem tmod_neg (x : Nat) : (-(x : Int)).tmod 10 = -((x : Int) % 10) := by
  rw [Int.neg_tmod, Int.tmod_eq_emod_of_nonneg (by omega)]
theorem tdiv_neg (x : Nat) : (-(x : Int)).tdiv 10 = -((x / 10 : Nat) : Int) := by
  rw [Int.neg_tdiv, Int.tdiv_eq_ediv_of_nonneg (by omega)]; rfl

end Go.Proofs.Ytigcbegeaikfcaa

namespace Go.Proofs.Ytigcbegeaikfcaa
open Go.RowKit
set_option linter.unusedVariables false

/-- A number's digits; none of 0. -/
def digT (k : Nat) : List UInt8 := if h : k = 0 then [] else digT (k / 10) ++ [UInt8.ofNat (48 + k % 10)]
termination_by k
theorem digT_0 : digT 0 = [] := by rw [digT]; simp
theorem digT_s {k : Nat} (h : ¬ k = 0) : digT k = digT (k / 10) ++ [UInt8.ofNat (48 + k % 10)] := by
  conv => lhs; rw [digT]
  rw [dif_neg h]
def mkT (k : Nat) : List UInt8 := 109 :: digT k
/-- Marks from s on. -/
def mkTs (s n : Nat) : List (List UInt8) := (List.range n).map fun j => mkT (s + j)
theorem mkTs_length (s n : Nat) : (mkTs s n).length = n := by simp [mkTs]
theorem mkTs_at {s n k : Nat} (h : k < n) : (mkTs s n)[k]? = some (mkT (s + k)) := by simp [mkTs, h]
theorem mkTs_succ (s k : Nat) : mkTs s (k + 1) = mkTs s k ++ [mkT (s + k)] := by simp [mkTs, List.range_succ]

end Go.Proofs.Ytigcbegeaikfcaa
