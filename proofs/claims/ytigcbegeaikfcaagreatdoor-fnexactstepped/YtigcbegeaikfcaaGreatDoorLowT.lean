/- How the laws count the size of what they are given. No program is named here. The laws' own helpers on lists of texts: their size, a copy, whether two are equal, marked, held. No conditions but those typed. The model's l1Int: a number's numeral. Condition: the number is an int64. The laws' own marks in lists of texts: markText, markStringS, heldStringS. No conditions but those typed. -/
import Derived.Test.YtigcbegeaikfcaaGreatDoorRows
import Derived.Test.YtigcbegeaikfcaaGreatDoorLowA
import Derived.WalkKit
import Derived.Deep.OwnRows
import Derived.Deep.QuietTactic
import Derived.BigQuiet
import Derived.Lib.ItoaLen
import Derived.Maps.AppendAt
namespace Go.Proofs.YtigcbegeaikfcaaGreatDoor
set_option linter.unusedVariables false

/-- What is left when each of the lengths is taken off, one behind the other; -1 when it would fall below 0. -/
def szGo (left : Int) : List Nat → Int
  | [] => left
  | n :: r => if left < n then -1 else szGo (left - n) r
def szL (left : Int) (ls : List Nat) : Int := if left < ls.length then -1 else szGo (left - ls.length) ls
theorem szL_long {left : Int} {ls : List Nat} (h : left < ls.length) : szL left ls = -1 := by unfold szL; rw [if_pos h]
theorem szL_short {left : Int} {ls : List Nat} (h : ¬ left < ls.length) : szL left ls = szGo (left - ls.length) ls := by unfold szL; rw [if_neg h]
theorem szGo_no {x r : Int} {ls : List Nat} {k n : Nat} (h : szGo x (ls.drop k) = r) (hn : ls[k]? = some n) (hx : x < n) : r = -1 := by
  obtain ⟨hk, hg⟩ := List.getElem?_eq_some_iff.1 hn
  rw [← h, List.drop_eq_getElem_cons hk, hg, szGo, if_pos hx]
theorem szGo_yes {x r : Int} {ls : List Nat} {k n : Nat} (h : szGo x (ls.drop k) = r) (hn : ls[k]? = some n) (hx : ¬ x < n) : szGo (x - n) (ls.drop (k + 1)) = r := by
  obtain ⟨hk, hg⟩ := List.getElem?_eq_some_iff.1 hn
  rw [← h, List.drop_eq_getElem_cons hk, hg, szGo, if_neg hx]
theorem szGo_fits : ∀ {ls : List Nat} {left : Int}, 0 ≤ left → (szGo left ls = -1 ∨ (0 ≤ szGo left ls ∧ szGo left ls ≤ left ∧ ∀ n ∈ ls, (n : Int) ≤ left))
  | [], left, h => .inr ⟨h, Int.le_refl _, by simp⟩
  | n :: r, left, h => by
    unfold szGo
    by_cases q : left < n
    · rw [if_pos q]; exact .inl rfl
    · rw [if_neg q]
      rcases szGo_fits (ls := r) (left := left - n) (by omega) with e | ⟨e1, e2, e3⟩
      · exact .inl e
      · refine .inr ⟨e1, by omega, fun m hm => ?_⟩
        rcases List.mem_cons.1 hm with rfl | hm
        · omega
        · have := e3 m hm; omega
theorem szL_fits {ls : List Nat} {left : Int} (h : 0 ≤ left) : szL left ls = -1 ∨ (0 ≤ szL left ls ∧ szL left ls ≤ left ∧ (ls.length : Int) ≤ left ∧ ∀ n ∈ ls, (n : Int) ≤ left) := by
  unfold szL
  by_cases q : left < ls.length
  · rw [if_pos q]; exact .inl rfl
  · rw [if_neg q]
    rcases szGo_fits (ls := ls) (left := left - ls.length) (by omega) with e | ⟨e1, e2, e3⟩
    · exact .inl e
    · exact .inr ⟨e1, by omega, by omega, fun n hn => by have := e3 n hn; omega⟩

end Go.Proofs.YtigcbegeaikfcaaGreatDoor

namespace Go.Proofs.YtigcbegeaikfcaaGreatDoor
open Go.RowKit
set_option linter.unusedVariables false

theorem tx_at {w : World} {B : Nat} {A : Option Addr} {m c : Nat} {ss : List (List UInt8)} {k : Nat} {x : List UInt8} (h : SeeV w B (.slice A m c) (ss.map str)) (hx : ss[k]? = some x) :
    ∃ g o, A = some ⟨g, o, none⟩ ∧ g < B ∧ w.cell? ⟨g, o + k, none⟩ = some (str x) := h.at_ (by rw [List.getElem?_map, hx]; rfl)
theorem tx_shape {w : World} {B : Nat} {v : Value} {ss : List (List UInt8)} (h : SeeV w B v (ss.map str)) : ∃ A c, v = .slice A ss.length c := by
  obtain ⟨A, c, e⟩ := h.shape; exact ⟨A, c, by rw [e, List.length_map]⟩
theorem tx_len {w : World} {B : Nat} {v : Value} {ss : List (List UInt8)} (h : SeeV w B v (ss.map str)) : ss.length ≤ maxLen := by have := h.1; rwa [List.length_map] at this
theorem ret_num {a b : Int} (h : a = b) : Ending.returned (.int .i64 a) = .returned (.int .i64 b) := by rw [h]
theorem ret_tru {a b : Bool} (h : a = b) : Ending.returned (.bool a) = .returned (.bool b) := by rw [h]

def txLens (ss : List (List UInt8)) : List Nat := ss.map List.length
/-- No text is longer than an int64 says. -/
def fitS (ss : List (List UInt8)) : Prop := ∀ s ∈ ss, s.length ≤ 9223372036854775807

theorem sz_strs {ss : List (List UInt8)} {left : Int} (h : 0 ≤ szL left (txLens ss)) (h0 : 0 ≤ left) (h1 : left ≤ 1048576) : ss.length ≤ 1048576 ∧ (∀ s ∈ ss, s.length ≤ 1048576) ∧ szL left (txLens ss) ≤ 1048576 := by
  rcases szL_fits (ls := txLens ss) h0 with e | ⟨_, e1, e2, e3⟩
  · omega
  · refine ⟨by have : (txLens ss).length = ss.length := by simp [txLens]
               omega, fun s hs => ?_, by omega⟩
    have := e3 s.length (by unfold txLens; exact List.mem_map_of_mem hs)
    omega

theorem Tryz.infoStr : (Tryz.prog.info? 9).map (fun i => (i.zero, i.size, i.bytes)) = some (some (.string ⟨#[]⟩), 1, 16) := by kernel_rfl
theorem take_next {ss : List (List UInt8)} {k : Nat} {x : List UInt8} (hx : ss[k]? = some x) : (ss.take (k + 1)).map str = (ss.take k).map str ++ [str x] := by
  rw [List.take_add_one, hx]; simp

def eqT (xs ys : List (List UInt8)) : Bool := decide (xs = ys)
theorem eqT_same (xs : List (List UInt8)) : eqT xs xs = true := by simp [eqT]
theorem takeT_more {xs ys : List (List UInt8)} {k : Nat} {x : List UInt8} (h : xs.take k = ys.take k) (hx : xs[k]? = some x) (hy : ys[k]? = some x) : xs.take (k + 1) = ys.take (k + 1) := by
  rw [List.take_add_one, List.take_add_one, h, hx, hy]

end Go.Proofs.YtigcbegeaikfcaaGreatDoor

namespace Go.Proofs.YtigcbegeaikfcaaGreatDoor
open Go.RowKit
set_option linter.unusedVariables false

/-- What is told of a number u when the digits s behind it are told: all of its numeral. -/
def restD (u : Nat) (s : List UInt8) : List UInt8 := if u = 0 ∧ s ≠ [] then s else Lib.decDigits u ++ s
theorem restD_zero {s : List UInt8} (h : s ≠ []) : restD 0 s = s := by unfold restD; rw [if_pos ⟨rfl, h⟩]
theorem restD_nil (u : Nat) : restD u [] = Lib.decDigits u := by unfold restD; rw [if_neg (by simp), List.append_nil]
theorem restD_step {u : Nat} {s : List UInt8} (h : s = [] ∨ ¬ u = 0) : restD (u / 10) (UInt8.ofNat (48 + u % 10) :: s) = restD u s := by
  have h1 : restD u s = Lib.decDigits u ++ s := by
    unfold restD
    rw [if_neg]
    rintro ⟨a, b⟩
    rcases h with h | h
    · exact b h
    · exact h a
  rw [h1]
  by_cases hu : u < 10
  · rw [show u / 10 = 0 by omega, restD_zero (by simp), dec_small hu, show u % 10 = u by omega]; rfl
  · unfold restD
    rw [if_neg (by omega), dec_big hu, List.append_assoc]; rfl

def StrB (l : List UInt8) (w : World) (e : Ending) (w' : World) : Prop := e = .returned (str l) ∧ Below w.heap.size w w'

theorem restD_len {u v : Nat} {s : List UInt8} (h : restD u s = Lib.decDigits v) (hv : v < 18446744073709551616) : s.length ≤ 20 := by
  have h1 : s.length ≤ (restD u s).length := by
    unfold restD
    split
    · exact Nat.le_refl _
    · rw [List.length_append]; omega
  have h2 := Lib.nDigits_le20 v hv
  rw [← Lib.decDigits_length, ← h] at h2
  omega
/-- 'string([]byte{z})'. -/
theorem conv_digit (w : World) (z : Int) (b : UInt8) (hz : z = (b.toNat : Int)) :
    (convert 22 9 (.slice (some ⟨w.heap.size, 0, none⟩) 1 1)).run Tryz.prog (w.alloc (.cells #[.int .u8 z] 5)) = .ok (str [b]) (w.alloc (.cells #[.int .u8 z] 5)) := by
  subst hz
  refine conv_back (P := Tryz.prog) _ 22 9 5 (w.heap.size + 1) _ [b] Tryz.underlying22 Tryz.underlying5 Tryz.underlying9 ⟨by simp [maxLen], _, 1, rfl, Nat.le_refl _, fun k x hx => ?_⟩
  have hk := (List.getElem?_eq_some_iff.1 hx).1
  obtain rfl : k = 0 := by simp at hk; omega
  refine ⟨w.heap.size, 0, rfl, by omega, ?_⟩
  rw [cell_of_row _ _ _ _ _ (0, 0) (heap_alloc_new _ _)]
  simpa using hx
/-- 1 of the empty text, else 0. -/
def noText : Value → Nat
  | .string b => if b.size = 0 then 1 else 0
  | _ => 0
theorem noText_cons (b : UInt8) (t : List UInt8) : noText (str (b :: t)) = 0 := by simp [noText, ByteArray.size]
theorem noText_nil : noText (str []) = 1 := rfl
theorem noText_ne {t : List UInt8} (h : ¬ t = []) : noText (str t) = 0 := by
  cases t with
  | nil => exact absurd rfl h
  | cons b t => exact noText_cons b t
theorem dig_num (x : Nat) : (48 + (x : Int) % 10) = ((UInt8.ofNat (48 + x % 10)).toNat : Int) := by
  rw [toNat_dig (by omega)]; omega

theorem tmod_neg (x : Nat) : (-(x : Int)).tmod 10 = -((x : Int) % 10) := by
  rw [Int.neg_tmod, Int.tmod_eq_emod_of_nonneg (by omega)]
theorem tdiv_neg (x : Nat) : (-(x : Int)).tdiv 10 = -((x / 10 : Nat) : Int) := by
  rw [Int.neg_tdiv, Int.tdiv_eq_ediv_of_nonneg (by omega)]; rfl

set_option maxHeartbeats 2000000 in
set_option maxRecDepth 10000 in
theorem l1Int_pos (u : Nat) (hu : u ≤ 9223372036854775807) (w : World) : Calls Tryz.prog 170 #[.int .i64 ((u : Int))] w (StrB (Lib.decDigits u) w) := by
  have hneg : decide ((u : Int) < 0) = false := by simp
  go_enter Tryz.func170, Tryz.ntmps170
  go_wp2_with fail
  go_loopw [0, 3, 5] (fun n s _ wr => ∃ (x : Nat) (t : List UInt8), n = .int .i64 ((x : Int)) ∧ x ≤ 9223372036854775807 ∧ s = str t ∧ restD x t = Lib.decDigits u ∧ Below w.heap.size w wr) (fun n s _ _ => (intOf n).natAbs + noText s)
  case atStart => exact ⟨u, [], rfl, hu, rfl, restD_nil u, Below.refl _ _⟩
  case round =>
    obtain ⟨x, t, rfl, hx, rfl, hr, hb⟩ := hrel
    have htl := restD_len hr (by omega)
    by_cases hgo : t = [] ∨ ¬ x = 0
    · have HS := Lib.hid ((restD_step hgo).trans hr)
      have HM : Hid (x / 10 < x + noText (str t)) := Lib.hid (by
        rcases hgo with h | h
        · subst h; rw [noText_nil]; omega
        · omega)
      have hcv := conv_digit wr _ _ (dig_num x)
      generalize UInt8.ofNat (48 + x % 10) = b at HS hcv
      have HB : Hid (Below w.heap.size w (wr.alloc (.cells #[.int .u8 (48 + (x : Int) % 10)] 5))) := Lib.hid (hb.alloc hb.size _)
      have hap : (⟨#[b]⟩ : ByteArray) ++ ⟨t.toArray⟩ = ⟨(b :: t).toArray⟩ := mk_append [b] t
      have h0 : 0 ≤ (x : Int) % 10 := by omega
      have h9 : (x : Int) % 10 ≤ 9 := by omega
      have HG : Hid (t = [] ∨ (¬ t = [] ∧ ((x : Int) != 0) = true)) := Lib.hid (by
        by_cases h : t = []
        · exact .inl h
        · refine .inr ⟨h, ?_⟩
          rcases hgo with h' | h'
          · exact absurd h' h
          · simpa using h')
      clear hgo hr hb
      skip
      rcases HG.out with rfl | ⟨hne, hxe⟩
      · clear HG
        go_wp2_with fail
        go_roundw
        case rel => exact ⟨x / 10, b :: [], by go_num, by omega, rfl, HS.out, HB.out⟩
        case measure => have := HM.out; rw [noText_cons]; simp [intOf]; omega
      · clear HG
        have hie : t.isEmpty = false := by simpa using hne
        go_wp2_with fail
        go_roundw
        case rel => exact ⟨x / 10, b :: t, by go_num, by omega, rfl, HS.out, HB.out⟩
        case measure => have := HM.out; rw [noText_cons]; simp [intOf]; omega
    · have hne : ¬ t = [] := fun h => hgo (.inl h)
      have hie : t.isEmpty = false := by simpa using hne
      obtain rfl : x = 0 := by
        rcases Nat.eq_zero_or_pos x with h | h
        · exact h
        · exact absurd (.inr (by omega)) hgo
      rw [restD_zero hne] at hr
      have HR := Lib.hid hr
      clear hr hgo
      go_wp2_with fail
      go_ret
      exact ⟨by rw [← HR.out]; rfl, hb⟩

set_option maxHeartbeats 2000000 in
theorem l1Int_neg (u : Nat) (hu : u ≤ 9223372036854775808) (h1 : 1 ≤ u) (w : World) : Calls Tryz.prog 170 #[.int .i64 (-(u : Int))] w (StrB (45 :: Lib.decDigits u) w) := by
  have hneg : decide (0 < u) = true := by simp; omega
  go_enter Tryz.func170, Tryz.ntmps170
  go_wp2_with fail
  go_loopw [0, 3, 5] (fun n s _ wr => ∃ (x : Nat) (t : List UInt8), n = .int .i64 (-(x : Int)) ∧ x ≤ 9223372036854775808 ∧ s = str t ∧ restD x t = Lib.decDigits u ∧ Below w.heap.size w wr) (fun n s _ _ => (intOf n).natAbs + noText s)
  case atStart => exact ⟨u, [], rfl, hu, rfl, restD_nil u, Below.refl _ _⟩
  case round =>
    obtain ⟨x, t, rfl, hx, rfl, hr, hb⟩ := hrel
    have htl := restD_len hr (by omega)
    by_cases hgo : t = [] ∨ ¬ x = 0
    · have HS := Lib.hid ((restD_step hgo).trans hr)
      have HM : Hid (x / 10 < x + noText (str t)) := Lib.hid (by
        rcases hgo with h | h
        · subst h; rw [noText_nil]; omega
        · omega)
      have HD := Lib.hid (dig_num x)
      generalize UInt8.ofNat (48 + x % 10) = b at HS HD
      have hap : (⟨#[b]⟩ : ByteArray) ++ ⟨t.toArray⟩ = ⟨(b :: t).toArray⟩ := mk_append [b] t
      have HG : Hid (t = [] ∨ (¬ t = [] ∧ t.isEmpty = false ∧ (-(x : Int) != 0) = true)) := Lib.hid (by
        by_cases h : t = []
        · exact .inl h
        · refine .inr ⟨h, by simpa using h, ?_⟩
          rcases hgo with h' | h'
          · exact absurd h' h
          · simp; omega)
      clear hgo hr
      have n0 : -9223372036854775808 ≤ -(x : Int) := by omega
      have n1 : -(x : Int) ≤ 0 := by omega
      have ht := tmod_neg x
      have hq := tdiv_neg x
      have d0 : 0 ≤ (x : Int) % 10 := by omega
      have d9 : (x : Int) % 10 ≤ 9 := by omega
      have HZ : Hid ((-(x : Int)).natAbs = x) := Lib.hid (by omega)
      generalize (-(x : Int)) = z at n0 n1 ht hq HG HZ ⊢
      generalize (x : Int) % 10 = d at ht d0 d9 HD
      have y0 : -9223372036854775808 ≤ -((x / 10 : Nat) : Int) := by omega
      have y1 : -((x / 10 : Nat) : Int) ≤ 0 := by omega
      generalize hy : -((x / 10 : Nat) : Int) = y at hq y0 y1
      have HY := Lib.hid hy
      clear hy
      by_cases hd : d = 0
      · subst hd
        rw [Int.neg_zero] at ht
        have hcv := conv_digit wr 48 b (by rw [← HD.out]; rfl)
        have HB : Hid (Below w.heap.size w (wr.alloc (.cells #[.int .u8 48] 5))) := Lib.hid (hb.alloc hb.size _)
        clear hb HD d0 d9
        rcases HG.out with rfl | ⟨hne, hie, hxe⟩
        all_goals
          clear HG
          go_wp2_with fail
          go_roundw
          case rel => exact ⟨x / 10, b :: _, by rw [HY.out], by omega, rfl, HS.out, HB.out⟩
          case measure => have h1 := HM.out; have h2 := HZ.out; have h3 := HY.out; rw [noText_cons]; simp only [intOf]; omega
      · have hd' : 0 < d := by omega
        have hcv := conv_digit wr (48 + d) b HD.out
        have HB : Hid (Below w.heap.size w (wr.alloc (.cells #[.int .u8 (48 + d)] 5))) := Lib.hid (hb.alloc hb.size _)
        clear hb HD hd
        rcases HG.out with rfl | ⟨hne, hie, hxe⟩
        all_goals
          clear HG
          go_wp2_with fail
          go_roundw
          case rel => exact ⟨x / 10, b :: _, by rw [HY.out], by omega, rfl, HS.out, HB.out⟩
          case measure => have h1 := HM.out; have h2 := HZ.out; have h3 := HY.out; rw [noText_cons]; simp only [intOf]; omega
    · have hne : ¬ t = [] := fun h => hgo (.inl h)
      have hie : t.isEmpty = false := by simpa using hne
      obtain rfl : x = 0 := by
        rcases Nat.eq_zero_or_pos x with h | h
        · exact h
        · exact absurd (.inr (by omega)) hgo
      rw [restD_zero hne] at hr
      have HR := Lib.hid hr
      have hap : (⟨#[45]⟩ : ByteArray) ++ ⟨t.toArray⟩ = ⟨(45 :: t).toArray⟩ := mk_append [45] t
      clear hr hgo
      go_wp2_with fail
      go_ret
      exact ⟨by rw [← HR.out]; rfl, hb⟩

/-- A number's numeral. -/
theorem l1Int_any (n : Int) (h0 : -9223372036854775808 ≤ n) (h1 : n ≤ 9223372036854775807) (w : World) : Calls Tryz.prog 170 #[.int .i64 n] w (StrB (Lib.itoa n) w) := by
  by_cases h : n < 0
  · obtain ⟨u, rfl⟩ : ∃ u : Nat, n = -(u : Int) := ⟨n.natAbs, by omega⟩
    rw [Lib.itoa_neg u (by omega)]
    exact l1Int_neg u (by omega) (by omega) w
  · obtain ⟨u, rfl⟩ : ∃ u : Nat, n = (u : Int) := ⟨n.toNat, by omega⟩
    rw [Lib.itoa_nonneg]
    exact l1Int_pos u (by omega) w

end Go.Proofs.YtigcbegeaikfcaaGreatDoor

namespace Go.Proofs.YtigcbegeaikfcaaGreatDoor
open Go.RowKit
set_option linter.unusedVariables false

/-- A number's digits; none of 0. -/
def digT (k : Nat) : List UInt8 := if h : k = 0 then [] else digT (k / 10) ++ [UInt8.ofNat (48 + k % 10)]
termination_by k
theorem digT_0 : digT 0 = [] := by rw [digT]; simp
theorem digT_s {k : Nat} (h : ¬ k = 0) : digT k = digT (k / 10) ++ [UInt8.ofNat (48 + k % 10)] := by
  conv => lhs; rw [digT]
  rw [dif_neg h]
def mkT (k : Nat) : List UInt8 := 109 :: digT k
/-- Marks from s on. -/
def mkTs (s n : Nat) : List (List UInt8) := (List.range n).map fun j => mkT (s + j)
theorem mkTs_length (s n : Nat) : (mkTs s n).length = n := by simp [mkTs]
theorem mkTs_at {s n k : Nat} (h : k < n) : (mkTs s n)[k]? = some (mkT (s + k)) := by simp [mkTs, h]
theorem mkTs_succ (s k : Nat) : mkTs s (k + 1) = mkTs s k ++ [mkT (s + k)] := by simp [mkTs, List.range_succ]

set_option maxHeartbeats 2000000 in
set_option maxRecDepth 10000 in
theorem markText_any (k : Nat) (h1 : 1 ≤ k) (h2 : k ≤ 4194304) (w : World) : Calls Tryz.prog 83 #[.int .i64 k] w (StrB (mkT k) w) := by
  unfold mkT
  have hk0 : ¬ (k : Int) ≤ 0 := by omega
  go_enter Tryz.func83, Tryz.ntmps83
  go_wp2_with fail
  go_loopw [0, 3] (fun n s wr => ∃ (x : Nat) (t : List UInt8), n = .int .i64 x ∧ s = str t ∧ digT x ++ t = digT k ∧ t.length + x ≤ k ∧ Below w.heap.size w wr) (fun n _ _ => (intOf n).toNat)
  case atStart => exact ⟨k, [], rfl, rfl, List.append_nil _, by simp, Below.refl _ _⟩
  case round =>
    obtain ⟨x, t, rfl, rfl, hr, hl, hb⟩ := hrel
    clear hk0
    by_cases hx : x = 0
    · subst hx
      rw [digT_0, List.nil_append] at hr
      have HR := Lib.hid hr
      have hap : (⟨#[109]⟩ : ByteArray) ++ ⟨t.toArray⟩ = ⟨(109 :: t).toArray⟩ := mk_append [109] t
      clear hr
      go_wp2_with fail
      go_ret
      exact ⟨by rw [← HR.out]; rfl, hb⟩
    · have HS : Hid (digT (x / 10) ++ UInt8.ofNat (48 + x % 10) :: t = digT k) := Lib.hid (by rw [← hr, digT_s hx, List.append_assoc]; rfl)
      have hcv := conv_digit wr _ _ (dig_num x)
      generalize UInt8.ofNat (48 + x % 10) = b at HS hcv
      have HB : Hid (Below w.heap.size w (wr.alloc (.cells #[.int .u8 (48 + (x : Int) % 10)] 5))) := Lib.hid (hb.alloc hb.size _)
      have hap : (⟨#[b]⟩ : ByteArray) ++ ⟨t.toArray⟩ = ⟨(b :: t).toArray⟩ := mk_append [b] t
      have h0 : 0 ≤ (x : Int) % 10 := by omega
      have h9 : (x : Int) % 10 ≤ 9 := by omega
      have hxp : 0 < x := by omega
      clear hr hb hx
      go_wp2_with fail
      go_roundw
      case rel => exact ⟨x / 10, b :: t, by go_num, rfl, HS.out, by simp; omega, HB.out⟩
      case measure => simp [intOf]; omega

end Go.Proofs.YtigcbegeaikfcaaGreatDoor
