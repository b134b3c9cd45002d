/- How the laws count the size of what they are given. No program is named here. The laws' own helpers on lists of texts: their size, a copy, whether two are equal, marked, held. No conditions but those typed. The model's l1Int: a number's numeral. Condition: the number is an int64. The laws' own marks in lists of texts: markText, markStringS, heldStringS. No conditions but those typed. -/
import Derived.Test.YtbpgleebfiiggaaGreatDoorRows
import Derived.Test.YtbpgleebfiiggaaGreatDoorLowA
import Derived.WalkKit
import Derived.Deep.OwnRows
import Derived.Deep.QuietTactic
import Derived.BigQuiet
import Derived.Lib.ItoaLen
import Derived.Maps.AppendAt
namespace Go.Proofs.YtbpgleebfiiggaaGreatDoor
set_option linter.unusedVariables false

/-- What is left when each of the lengths is taken off, one behind the other; -1 when it would fall below 0. -/
def szGo (left : Int) : List Nat → Int
  | [] => left
  | n :: r => if left < n then -1 else szGo (left - n) r
def szL (left : Int) (ls : List Nat) : Int := if left < ls.length then -1 else szGo (left - ls.length) ls
theorem szL_long {left : Int} {ls : List Nat} (h : left < ls.length) : szL left ls = -1 := by unfold szL; rw [if_pos h]
theorem szL_short {left : Int} {ls : List Nat} (h : ¬ left < ls.length) : szL left ls = szGo (left - ls.length) ls := by unfold szL; rw [if_neg h]
theorem szGo_no {x r : Int} {ls : List Nat} {k n : Nat} (h : szGo x (ls.drop k) = r) (hn : ls[k]? = some n) (hx : x < n) : r = -1 := by
  obtain ⟨hk, hg⟩ := List.getElem?_eq_some_iff.1 hn
  rw [← h, List.drop_eq_getElem_cons hk, hg, szGo, if_pos hx]
theorem szGo_yes {x r : Int} {ls : List Nat} {k n : Nat} (h : szGo x (ls.drop k) = r) (hn : ls[k]? = some n) (hx : ¬ x < n) : szGo (x - n) (ls.drop (k + 1)) = r := by
  obtain ⟨hk, hg⟩ := List.getElem?_eq_some_iff.1 hn
  rw [← h, List.drop_eq_getElem_cons hk, hg, szGo, if_neg hx]
theorem szGo_fits : ∀ {ls : List Nat} {left : Int}, 0 ≤ left → (szGo left ls = -1 ∨ (0 ≤ szGo left ls ∧ szGo left ls ≤ left ∧ ∀ n ∈ ls, (n : Int) ≤ left))
  | [], left, h => .inr ⟨h, Int.le_refl _, by simp⟩
  | n :: r, left, h => by
    unfold szGo
    by_cases q : left < n
    · rw [if_pos q]; exact .inl rfl
    · rw [if_neg q]
      rcases szGo_fits (ls := r) (left := left - n) (by omega) with e | ⟨e1, e2, e3⟩
      · exact .inl e
      · refine .inr ⟨e1, by omega, fun m hm => ?_⟩
        rcases List.mem_cons.1 hm with rfl | hm
        · omega
        · have := e3 m hm; omega
theorem szL_fits {ls : List Nat} {left : Int} (h : 0 ≤ left) : szL left ls = -1 ∨ (0 ≤ szL left ls ∧ szL left ls ≤ left ∧ (ls.length : Int) ≤ left ∧ ∀ n ∈ ls, (n : Int) ≤ left) := by
  unfold szL
  by_cases q : left < ls.length
  · rw [if_pos q]; exact .inl rfl
  · rw [if_neg q]
    rcases szGo_fits (ls := ls) (left := left - ls.length) (by omega) with e | ⟨e1, e2, e3⟩
    · exact .inl e
    · exact .inr ⟨e1, by omega, by omega, fun n hn => by have := e3 n hn; omega⟩

end Go.Proofs.YtbpgleebfiiggaaGreatDoor

namespace Go.Proofs.YtbpgleebfiiggaaGreatDoor
open Go.RowKit
set_option linter.unusedVariables false

theorem tx_at {w : World} {B : Nat} {A : Option Addr} {m c : Nat} {ss : List (List UInt8)} {k : Nat} {x : List UInt8} (h : SeeV w B (.slice A m c) (ss.map str)) (hx : ss[k]? = some x) :
    ∃ g o, A = some ⟨g, o, none⟩ ∧ g < B ∧ w.cell? ⟨g, o + k, none⟩ = some (str x) := h.at_ (by rw [List.getElem?_map, hx]; rfl)
theorem tx_shape {w : World} {B : Nat} {v : Value} {ss : List (List UInt8)} (h : SeeV w B v (ss.map str)) : ∃ A c, v = .slice A ss.length c := by
  obtain ⟨A, c, e⟩ := h.shape; exact ⟨A, c, by rw [e, List.length_map]⟩
theorem tx_len {w : World} {B : Nat} {v : Value} {ss : List (List UInt8)} (h : SeeV w B v (ss.map str)) : ss.length ≤ maxLen := by have := h.1; rwa [List.length_map] at this
theorem ret_num {a b : Int} (h : a = b) : Ending.returned (.int .i64 a) = .returned (.int .i64 b) := by rw [h]
theorem ret_tru {a b : Bool} (h : a = b) : Ending.returned (.bool a) = .returned (.bool b) := by rw [h]

def txLens (ss : List (List UInt8)) : List Nat := ss.map List.length
/-- No text is longer than an int64 says. -/
def fitS (ss : List (List UInt8)) : Prop := ∀ s ∈ ss, s.length ≤ 9223372036854775807

set_option maxHeartbeats 1000000 in
theorem szStrs_any (B : Nat) (v : Value) (ss : List (List UInt8)) (left : Int) (h0 : 0 ≤ left) (h1 : left ≤ 1048576) (w : World) (h : SeeV w B v (ss.map str)) (hF : fitS ss) : Calls Tryz.prog 38 #[v, .int .i64 left] w fun e w' => e = .returned (.int .i64 (szL left (txLens ss))) ∧ w = w' := by
  have hm := tx_len h
  unfold maxLen at hm
  obtain ⟨A, c, rfl⟩ := tx_shape h
  have HL : Hid ((txLens ss).length = ss.length) := Lib.hid (by simp [txLens])
  by_cases hl : left < ss.length
  · have HE : Hid (szL left (txLens ss) = -1) := Lib.hid (szL_long (by rw [HL.out]; exact hl))
    have h2 : left - (ss.length : Int) < 0 := by omega
    go_enter Tryz.func38, Tryz.ntmps38
    go_wp2_with fail
    go_ret
    exact ⟨ret_num HE.out.symm, rfl⟩
  have HE : Hid (szL left (txLens ss) = szGo (left - ss.length) (txLens ss)) := Lib.hid (by rw [szL_short (by rw [HL.out]; exact hl), HL.out])
  have h2 : ¬ left - (ss.length : Int) < 0 := by omega
  go_enter Tryz.func38, Tryz.ntmps38
  go_wp2_with fail
  go_loopw [1, 5] (fun q i wr => ∃ (k : Nat) (x : Int), k ≤ ss.length ∧ i = .int .i64 k ∧ q = .int .i64 x ∧ 0 ≤ x ∧ x ≤ 1048576 ∧ szGo x ((txLens ss).drop k) = szL left (txLens ss) ∧ w = wr) (fun _ i _ => ss.length - (intOf i).toNat)
  case atStart => exact ⟨0, _, Nat.zero_le _, rfl, rfl, by omega, by omega, HE.out.symm, rfl⟩
  case round =>
    obtain ⟨k, x, hk, rfl, rfl, x0, x1, hv, rfl⟩ := hrel
    have HV := Lib.hid hv
    clear hv HE h2
    by_cases hlt : k < ss.length
    · have hb := List.getElem?_eq_getElem hlt
      generalize ss[k] = n at hb
      have hsb := hF n (List.mem_of_getElem? hb)
      obtain ⟨g, o, rfl, -, hn⟩ := tx_at h hb
      have HK : Hid ((txLens ss)[k]? = some n.length) := Lib.hid (by simp [txLens, hb])
      clear hb h
      by_cases hq : x < n.length
      · have HE := Lib.hid (szGo_no HV.out HK.out hq)
        have q1 : x - (n.length : Int) < 0 := by omega
        go_wp2_with fail
        go_ret
        exact ⟨ret_num HE.out.symm, rfl⟩
      · have HE := Lib.hid (szGo_yes HV.out HK.out hq)
        have q1 : ¬ x - (n.length : Int) < 0 := by omega
        go_wp2_with fail
        go_roundw
        case rel => exact ⟨k + 1, _, by omega, by go_num, rfl, by omega, by omega, HE.out, by first | rfl | trivial⟩
        case measure => simp [intOf]; omega
    · obtain rfl : k = ss.length := by omega
      have HE : Hid (szL left (txLens ss) = x) := Lib.hid (by rw [← HV.out, List.drop_of_length_le (by rw [HL.out]; exact Nat.le_refl _)]; rfl)
      go_wp2_with fail
      go_ret
      exact ⟨ret_num HE.out.symm, rfl⟩

theorem sz_strs {ss : List (List UInt8)} {left : Int} (h : 0 ≤ szL left (txLens ss)) (h0 : 0 ≤ left) (h1 : left ≤ 1048576) : ss.length ≤ 1048576 ∧ (∀ s ∈ ss, s.length ≤ 1048576) ∧ szL left (txLens ss) ≤ 1048576 := by
  rcases szL_fits (ls := txLens ss) h0 with e | ⟨_, e1, e2, e3⟩
  · omega
  · refine ⟨by have : (txLens ss).length = ss.length := by simp [txLens]
               omega, fun s hs => ?_, by omega⟩
    have := e3 s.length (by unfold txLens; exact List.mem_map_of_mem hs)
    omega

theorem Tryz.infoStr : (Tryz.prog.info? 9).map (fun i => (i.zero, i.size, i.bytes)) = some (some (.string ⟨#[]⟩), 1, 16) := by kernel_rfl
theorem take_next {ss : List (List UInt8)} {k : Nat} {x : List UInt8} (hx : ss[k]? = some x) : (ss.take (k + 1)).map str = (ss.take k).map str ++ [str x] := by
  rw [List.take_add_one, hx]; simp

set_option maxHeartbeats 1000000 in
theorem toStrs_any (B : Nat) (v : Value) (ss : List (List UInt8)) (hn : ss.length ≤ 1048576) (w : World) (hs : SeeV w B v (ss.map str)) (hB : B ≤ w.heap.size) : Calls Tryz.prog 39 #[v] w fun e w' =>
    ∃ v', e = .returned v' ∧ OwnV w' w.heap.size 9 v' (ss.map str) ∧ Below w.heap.size w w' := by
  obtain ⟨A, c, rfl⟩ := tx_shape hs
  have hmk := fun W => run_make_row' (P := Tryz.prog) 24 9 (.string ⟨#[]⟩) 16 Tryz.underlying24 Tryz.infoStr rfl .i64 .i64 ss.length (by omega) (by omega) W
  go_enter Tryz.func39, Tryz.ntmps39
  go_wp2_with fail
  clear hmk
  generalize hcur : madeCells _ ss.length = cur0
  have HS : Hid (cur0.size = ss.length) := Lib.hid (by rw [← hcur, size_madeCells])
  clear hcur
  have H0 : Hid ((w.alloc (.cells cur0 9)).heap[w.heap.size]? = some (.cells cur0 9 (0, 0))) := Lib.hid (heap_alloc_new _ _)
  have B0 : Below w.heap.size w (w.alloc (.cells cur0 9)) := (Below.refl _ _).alloc (Nat.le_refl _) _
  go_loopw [4] (fun i wr => ∃ (k : Nat) (cur : Array Value), k ≤ ss.length ∧ i = .int .i64 k ∧ wr.heap[w.heap.size]? = some (.cells cur 9 (0, 0)) ∧ cur.size = ss.length ∧
      cur.toList.take k = (ss.take k).map str ∧ Below w.heap.size w wr) (fun i _ => ss.length - (intOf i).toNat)
  case atStart => exact ⟨0, _, Nat.zero_le _, rfl, H0.out, HS.out, by simp, B0⟩
  case round =>
    obtain ⟨k, cur, hk, rfl, hh, hsz, htk, hb⟩ := hrel
    have HH := Lib.hid hh
    have HZ := Lib.hid hsz
    have HT := Lib.hid htk
    clear hh hsz htk
    by_cases hlt : k < ss.length
    · have hk' : k < cur.size := by have := HZ.out; omega
      have hx := List.getElem?_eq_getElem hlt
      generalize ss[k] = x at hx
      obtain ⟨g, o, rfl, -, hcx⟩ := tx_at (hs.below (hb.mono hB)) hx
      have HX := Lib.hid hx
      clear hx
      have hcell : wr.cell? ⟨w.heap.size, k, none⟩ = some cur[k] := by rw [cell_of_row wr _ k cur _ (0, 0) HH.out]; exact Array.getElem?_eq_getElem hk'
      have hfz : wr.frozen? ⟨w.heap.size, k, none⟩ = false := frozen_row HH.out
      go_wp2
      go_roundw
      case rel => exact ⟨k + 1, _, by omega, by go_num, heap_set HH.out _, by rw [Array.size_setIfInBounds]; exact HZ.out, by rw [take_next HX.out]; exact take_set HT.out hk', hb.setCell (Nat.le_refl _) _⟩
      case measure => simp [intOf]; omega
    · obtain rfl : ss.length = k := by omega
      go_wp2
      go_ret
      refine ⟨_, rfl, ⟨by simp, .inr ⟨w.heap.size, ss.length, cur, by simp, Nat.le_refl _, HH.out, by simp, by unfold maxLen; omega, by have := HZ.out; simpa using this, ?_⟩⟩, hb⟩
      have := HT.out
      rw [List.take_of_length_le (i := ss.length) (l := ss) (Nat.le_refl _)] at this
      simpa using this

def eqT (xs ys : List (List UInt8)) : Bool := decide (xs = ys)
theorem eqT_same (xs : List (List UInt8)) : eqT xs xs = true := by simp [eqT]
theorem takeT_more {xs ys : List (List UInt8)} {k : Nat} {x : List UInt8} (h : xs.take k = ys.take k) (hx : xs[k]? = some x) (hy : ys[k]? = some x) : xs.take (k + 1) = ys.take (k + 1) := by
  rw [List.take_add_one, List.take_add_one, h, hx, hy]

set_option maxHeartbeats 1000000 in
theorem eqStrs_any (B : Nat) (va vb : Value) (xs ys : List (List UInt8)) (w : World) (ha : SeeV w B va (xs.map str)) (hb : SeeV w B vb (ys.map str)) :
    Calls Tryz.prog 41 #[va, vb] w fun e w' => e = .returned (.bool (eqT xs ys)) ∧ ∃ n, w' = w.drewN n := by
  obtain ⟨A, ca, rfl⟩ := tx_shape ha
  obtain ⟨A', cb, rfl⟩ := tx_shape hb
  have hm := tx_len ha
  have hm' := tx_len hb
  unfold maxLen at hm hm'
  by_cases hl : xs.length = ys.length
  · have hb1 : ((xs.length : Int) != (ys.length : Int)) = false := by simp [hl]
    have Hl := Lib.hid hl
    clear hl
    go_enter Tryz.func41, Tryz.ntmps41
    go_wp2
    clear hb1
    go_loopw [5] (fun i wr => ∃ k m : Nat, k ≤ xs.length ∧ i = .int .i64 k ∧ xs.take k = ys.take k ∧ wr = w.drewN m) (fun i _ => xs.length - (intOf i).toNat)
    case atStart => exact ⟨0, 0, Nat.zero_le _, rfl, rfl, rfl⟩
    case round =>
      obtain ⟨k, m, hk, rfl, ht, rfl⟩ := hrel
      have HT := Lib.hid ht
      clear ht
      by_cases hlt : k < xs.length
      · have hlt' : k < ys.length := by have := Hl.out; omega
        have hx := List.getElem?_eq_getElem hlt
        generalize xs[k] = x at hx
        have hy := List.getElem?_eq_getElem hlt'
        generalize ys[k] = y at hy
        obtain ⟨g, o, rfl, -, hcx⟩ := tx_at ha hx
        obtain ⟨g', o', rfl, -, hcy⟩ := tx_at hb hy
        have HX := Lib.hid hx
        have HY := Lib.hid hy
        clear hx hy ha hb
        by_cases hxy : x = y
        · subst hxy
          have hf : (!(x == x)) = false := by simp
          go_wp2_with fail
          go_quiet (fail)
          go_wp2
          go_roundw
          case rel => exact ⟨k + 1, _, by omega, by go_num, takeT_more HT.out HX.out HY.out, rfl⟩
          case measure => simp [intOf]; omega
        · have hf : (!(x == y)) = true := by simpa using hxy
          have HE : Hid (eqT xs ys = false) := Lib.hid (by
            unfold eqT
            rw [decide_eq_false_iff_not]
            intro h
            have h2 := HX.out
            rw [h, HY.out] at h2
            injection h2 with h2
            exact hxy h2.symm)
          clear hxy
          go_wp2_with fail
          go_quiet (fail)
          go_wp2
          go_ret
          exact ⟨ret_tru HE.out.symm, _, World.drewN_drewN _ _ _⟩
      · have HE : Hid (eqT xs ys = true) := Lib.hid (by
          have h := HT.out
          rw [List.take_of_length_le (by omega), List.take_of_length_le (by have := Hl.out; omega)] at h
          simp [eqT, h])
        go_wp2_with fail
        go_ret
        exact ⟨ret_tru HE.out.symm, _, rfl⟩
  · have hb1 : ((xs.length : Int) != (ys.length : Int)) = true := by simp; omega
    have HE : Hid (eqT xs ys = false) := Lib.hid (by
      unfold eqT
      rw [decide_eq_false_iff_not]
      rintro rfl
      exact hl rfl)
    clear hl
    go_enter Tryz.func41, Tryz.ntmps41
    go_wp2
    go_ret
    exact ⟨ret_tru HE.out.symm, 0, rfl⟩

set_option maxHeartbeats 1000000 in
theorem likeTexts_any (B : Nat) (va vb : Value) (xs ys : List (List UInt8)) (w : World) (ha : SeeV w B va (xs.map str)) (hb : SeeV w B vb (ys.map str)) :
    Calls Tryz.prog 13 #[va, vb] w fun e w' => e = .returned (.bool (eqT xs ys)) ∧ ∃ n, w' = w.drewN n := by
  obtain ⟨A, ca, rfl⟩ := tx_shape ha
  obtain ⟨A', cb, rfl⟩ := tx_shape hb
  have hm := tx_len ha
  have hm' := tx_len hb
  unfold maxLen at hm hm'
  by_cases hl : xs.length = ys.length
  · have hb1 : ((xs.length : Int) != (ys.length : Int)) = false := by simp [hl]
    have Hl := Lib.hid hl
    clear hl
    go_enter Tryz.func13, Tryz.ntmps13
    go_wp2
    clear hb1
    go_loopw [5] (fun i wr => ∃ k m : Nat, k ≤ xs.length ∧ i = .int .i64 k ∧ xs.take k = ys.take k ∧ wr = w.drewN m) (fun i _ => xs.length - (intOf i).toNat)
    case atStart => exact ⟨0, 0, Nat.zero_le _, rfl, rfl, rfl⟩
    case round =>
      obtain ⟨k, m, hk, rfl, ht, rfl⟩ := hrel
      have HT := Lib.hid ht
      clear ht
      by_cases hlt : k < xs.length
      · have hlt' : k < ys.length := by have := Hl.out; omega
        have hx := List.getElem?_eq_getElem hlt
        generalize xs[k] = x at hx
        have hy := List.getElem?_eq_getElem hlt'
        generalize ys[k] = y at hy
        obtain ⟨g, o, rfl, -, hcx⟩ := tx_at ha hx
        obtain ⟨g', o', rfl, -, hcy⟩ := tx_at hb hy
        have HX := Lib.hid hx
        have HY := Lib.hid hy
        clear hx hy ha hb
        by_cases hxy : x = y
        · subst hxy
          have hf : (!(x == x)) = false := by simp
          go_wp2_with fail
          go_quiet (fail)
          go_wp2
          go_roundw
          case rel => exact ⟨k + 1, _, by omega, by go_num, takeT_more HT.out HX.out HY.out, rfl⟩
          case measure => simp [intOf]; omega
        · have hf : (!(x == y)) = true := by simpa using hxy
          have HE : Hid (eqT xs ys = false) := Lib.hid (by
            unfold eqT
            rw [decide_eq_false_iff_not]
            intro h
            have h2 := HX.out
            rw [h, HY.out] at h2
            injection h2 with h2
            exact hxy h2.symm)
          clear hxy
          go_wp2_with fail
          go_quiet (fail)
          go_wp2
          go_ret
          exact ⟨ret_tru HE.out.symm, _, World.drewN_drewN _ _ _⟩
      · have HE : Hid (eqT xs ys = true) := Lib.hid (by
          have h := HT.out
          rw [List.take_of_length_le (by omega), List.take_of_length_le (by have := Hl.out; omega)] at h
          simp [eqT, h])
        go_wp2_with fail
        go_ret
        exact ⟨ret_tru HE.out.symm, _, rfl⟩
  · have hb1 : ((xs.length : Int) != (ys.length : Int)) = true := by simp; omega
    have HE : Hid (eqT xs ys = false) := Lib.hid (by
      unfold eqT
      rw [decide_eq_false_iff_not]
      rintro rfl
      exact hl rfl)
    clear hl
    go_enter Tryz.func13, Tryz.ntmps13
    go_wp2
    go_ret
    exact ⟨ret_tru HE.out.symm, 0, rfl⟩

end Go.Proofs.YtbpgleebfiiggaaGreatDoor

namespace Go.Proofs.YtbpgleebfiiggaaGreatDoor
open Go.RowKit
set_option linter.unusedVariables false

/-- What is told of a number u when the digits s behind it are told: all of its numeral. -/
def restD (u : Nat) (s : List UInt8) : List UInt8 := if u = 0 ∧ s ≠ [] then s else Lib.decDigits u ++ s
theorem restD_zero {s : List UInt8} (h : s ≠ []) : restD 0 s = s := by unfold restD; rw [if_pos ⟨rfl, h⟩]
theorem restD_nil (u : Nat) : restD u [] = Lib.decDigits u := by unfold restD; rw [if_neg (by simp), List.append_nil]
theorem restD_step {u : Nat} {s : List UInt8} (h : s = [] ∨ ¬ u = 0) : restD (u / 10) (UInt8.ofNat (48 + u % 10) :: s) = restD u s := by
  have h1 : restD u s = Lib.decDigits u ++ s := by
    unfold restD
    rw [if_neg]
    rintro ⟨a, b⟩
    rcases h with h | h
    · exact b h
    · exact h a
  rw [h1]
  by_cases hu : u < 10
  · rw [show u / 10 = 0 by omega, restD_zero (by simp), dec_small hu, show u % 10 = u by omega]; rfl
  · unfold restD
    rw [if_neg (by omega), dec_big hu, List.append_assoc]; rfl

def StrB (l : List UInt8) (w : World) (e : Ending) (w' : World) : Prop := e = .returned (str l) ∧ Below w.heap.size w w'

theorem restD_len {u v : Nat} {s : List UInt8} (h : restD u s = Lib.decDigits v) (hv : v < 18446744073709551616) : s.length ≤ 20 := by
  have h1 : s.length ≤ (restD u s).length := by
    unfold restD
    split
    · exact Nat.le_refl _
    · rw [List.length_append]; omega
  have h2 := Lib.nDigits_le20 v hv
  rw [← Lib.decDigits_length, ← h] at h2
  omega
/-- 'string([]byte{z})'. -/
theorem conv_digit (w : World) (z : Int) (b : UInt8) (hz : z = (b.toNat : Int)) :
    (convert 22 9 (.slice (some ⟨w.heap.size, 0, none⟩) 1 1)).run Tryz.prog (w.alloc (.cells #[.int .u8 z] 5)) = .ok (str [b]) (w.alloc (.cells #[.int .u8 z] 5)) := by
  subst hz
  refine conv_back (P := Tryz.prog) _ 22 9 5 (w.heap.size + 1) _ [b] Tryz.underlying22 Tryz.underlying5 Tryz.underlying9 ⟨by simp [maxLen], _, 1, rfl, Nat.le_refl _, fun k x hx => ?_⟩
  have hk := (List.getElem?_eq_some_iff.1 hx).1
  obtain rfl : k = 0 := by simp at hk; omega
  refine ⟨w.heap.size, 0, rfl, by omega, ?_⟩
  rw [cell_of_row _ _ _ _ _ (0, 0) (heap_alloc_new _ _)]
  simpa using hx
/-- 1 of the empty text, else 0. -/
def noText : Value → Nat
  | .string b => if b.size = 0 then 1 else 0
  | _ => 0
theorem noText_cons (b : UInt8) (t : List UInt8) : noText (str (b :: t)) = 0 := by simp [noText, ByteArray.size]
theorem noText_nil : noText (str []) = 1 := rfl
theorem noText_ne {t : List UInt8} (h : ¬ t = []) : noText (str t) = 0 := by
  cases t with
  | nil => exact absurd rfl h
  | cons b t => exact noText_cons b t
theorem dig_num (x : Nat) : (48 + (x : Int) % 10) = ((UInt8.ofNat (48 + x % 10)).toNat : Int) := by
  rw [toNat_dig (by omega)]; omega

theorem tmod_neg (x : Nat) : (-(x : Int)).tmod 10 = -((x : Int) % 10) := by
  rw [Int.neg_tmod, Int.tmod_eq_emod_of_nonneg (by omega)]
theorem tdiv_neg (x : Nat) : (-(x : Int)).tdiv 10 = -((x / 10 : Nat) : Int) := by
  rw [Int.neg_tdiv, Int.tdiv_eq_ediv_of_nonneg (by omega)]; rfl

set_option maxHeartbeats 2000000 in
set_option maxRecDepth 10000 in
theorem l1Int_pos (u : Nat) (hu : u ≤ 9223372036854775807) (w : World) : Calls Tryz.prog 66 #[.int .i64 ((u : Int))] w (StrB (Lib.decDigits u) w) := by
  have hneg : decide ((u : Int) < 0) = false := by simp
  go_enter Tryz.func66, Tryz.ntmps66
  go_wp2_with fail
  go_loopw [0, 3, 5] (fun n s _ wr => ∃ (x : Nat) (t : List UInt8), n = .int .i64 ((x : Int)) ∧ x ≤ 9223372036854775807 ∧ s = str t ∧ restD x t = Lib.decDigits u ∧ Below w.heap.size w wr) (fun n s _ _ => (intOf n).natAbs + noText s)
  case atStart => exact ⟨u, [], rfl, hu, rfl, restD_nil u, Below.refl _ _⟩
  case round =>
    obtain ⟨x, t, rfl, hx, rfl, hr, hb⟩ := hrel
    have htl := restD_len hr (by omega)
    by_cases hgo : t = [] ∨ ¬ x = 0
    · have HS := Lib.hid ((restD_step hgo).trans hr)
      have HM : Hid (x / 10 < x + noText (str t)) := Lib.hid (by
        rcases hgo with h | h
        · subst h; rw [noText_nil]; omega
        · omega)
      have hcv := conv_digit wr _ _ (dig_num x)
      generalize UInt8.ofNat (48 + x % 10) = b at HS hcv
      have HB : Hid (Below w.heap.size w (wr.alloc (.cells #[.int .u8 (48 + (x : Int) % 10)] 5))) := Lib.hid (hb.alloc hb.size _)
      have hap : (⟨#[b]⟩ : ByteArray) ++ ⟨t.toArray⟩ = ⟨(b :: t).toArray⟩ := mk_append [b] t
      have h0 : 0 ≤ (x : Int) % 10 := by omega
      have h9 : (x : Int) % 10 ≤ 9 := by omega
      have HG : Hid (t = [] ∨ (¬ t = [] ∧ ((x : Int) != 0) = true)) := Lib.hid (by
        by_cases h : t = []
        · exact .inl h
        · refine .inr ⟨h, ?_⟩
          rcases hgo with h' | h'
          · exact absurd h' h
          · simpa using h')
      clear hgo hr hb
      skip
      rcases HG.out with rfl | ⟨hne, hxe⟩
      · clear HG
        go_wp2_with fail
        go_roundw
        case rel => exact ⟨x / 10, b :: [], by go_num, by omega, rfl, HS.out, HB.out⟩
        case measure => have := HM.out; rw [noText_cons]; simp [intOf]; omega
      · clear HG
        have hie : t.isEmpty = false := by simpa using hne
        go_wp2_with fail
        go_roundw
        case rel => exact ⟨x / 10, b :: t, by go_num, by omega, rfl, HS.out, HB.out⟩
        case measure => have := HM.out; rw [noText_cons]; simp [intOf]; omega
    · have hne : ¬ t = [] := fun h => hgo (.inl h)
      have hie : t.isEmpty = false := by simpa using hne
      obtain rfl : x = 0 := by
        rcases Nat.eq_zero_or_pos x with h | h
        · exact h
        · exact absurd (.inr (by omega)) hgo
      rw [restD_zero hne] at hr
      have HR := Lib.hid hr
      clear hr hgo
      go_wp2_with fail
      go_ret
      exact ⟨by rw [← HR.out]; rfl, hb⟩

set_option maxHeartbeats 2000000 in
theorem l1Int_neg (u : Nat) (hu : u ≤ 9223372036854775808) (h1 : 1 ≤ u) (w : World) : Calls Tryz.prog 66 #[.int .i64 (-(u : Int))] w (StrB (45 :: Lib.decDigits u) w) := by
  have hneg : decide (0 < u) = true := by simp; omega
  go_enter Tryz.func66, Tryz.ntmps66
  go_wp2_with fail
  go_loopw [0, 3, 5] (fun n s _ wr => ∃ (x : Nat) (t : List UInt8), n = .int .i64 (-(x : Int)) ∧ x ≤ 9223372036854775808 ∧ s = str t ∧ restD x t = Lib.decDigits u ∧ Below w.heap.size w wr) (fun n s _ _ => (intOf n).natAbs + noText s)
  case atStart => exact ⟨u, [], rfl, hu, rfl, restD_nil u, Below.refl _ _⟩
  case round =>
    obtain ⟨x, t, rfl, hx, rfl, hr, hb⟩ := hrel
    have htl := restD_len hr (by omega)
    by_cases hgo : t = [] ∨ ¬ x = 0
    · have HS := Lib.hid ((restD_step hgo).trans hr)
      have HM : Hid (x / 10 < x + noText (str t)) := Lib.hid (by
        rcases hgo with h | h
        · subst h; rw [noText_nil]; omega
        · omega)
      have HD := Lib.hid (dig_num x)
      generalize UInt8.ofNat (48 + x % 10) = b at HS HD
      have hap : (⟨#[b]⟩ : ByteArray) ++ ⟨t.toArray⟩ = ⟨(b :: t).toArray⟩ := mk_append [b] t
      have HG : Hid (t = [] ∨ (¬ t = [] ∧ t.isEmpty = false ∧ (-(x : Int) != 0) = true)) := Lib.hid (by
        by_cases h : t = []
        · exact .inl h
        · refine .inr ⟨h, by simpa using h, ?_⟩
          rcases hgo with h' | h'
          · exact absurd h' h
          · simp; omega)
      clear hgo hr
      have n0 : -9223372036854775808 ≤ -(x : Int) := by omega
      have n1 : -(x : Int) ≤ 0 := by omega
      have ht := tmod_neg x
      have hq := tdiv_neg x
      have d0 : 0 ≤ (x : Int) % 10 := by omega
      have d9 : (x : Int) % 10 ≤ 9 := by omega
      have HZ : Hid ((-(x : Int)).natAbs = x) := Lib.hid (by omega)
      generalize (-(x : Int)) = z at n0 n1 ht hq HG HZ ⊢
      generalize (x : Int) % 10 = d at ht d0 d9 HD
      have y0 : -9223372036854775808 ≤ -((x / 10 : Nat) : Int) := by omega
      have y1 : -((x / 10 : Nat) : Int) ≤ 0 := by omega
      generalize hy : -((x / 10 : Nat) : Int) = y at hq y0 y1
      have HY := Lib.hid hy
      clear hy
      by_cases hd : d = 0
      · subst hd
        rw [Int.neg_zero] at ht
        have hcv := conv_digit wr 48 b (by rw [← HD.out]; rfl)
        have HB : Hid (Below w.heap.size w (wr.alloc (.cells #[.int .u8 48] 5))) := Lib.hid (hb.alloc hb.size _)
        clear hb HD d0 d9
        rcases HG.out with rfl | ⟨hne, hie, hxe⟩
        all_goals
          clear HG
          go_wp2_with fail
          go_roundw
          case rel => exact ⟨x / 10, b :: _, by rw [HY.out], by omega, rfl, HS.out, HB.out⟩
          case measure => have h1 := HM.out; have h2 := HZ.out; have h3 := HY.out; rw [noText_cons]; simp only [intOf]; omega
      · have hd' : 0 < d := by omega
        have hcv := conv_digit wr (48 + d) b HD.out
        have HB : Hid (Below w.heap.size w (wr.alloc (.cells #[.int .u8 (48 + d)] 5))) := Lib.hid (hb.alloc hb.size _)
        clear hb HD hd
        rcases HG.out with rfl | ⟨hne, hie, hxe⟩
        all_goals
          clear HG
          go_wp2_with fail
          go_roundw
          case rel => exact ⟨x / 10, b :: _, by rw [HY.out], by omega, rfl, HS.out, HB.out⟩
          case measure => have h1 := HM.out; have h2 := HZ.out; have h3 := HY.out; rw [noText_cons]; simp only [intOf]; omega
    · have hne : ¬ t = [] := fun h => hgo (.inl h)
      have hie : t.isEmpty = false := by simpa using hne
      obtain rfl : x = 0 := by
        rcases Nat.eq_zero_or_pos x with h | h
        · exact h
        · exact absurd (.inr (by omega)) hgo
      rw [restD_zero hne] at hr
      have HR := Lib.hid hr
      have hap : (⟨#[45]⟩ : ByteArray) ++ ⟨t.toArray⟩ = ⟨(45 :: t).toArray⟩ := mk_append [45] t
      clear hr hgo
      go_wp2_with fail
      go_ret
      exact ⟨by rw [← HR.out]; rfl, hb⟩

/-- A number's numeral. -/
theorem l1Int_any (n : Int) (h0 : -9223372036854775808 ≤ n) (h1 : n ≤ 9223372036854775807) (w : World) : Calls Tryz.prog 66 #[.int .i64 n] w (StrB (Lib.itoa n) w) := by
  by_cases h : n < 0
  · obtain ⟨u, rfl⟩ : ∃ u : Nat, n = -(u : Int) := ⟨n.natAbs, by omega⟩
    rw [Lib.itoa_neg u (by omega)]
    exact l1Int_neg u (by omega) (by omega) w
  · obtain ⟨u, rfl⟩ : ∃ u : Nat, n = (u : Int) := ⟨n.toNat, by omega⟩
    rw [Lib.itoa_nonneg]
    exact l1Int_pos u (by omega) w

end Go.Proofs.YtbpgleebfiiggaaGreatDoor

namespace Go.Proofs.YtbpgleebfiiggaaGreatDoor
open Go.RowKit
set_option linter.unusedVariables false

/-- A number's digits; none of 0. -/
def digT (k : Nat) : List UInt8 := if h : k = 0 then [] else digT (k / 10) ++ [UInt8.ofNat (48 + k % 10)]
termination_by k
theorem digT_0 : digT 0 = [] := by rw [digT]; simp
theorem digT_s {k : Nat} (h : ¬ k = 0) : digT k = digT (k / 10) ++ [UInt8.ofNat (48 + k % 10)] := by
  conv => lhs; rw [digT]
  rw [dif_neg h]
def mkT (k : Nat) : List UInt8 := 109 :: digT k
/-- Marks from s on. -/
def mkTs (s n : Nat) : List (List UInt8) := (List.range n).map fun j => mkT (s + j)
theorem mkTs_length (s n : Nat) : (mkTs s n).length = n := by simp [mkTs]
theorem mkTs_at {s n k : Nat} (h : k < n) : (mkTs s n)[k]? = some (mkT (s + k)) := by simp [mkTs, h]
theorem mkTs_succ (s k : Nat) : mkTs s (k + 1) = mkTs s k ++ [mkT (s + k)] := by simp [mkTs, List.range_succ]

set_option maxHeartbeats 2000000 in
set_option maxRecDepth 10000 in
theorem markText_any (k : Nat) (h1 : 1 ≤ k) (h2 : k ≤ 4194304) (w : World) : Calls Tryz.prog 74 #[.int .i64 k] w (StrB (mkT k) w) := by
  unfold mkT
  have hk0 : ¬ (k : Int) ≤ 0 := by omega
  go_enter Tryz.func74, Tryz.ntmps74
  go_wp2_with fail
  go_loopw [0, 3] (fun n s wr => ∃ (x : Nat) (t : List UInt8), n = .int .i64 x ∧ s = str t ∧ digT x ++ t = digT k ∧ t.length + x ≤ k ∧ Below w.heap.size w wr) (fun n _ _ => (intOf n).toNat)
  case atStart => exact ⟨k, [], rfl, rfl, List.append_nil _, by simp, Below.refl _ _⟩
  case round =>
    obtain ⟨x, t, rfl, rfl, hr, hl, hb⟩ := hrel
    clear hk0
    by_cases hx : x = 0
    · subst hx
      rw [digT_0, List.nil_append] at hr
      have HR := Lib.hid hr
      have hap : (⟨#[109]⟩ : ByteArray) ++ ⟨t.toArray⟩ = ⟨(109 :: t).toArray⟩ := mk_append [109] t
      clear hr
      go_wp2_with fail
      go_ret
      exact ⟨by rw [← HR.out]; rfl, hb⟩
    · have HS : Hid (digT (x / 10) ++ UInt8.ofNat (48 + x % 10) :: t = digT k) := Lib.hid (by rw [← hr, digT_s hx, List.append_assoc]; rfl)
      have hcv := conv_digit wr _ _ (dig_num x)
      generalize UInt8.ofNat (48 + x % 10) = b at HS hcv
      have HB : Hid (Below w.heap.size w (wr.alloc (.cells #[.int .u8 (48 + (x : Int) % 10)] 5))) := Lib.hid (hb.alloc hb.size _)
      have hap : (⟨#[b]⟩ : ByteArray) ++ ⟨t.toArray⟩ = ⟨(b :: t).toArray⟩ := mk_append [b] t
      have h0 : 0 ≤ (x : Int) % 10 := by omega
      have h9 : (x : Int) % 10 ≤ 9 := by omega
      have hxp : 0 < x := by omega
      clear hr hb hx
      go_wp2_with fail
      go_roundw
      case rel => exact ⟨x / 10, b :: t, by go_num, rfl, HS.out, by simp; omega, HB.out⟩
      case measure => simp [intOf]; omega

set_option maxHeartbeats 2000000 in
theorem markStrs_any (B : Nat) (v : Value) (xs : List (List UInt8)) (s : Nat) (w : World) (h : OwnV w B 9 v (xs.map str)) (h1 : 1 ≤ s) (hs : s + xs.length ≤ 4194304) :
    Calls Tryz.prog 42 #[v, .int .i64 s] w fun r w' => r = .returned (.int .i64 ((s + xs.length : Nat) : Int)) ∧ OwnV w' B 9 v ((mkTs s xs.length).map str) ∧ w.grownBy w' v.ownBlock := by
  obtain ⟨hl, h⟩ := h
  rw [List.length_map] at h
  rcases h with ⟨rfl, hn⟩ | ⟨g, cap, cur, rfl, hB, hg, hnc, hcm, hcs, ht⟩
  · obtain rfl : xs = [] := List.eq_nil_of_length_eq_zero hn
    go_enter Tryz.func42, Tryz.ntmps42
    go_wp2
    go_loop [1, 5] (fun i j => i = .int .i64 s ∧ j = .int .i64 0) (fun _ _ => 0)
    case atStart => exact ⟨rfl, rfl⟩
    case round =>
      obtain ⟨rfl, rfl⟩ := hrel
      go_wp2
      go_ret
      exact ⟨rfl, OwnV.nil _ _ _, World.grownBy.refl _ _⟩
  · generalize hzn : xs.length = n at *
    have Hc := Lib.hid hcs
    have hcn : n ≤ cur.size := by omega
    unfold maxLen at hcm
    clear hl ht hcs hzn
    have Hg := Lib.hid hg
    clear hg
    go_enter Tryz.func42, Tryz.ntmps42
    go_wp2_with fail
    go_loopw [1, 5] (fun m i wr => ∃ (k : Nat) (cur' : Array Value), k ≤ n ∧ i = .int .i64 k ∧ m = .int .i64 ((s + k : Nat) : Int) ∧ wr.heap[g]? = some (.cells cur' 9 (0, 0)) ∧ cur'.size = cur.size ∧
      cur'.toList.take k = (mkTs s k).map str ∧ w.grownBy wr (some g)) (fun _ i _ => n - (intOf i).toNat)
    case atStart => exact ⟨0, cur, Nat.zero_le _, rfl, rfl, Hg.out, rfl, by simp [mkTs], World.grownBy.refl _ _⟩
    case round =>
      obtain ⟨k, cur', hk, rfl, rfl, hh, hsz, htk, hgr⟩ := hrel
      have HH := Lib.hid hh
      have HZ := Lib.hid hsz
      have HT := Lib.hid htk
      clear hh hsz htk
      by_cases hlt : k < n
      · have hk' : k < cur'.size := by have := HZ.out; omega
        go_wp2_with fail
        refine (markText_any (s + k) (by omega) (by omega) _).mono ?_
        rintro e w2 ⟨rfl, b2⟩
        generalize htx : mkT (s + k) = tx
        have HTX := Lib.hid htx
        clear htx
        have HH2 : Hid (w2.heap[g]? = some (.cells cur' 9 (0, 0))) := Lib.hid ((b2.block g (Array.getElem?_eq_some_iff.1 HH.out).1).trans HH.out)
        have hcell : w2.cell? ⟨g, k, none⟩ = some cur'[k] := by rw [cell_of_row w2 g k cur' _ (0, 0) HH2.out]; exact Array.getElem?_eq_getElem hk'
        have hfz : w2.frozen? ⟨g, k, none⟩ = false := frozen_row HH2.out
        have hg2 : w.grownBy w2 (some g) := ⟨b2.os.trans hgr.os, b2.tape.trans hgr.tape, b2.output.trans hgr.output, Nat.le_trans hgr.size b2.size, fun j hj hne => (b2.block j (Nat.lt_of_lt_of_le hj hgr.size)).trans (hgr.block j hj hne)⟩
        go_wp2
        go_roundw
        case rel => exact ⟨k + 1, _, by omega, by go_num, by go_num, heap_set HH2.out _, by rw [Array.size_setIfInBounds]; exact HZ.out, by rw [mkTs_succ, List.map_append, HTX.out]; exact take_set HT.out hk', grown_set hg2 _⟩
        case measure => simp [intOf]; omega
      · obtain rfl : n = k := by omega
        obtain ⟨z, HZZ⟩ : ∃ z : Int, Hid (((s + n : Nat) : Int) = z) := ⟨_, Lib.hid rfl⟩
        go_wp2
        go_ret
        refine ⟨by go_num, ⟨by simp [mkTs], .inr ⟨g, cap, cur', by rw [List.length_map, mkTs_length], hB, HH.out, by rw [List.length_map, mkTs_length]; exact hnc, by unfold maxLen; exact hcm, by rw [HZ.out]; exact Hc.out, ?_⟩⟩, hgr⟩
        rw [List.length_map, mkTs_length, Nat.mul_one]
        exact HT.out

end Go.Proofs.YtbpgleebfiiggaaGreatDoor
