/- The laws' own helpers on lists of texts: their size, a copy, whether two are equal, marked, held. No conditions but those typed. -/
import Derived.Test.YtblnonlcjfcblaaGreatDoorRows
import Derived.Test.YtblnonlcjfcblaaGreatDoorSizeM
import Derived.Test.YtblnonlcjfcblaaGreatDoorRowV
import Derived.Deep.OwnRows
import Derived.Deep.QuietTactic
import Derived.BigQuiet
namespace Go.Proofs.YtblnonlcjfcblaaGreatDoor
open Go.RowKit
set_option linter.unusedVariables false

theorem tx_at {w : World} {B : Nat} {A : Option Addr} {m c : Nat} {ss : List (List UInt8)} {k : Nat} {x : List UInt8} (h : SeeV w B (.slice A m c) (ss.map str)) (hx : ss[k]? = some x) :
    ∃ g o, A = some ⟨g, o, none⟩ ∧ g < B ∧ w.cell? ⟨g, o + k, none⟩ = some (str x) := h.at_ (by rw [List.getElem?_map, hx]; rfl)
theorem tx_shape {w : World} {B : Nat} {v : Value} {ss : List (List UInt8)} (h : SeeV w B v (ss.map str)) : ∃ A c, v = .slice A ss.length c := by
  obtain ⟨A, c, e⟩ := h.shape; exact ⟨A, c, by rw [e, List.length_map]⟩
theorem tx_len {w : World} {B : Nat} {v : Value} {ss : List (List UInt8)} (h : SeeV w B v (ss.map str)) : ss.length ≤ maxLen := by have := h.1; rwa [List.length_map] at this
theorem ret_num {a b : Int} (h : a = b) : Ending.returned (.int .i64 a) = .returned (.int .i64 b) := by rw [h]
theorem ret_tru {a b : Bool} (h : a = b) : Ending.returned (.bool a) = .returned (.bool b) := by rw [h]

def txLens (ss : List (List UInt8)) : List Nat := ss.map List.length
/-- No text is longer than an int64 says. -/
def fitS (ss : List (List UInt8)) : Prop := ∀ s ∈ ss, s.length ≤ 9223372036854775807

set_option maxHeartbeats 1000000 in
theorem szStrs_any (B : Nat) (v : Value) (ss : List (List UInt8)) (left : Int) (h0 : 0 ≤ left) (h1 : left ≤ 1048576) (w : World) (h : SeeV w B v (ss.map str)) (hF : fitS ss) : Calls Tryz.prog 11 #[v, .int .i64 left] w fun e w' => e = .returned (.int .i64 (szL left (txLens ss))) ∧ w = w' := by
  have hm := tx_len h
  unfold maxLen at hm
  obtain ⟨A, c, rfl⟩ := tx_shape h
  have HL : Hid ((txLens ss).length = ss.length) := Lib.hid (by simp [txLens])
  by_cases hl : left < ss.length
  · have HE : Hid (szL left (txLens ss) = -1) := Lib.hid (szL_long (by rw [HL.out]; exact hl))
    have h2 : left - (ss.length : Int) < 0 := by omega
    go_enter Tryz.func11, Tryz.ntmps11
    go_wp2_with fail
    go_ret
    exact ⟨ret_num HE.out.symm, rfl⟩
  have HE : Hid (szL left (txLens ss) = szGo (left - ss.length) (txLens ss)) := Lib.hid (by rw [szL_short (by rw [HL.out]; exact hl), HL.out])
  have h2 : ¬ left - (ss.length : Int) < 0 := by omega
  go_enter Tryz.func11, Tryz.ntmps11
  go_wp2_with fail
  go_loopw [1, 5] (fun q i wr => ∃ (k : Nat) (x : Int), k ≤ ss.length ∧ i = .int .i64 k ∧ q = .int .i64 x ∧ 0 ≤ x ∧ x ≤ 1048576 ∧ szGo x ((txLens ss).drop k) = szL left (txLens ss) ∧ w = wr) (fun _ i _ => ss.length - (intOf i).toNat)
  case atStart => exact ⟨0, _, Nat.zero_le _, rfl, rfl, by omega, by omega, HE.out.symm, rfl⟩
  case round =>
    obtain ⟨k, x, hk, rfl, rfl, x0, x1, hv, rfl⟩ := hrel
    have HV := Lib.hid hv
    clear hv HE h2
    by_cases hlt : k < ss.length
    · have hb := List.getElem?_eq_getElem hlt
      generalize ss[k] = n at hb
      have hsb := hF n (List.mem_of_getElem? hb)
      obtain ⟨g, o, rfl, -, hn⟩ := tx_at h hb
      have HK : Hid ((txLens ss)[k]? = some n.length) := Lib.hid (by simp [txLens, hb])
      clear hb h
      by_cases hq : x < n.length
      · have HE := Lib.hid (szGo_no HV.out HK.out hq)
        have q1 : x - (n.length : Int) < 0 := by omega
        go_wp2_with fail
        go_ret
        exact ⟨ret_num HE.out.symm, rfl⟩
      · have HE := Lib.hid (szGo_yes HV.out HK.out hq)
        have q1 : ¬ x - (n.length : Int) < 0 := by omega
        go_wp2_with fail
        go_roundw
        case rel => exact ⟨k + 1, _, by omega, by go_num, rfl, by omega, by omega, HE.out, by first | rfl | trivial⟩
        case measure => simp [intOf]; omega
    · obtain rfl : k = ss.length := by omega
      have HE : Hid (szL left (txLens ss) = x) := Lib.hid (by rw [← HV.out, List.drop_of_length_le (by rw [HL.out]; exact Nat.le_refl _)]; rfl)
      go_wp2_with fail
      go_ret
      exact ⟨ret_num HE.out.symm, rfl⟩

theorem sz_strs {ss : List (List UInt8)} {left : Int} (h : 0 ≤ szL left (txLens ss)) (h0 : 0 ≤ left) (h1 : left ≤ 1048576) : ss.length ≤ 1048576 ∧ (∀ s ∈ ss, s.length ≤ 1048576) ∧ szL left (txLens ss) ≤ 1048576 := by
  rcases szL_fits (ls := txLens ss) h0 with e | ⟨_, e1, e2, e3⟩
  · omega
  · refine ⟨by have : (txLens ss).length = ss.length := by simp [txLens]
               omega, fun s hs => ?_, by omega⟩
    have := e3 s.length (by unfold txLens; exact List.mem_map_of_mem hs)
    omega

theorem Tryz.infoStr : (Tryz.prog.info? 9).map (fun i => (i.zero, i.size, i.bytes)) = some (some (.string ⟨#[]⟩), 1, 16) := by kernel_rfl
theorem take_next {ss : List (List UInt8)} {k : Nat} {x : List UInt8} (hx : ss[k]? = some x) : (ss.take (k + 1)).map str = (ss.take k).map str ++ [str x] := by
  rw [List.take_add_one, hx]; simp

set_option maxHeartbeats 1000000 in
theorem toStrs_any (B : Nat) (v : Value) (ss : List (List UInt8)) (hn : ss.length ≤ 1048576) (w : World) (hs : SeeV w B v (ss.map str)) (hB : B ≤ w.heap.size) : Calls Tryz.prog 13 #[v] w fun e w' =>
    ∃ v', e = .returned v' ∧ OwnV w' w.heap.size 9 v' (ss.map str) ∧ Below w.heap.size w w' := by
  obtain ⟨A, c, rfl⟩ := tx_shape hs
  have hmk := fun W => run_make_row' (P := Tryz.prog) 22 9 (.string ⟨#[]⟩) 16 Tryz.underlying22 Tryz.infoStr rfl .i64 .i64 ss.length (by omega) (by omega) W
  go_enter Tryz.func13, Tryz.ntmps13
  go_wp2_with fail
  clear hmk
  generalize hcur : madeCells _ ss.length = cur0
  have HS : Hid (cur0.size = ss.length) := Lib.hid (by rw [← hcur, size_madeCells])
  clear hcur
  have H0 : Hid ((w.alloc (.cells cur0 9)).heap[w.heap.size]? = some (.cells cur0 9 (0, 0))) := Lib.hid (heap_alloc_new _ _)
  have B0 : Below w.heap.size w (w.alloc (.cells cur0 9)) := (Below.refl _ _).alloc (Nat.le_refl _) _
  go_loopw [4] (fun i wr => ∃ (k : Nat) (cur : Array Value), k ≤ ss.length ∧ i = .int .i64 k ∧ wr.heap[w.heap.size]? = some (.cells cur 9 (0, 0)) ∧ cur.size = ss.length ∧
      cur.toList.take k = (ss.take k).map str ∧ Below w.heap.size w wr) (fun i _ => ss.length - (intOf i).toNat)
  case atStart => exact ⟨0, _, Nat.zero_le _, rfl, H0.out, HS.out, by simp, B0⟩
  case round =>
    obtain ⟨k, cur, hk, rfl, hh, hsz, htk, hb⟩ := hrel
    have HH := Lib.hid hh
    have HZ := Lib.hid hsz
    have HT := Lib.hid htk
    clear hh hsz htk
    by_cases hlt : k < ss.length
    · have hk' : k < cur.size := by have := HZ.out; omega
      have hx := List.getElem?_eq_getElem hlt
      generalize ss[k] = x at hx
      obtain ⟨g, o, rfl, -, hcx⟩ := tx_at (hs.below (hb.mono hB)) hx
      have HX := Lib.hid hx
      clear hx
      have hcell : wr.cell? ⟨w.heap.size, k, none⟩ = some cur[k] := by rw [cell_of_row wr _ k cur _ (0, 0) HH.out]; exact Array.getElem?_eq_getElem hk'
      have hfz : wr.frozen? ⟨w.heap.size, k, none⟩ = false := frozen_row HH.out
      go_wp2
      go_roundw
      case rel => exact ⟨k + 1, _, by omega, by go_num, heap_set HH.out _, by rw [Array.size_setIfInBounds]; exact HZ.out, by rw [take_next HX.out]; exact take_set HT.out hk', hb.setCell (Nat.le_refl _) _⟩
      case measure => simp [intOf]; omega
    · obtain rfl : ss.length = k := by omega
      go_wp2
      go_ret
      refine ⟨_, rfl, ⟨by simp, .inr ⟨w.heap.size, ss.length, cur, by simp, Nat.le_refl _, HH.out, by simp, by unfold maxLen; omega, by have := HZ.out; simpa using this, ?_⟩⟩, hb⟩
      have := HT.out
      rw [List.take_of_length_le (i := ss.length) (l := ss) (Nat.le_refl _)] at this
      simpa using this

def eqT (xs ys : List (List UInt8)) : Bool := decide (xs = ys)
theorem eqT_same (xs : List (List UInt8)) : eqT xs xs = true := by simp [eqT]
theorem takeT_more {xs ys : List (List UInt8)} {k : Nat} {x : List UInt8} (h : xs.take k = ys.take k) (hx : xs[k]? = some x) (hy : ys[k]? = some x) : xs.take (k + 1) = ys.take (k + 1) := by
  rw [List.take_add_one, List.take_add_one, h, hx, hy]

set_option maxHeartbeats 1000000 in
theorem eqStrs_any (B : Nat) (va vb : Value) (xs ys : List (List UInt8)) (w : World) (ha : SeeV w B va (xs.map str)) (hb : SeeV w B vb (ys.map str)) :
    Calls Tryz.prog 15 #[va, vb] w fun e w' => e = .returned (.bool (eqT xs ys)) ∧ ∃ n, w' = w.drewN n := by
  obtain ⟨A, ca, rfl⟩ := tx_shape ha
  obtain ⟨A', cb, rfl⟩ := tx_shape hb
  have hm := tx_len ha
  have hm' := tx_len hb
  unfold maxLen at hm hm'
  by_cases hl : xs.length = ys.length
  · have hb1 : ((xs.length : Int) != (ys.length : Int)) = false := by simp [hl]
    have Hl := Lib.hid hl
    clear hl
    go_enter Tryz.func15, Tryz.ntmps15
    go_wp2
    clear hb1
    go_loopw [5] (fun i wr => ∃ k m : Nat, k ≤ xs.length ∧ i = .int .i64 k ∧ xs.take k = ys.take k ∧ wr = w.drewN m) (fun i _ => xs.length - (intOf i).toNat)
    case atStart => exact ⟨0, 0, Nat.zero_le _, rfl, rfl, rfl⟩
    case round =>
      obtain ⟨k, m, hk, rfl, ht, rfl⟩ := hrel
      have HT := Lib.hid ht
      clear ht
      by_cases hlt : k < xs.length
      · have hlt' : k < ys.length := by have := Hl.out; omega
        have hx := List.getElem?_eq_getElem hlt
        generalize xs[k] = x at hx
        have hy := List.getElem?_eq_getElem hlt'
        generalize ys[k] = y at hy
        obtain ⟨g, o, rfl, -, hcx⟩ := tx_at ha hx
        obtain ⟨g', o', rfl, -, hcy⟩ := tx_at hb hy
        have HX := Lib.hid hx
        have HY := Lib.hid hy
        clear hx hy ha hb
        by_cases hxy : x = y
        · subst hxy
          have hf : (!(x == x)) = false := by simp
          go_wp2_with fail
          go_quiet (fail)
          go_wp2
          go_roundw
          case rel => exact ⟨k + 1, _, by omega, by go_num, takeT_more HT.out HX.out HY.out, rfl⟩
          case measure => simp [intOf]; omega
        · have hf : (!(x == y)) = true := by simpa using hxy
          have HE : Hid (eqT xs ys = false) := Lib.hid (by
            unfold eqT
            rw [decide_eq_false_iff_not]
            intro h
            have h2 := HX.out
            rw [h, HY.out] at h2
            injection h2 with h2
            exact hxy h2.symm)
          clear hxy
          go_wp2_with fail
          go_quiet (fail)
          go_wp2
          go_ret
          exact ⟨ret_tru HE.out.symm, _, World.drewN_drewN _ _ _⟩
      · have HE : Hid (eqT xs ys = true) := Lib.hid (by
          have h := HT.out
          rw [List.take_of_length_le (by omega), List.take_of_length_le (by have := Hl.out; omega)] at h
          simp [eqT, h])
        go_wp2_with fail
        go_ret
        exact ⟨ret_tru HE.out.symm, _, rfl⟩
  · have hb1 : ((xs.length : Int) != (ys.length : Int)) = true := by simp; omega
    have HE : Hid (eqT xs ys = false) := Lib.hid (by
      unfold eqT
      rw [decide_eq_false_iff_not]
      rintro rfl
      exact hl rfl)
    clear hl
    go_enter Tryz.func15, Tryz.ntmps15
    go_wp2
    go_ret
    exact ⟨ret_tru HE.out.symm, 0, rfl⟩

set_option maxHeartbeats 1000000 in
theorem likeTexts_any (B : Nat) (va vb : Value) (xs ys : List (List UInt8)) (w : World) (ha : SeeV w B va (xs.map str)) (hb : SeeV w B vb (ys.map str)) :
    Calls Tryz.prog 32 #[va, vb] w fun e w' => e = .returned (.bool (eqT xs ys)) ∧ ∃ n, w' = w.drewN n := by
  obtain ⟨A, ca, rfl⟩ := tx_shape ha
  obtain ⟨A', cb, rfl⟩ := tx_shape hb
  have hm := tx_len ha
  have hm' := tx_len hb
  unfold maxLen at hm hm'
  by_cases hl : xs.length = ys.length
  · have hb1 : ((xs.length : Int) != (ys.length : Int)) = false := by simp [hl]
    have Hl := Lib.hid hl
    clear hl
    go_enter Tryz.func32, Tryz.ntmps32
    go_wp2
    clear hb1
    go_loopw [5] (fun i wr => ∃ k m : Nat, k ≤ xs.length ∧ i = .int .i64 k ∧ xs.take k = ys.take k ∧ wr = w.drewN m) (fun i _ => xs.length - (intOf i).toNat)
    case atStart => exact ⟨0, 0, Nat.zero_le _, rfl, rfl, rfl⟩
    case round =>
      obtain ⟨k, m, hk, rfl, ht, rfl⟩ := hrel
      have HT := Lib.hid ht
      clear ht
      by_cases hlt : k < xs.length
      · have hlt' : k < ys.length := by have := Hl.out; omega
        have hx := List.getElem?_eq_getElem hlt
        generalize xs[k] = x at hx
        have hy := List.getElem?_eq_getElem hlt'
        generalize ys[k] = y at hy
        obtain ⟨g, o, rfl, -, hcx⟩ := tx_at ha hx
        obtain ⟨g', o', rfl, -, hcy⟩ := tx_at hb hy
        have HX := Lib.hid hx
        have HY := Lib.hid hy
        clear hx hy ha hb
        by_cases hxy : x = y
        · subst hxy
          have hf : (!(x == x)) = false := by simp
          go_wp2_with fail
          go_quiet (fail)
          go_wp2
          go_roundw
          case rel => exact ⟨k + 1, _, by omega, by go_num, takeT_more HT.out HX.out HY.out, rfl⟩
          case measure => simp [intOf]; omega
        · have hf : (!(x == y)) = true := by simpa using hxy
          have HE : Hid (eqT xs ys = false) := Lib.hid (by
            unfold eqT
            rw [decide_eq_false_iff_not]
            intro h
            have h2 := HX.out
            rw [h, HY.out] at h2
            injection h2 with h2
            exact hxy h2.symm)
          clear hxy
          go_wp2_with fail
          go_quiet (fail)
          go_wp2
          go_ret
          exact ⟨ret_tru HE.out.symm, _, World.drewN_drewN _ _ _⟩
      · have HE : Hid (eqT xs ys = true) := Lib.hid (by
          have h := HT.out
          rw [List.take_of_length_le (by omega), List.take_of_length_le (by have := Hl.out; omega)] at h
          simp [eqT, h])
        go_wp2_with fail
        go_ret
        exact ⟨ret_tru HE.out.symm, _, rfl⟩
  · have hb1 : ((xs.length : Int) != (ys.length : Int)) = true := by simp; omega
    have HE : Hid (eqT xs ys = false) := Lib.hid (by
      unfold eqT
      rw [decide_eq_false_iff_not]
      rintro rfl
      exact hl rfl)
    clear hl
    go_enter Tryz.func32, Tryz.ntmps32
    go_wp2
    go_ret
    exact ⟨ret_tru HE.out.symm, 0, rfl⟩

end Go.Proofs.YtblnonlcjfcblaaGreatDoor
