/- Layer 6 (sums): the program's SumEnd and sumAt; MayFail of both. Condition: the listed variables hold what the program's text lays (Vars). -/
import Derived.Test.YtblnonlcjfcblaaGreatDoorSumC
namespace Go.Proofs.YtblnonlcjfcblaaGreatDoor
open Go.RowKit
set_option linter.unusedVariables false

theorem leaf_of_name {s : List UInt8} (h : nameB s = true) : leafB s = true := by unfold leafB; rw [h, Bool.or_true]

set_option maxHeartbeats 4000000 in
set_option maxRecDepth 100000 in
theorem iSumEnd_nat (B : Nat) (v : Value) (ss : List (List UInt8)) (k0 : Nat) (w : World) (V : Vars w) (h : SeeV w B v (ss.map str)) (hB : B ≤ w.heap.size) (hS : shortS ss) (hn : ss.length ≤ 1048576) :
    Calls Tryz.prog 41 #[v, .int .i64 k0] w (IntLt w (finS ss k0 1)) := by
  obtain ⟨A, c, rfl⟩ := strs_shape h
  generalize hR : finS ss k0 1 = R
  have HR := Lib.hid hR
  have HV : Hid (Vars w) := Lib.hid V
  clear hR V
  go_enter Tryz.func41, Tryz.ntmps41
  go_wp2_with fail
  go_loopw [5, 6] (fun j i wr => ∃ (k n : Nat), i = .int .i64 k ∧ j = .int .i64 n ∧ Below w.heap.size w wr ∧ 1 ≤ n ∧ n ≤ k + 1 ∧ R = finS ss k n) (fun _ i _ => ss.length - (intOf i).toNat)
  case atStart => exact ⟨k0, 1, rfl, rfl, Below.refl _ _, by omega, by omega, HR.out.symm⟩
  case round =>
    obtain ⟨k, n, rfl, rfl, hbw, n1, n2, hq⟩ := hrel
    have HQ := Lib.hid hq
    clear hq
    by_cases hlt : k < ss.length
    · have hx := List.getElem?_eq_getElem hlt
      generalize ss[k] = x at hx
      have hsx := hS x (List.mem_of_getElem? hx)
      obtain ⟨g, o, rfl, hgB, hcx⟩ := strs_at (h.below (hbw.mono hB)) hx
      have HC := Lib.hid (shape_any x hsx wr (HV.out.below hbw))
      by_cases ho : opN x = 0
      · cases hnm : nameB x
        · cases hrd : rdS x with
          | none =>
            have HE := Lib.hid (HQ.out.trans (fin_bad hx ho ((leaf_name hrd).trans hnm)))
            rw [shape_none ho hnm hrd] at HC
            have qw := as_xw
            have qn := as_xn
            have qo := as_xo
            clear hx ho hnm hrd h
            go_wp2_with fail
            refine HC.out.mono ?_
            rintro e w2 ⟨rfl, b2⟩
            go_wp2_with fail
            go_ret
            exact ⟨ret_neg HE.out, below_then hbw b2 (Nat.le_refl _)⟩
          | some y =>
            rw [shape_word ho hnm hrd] at HC
            have qw := as_ww
            have qn := as_wn
            have qo := as_wo
            have HLF := Lib.hid (leaf_word hrd)
            by_cases hn1 : n = 1
            · subst hn1
              have HE : Hid (R = ((k + 1 : Nat) : Int)) := Lib.hid (HQ.out.trans (fin_last hx ho HLF.out))
              clear hx ho hnm hrd h
              go_wp2_with fail
              refine HC.out.mono ?_
              rintro e w2 ⟨rfl, b2⟩
              go_wp2_with fail
              go_ret
              exact ⟨ret_int (by rw [HE.out]; go_num), below_then hbw b2 (Nat.le_refl _)⟩
            · have HE : Hid (R = finS ss (k + 1) (n - 1)) := Lib.hid (HQ.out.trans (fin_leaf hx ho HLF.out hn1))
              have hd1 : (((n : Int) - 1) == 0) = false := by simp; omega
              clear hx ho hnm hrd h
              go_wp2_with fail
              refine HC.out.mono ?_
              rintro e w2 ⟨rfl, b2⟩
              go_wp2_with fail
              go_roundw
              case rel => exact ⟨k + 1, n - 1, by go_num, by go_num, below_then hbw b2 (Nat.le_refl _), by omega, by omega, HE.out⟩
              case measure => simp [intOf]; omega
        · rw [shape_name ho hnm] at HC
          have qw := as_nw
          have qn := as_nn
          have qo := as_no
          have HLF := Lib.hid (leaf_of_name hnm)
          by_cases hn1 : n = 1
          · subst hn1
            have HE : Hid (R = ((k + 1 : Nat) : Int)) := Lib.hid (HQ.out.trans (fin_last hx ho HLF.out))
            clear hx ho hnm h
            go_wp2_with fail
            refine HC.out.mono ?_
            rintro e w2 ⟨rfl, b2⟩
            go_wp2_with fail
            go_ret
            exact ⟨ret_int (by rw [HE.out]; go_num), below_then hbw b2 (Nat.le_refl _)⟩
          · have HE : Hid (R = finS ss (k + 1) (n - 1)) := Lib.hid (HQ.out.trans (fin_leaf hx ho HLF.out hn1))
            have hd1 : (((n : Int) - 1) == 0) = false := by simp; omega
            clear hx ho hnm h
            go_wp2_with fail
            refine HC.out.mono ?_
            rintro e w2 ⟨rfl, b2⟩
            go_wp2_with fail
            go_roundw
            case rel => exact ⟨k + 1, n - 1, by go_num, by go_num, below_then hbw b2 (Nat.le_refl _), by omega, by omega, HE.out⟩
            case measure => simp [intOf]; omega
      · rw [shape_op ho] at HC
        have qw := as_ow
        have qn := as_on
        have qo := as_oo
        have HE : Hid (R = finS ss (k + 1) (n + 1)) := Lib.hid (HQ.out.trans (fin_op hx ho))
        have hd1 : (((n : Int) + 1) == 0) = false := by simp; omega
        generalize opN x = op at HC ho
        clear hx ho h
        go_wp2_with fail
        refine HC.out.mono ?_
        rintro e w2 ⟨rfl, b2⟩
        go_wp2_with fail
        go_roundw
        case rel => exact ⟨k + 1, n + 1, by go_num, by go_num, below_then hbw b2 (Nat.le_refl _), by omega, by omega, HE.out⟩
        case measure => simp [intOf]; omega
    · have HE := Lib.hid (HQ.out.trans (fin_out (by omega)))
      go_wp2_with fail
      go_ret
      exact ⟨ret_neg HE.out, hbw⟩

theorem iSumEnd_any (B : Nat) (v : Value) (ss : List (List UInt8)) (a : Int) (w : World) (V : Vars w) (h : SeeV w B v (ss.map str)) (hB : B ≤ w.heap.size) (hS : shortS ss) (hn : ss.length ≤ 1048576) :
    Calls Tryz.prog 41 #[v, .int .i64 a] w (IntLt w (sumEndS ss a)) := by
  by_cases ha : a < 0
  · obtain ⟨A, c, rfl⟩ := strs_shape h
    rw [end_neg ha]
    go_enter Tryz.func41, Tryz.ntmps41
    go_wp2_with fail
    go_ret
    exact ⟨rfl, Below.refl _ _⟩
  · obtain ⟨k, rfl⟩ : ∃ k : Nat, a = k := ⟨a.toNat, by omega⟩
    rw [end_nat]
    exact iSumEnd_nat B v ss k w V h hB hS hn

/-- The signs of the sum there; none when there is none. -/
def signsS (ss : List (List UInt8)) (a : Int) : List (List UInt8) := if 0 ≤ sumEndS ss a then (ss.drop a.toNat).take (sumEndS ss a - a).toNat else []
theorem signs_no {ss : List (List UInt8)} {a : Int} (h : sumEndS ss a < 0) : signsS ss a = [] := by unfold signsS; rw [if_neg (by omega)]
theorem signs_tree {ss : List (List UInt8)} {k : Nat} {t : Sum} (h : SumAt ss k t) : signsS ss (k : Int) = t.flat := by
  have he := sum_end h
  obtain ⟨h1, rest, h2⟩ := h
  unfold signsS
  rw [he, if_pos (by omega), Int.toNat_natCast, h2, show (((k + t.flat.length : Nat) : Int) - (k : Int)).toNat = t.flat.length by omega, List.take_left' rfl]
theorem signs_short {ss : List (List UInt8)} {a : Int} (h : shortS ss) : shortS (signsS ss a) := by
  unfold signsS
  split
  · exact fun s hs => h s (List.mem_of_mem_drop (List.mem_of_mem_take hs))
  · intro s hs; simp at hs
/-- A part of a row that is read. -/
theorem SeeV.part {w : World} {B g o n c : Nat} {xs : List Value} (h : SeeV w B (.slice (some ⟨g, o, none⟩) n c) xs) (a m : Nat) (hm : a + m ≤ xs.length) : SeeV w B (.slice (some ⟨g, o + a, none⟩) m (c - a)) ((xs.drop a).take m) := by
  obtain ⟨h0, A, c', he, hc, h1⟩ := h
  injection he with e1 e2 e3
  subst e3
  have hl : ((xs.drop a).take m).length = m := by simp; omega
  refine ⟨by omega, some ⟨g, o + a, none⟩, c - a, by rw [hl], by rw [hl]; omega, fun k x hx => ?_⟩
  have hk : k < m := by have := (List.getElem?_eq_some_iff.1 hx).1; omega
  rw [List.getElem?_take, if_pos hk, List.getElem?_drop] at hx
  obtain ⟨g', o', e, hg, hcell⟩ := h1 _ x hx
  rw [← e1] at e
  injection e with e
  injection e with e4 e5
  subst e4 e5
  exact ⟨g, o + a, rfl, hg, by rw [show o + a + k = o + (a + k) by omega]; exact hcell⟩

set_option maxHeartbeats 1000000 in
theorem sumAt_any (B : Nat) (v : Value) (ss : List (List UInt8)) (a : Int) (w : World) (V : Vars w) (h : SeeV w B v (ss.map str)) (hB : B ≤ w.heap.size) (hS : shortS ss) (hn : ss.length ≤ 1048576) :
    Calls Tryz.prog 69 #[v, .int .i64 a] w fun e w' => ∃ v', e = .returned v' ∧ SeeV w' B v' ((signsS ss a).map str) ∧ Below w.heap.size w w' := by
  obtain ⟨A, c, e⟩ := strs_shape h
  subst e
  rcases end_dec ss a with hq | hq
  · have HE := Lib.hid (signs_no (show sumEndS ss a < 0 by omega))
    have HQ := Lib.hid hq
    clear hq
    go_enter Tryz.func69, Tryz.ntmps69
    go_wp2_with fail
    refine (iSumEnd_any B _ ss a _ V h hB hS hn).mono ?_
    rintro e w1 ⟨rfl, b1⟩
    rw [HQ.out]
    go_wp2_with fail
    go_ret
    refine ⟨_, rfl, ?_, b1⟩
    rw [HE.out]
    exact ⟨Nat.zero_le _, none, 0, rfl, Nat.le_refl _, fun k x hx => by simp at hx⟩
  · obtain ⟨k, t, rfl, ht⟩ := sum_of_end hq
    have HE := Lib.hid (signs_tree ht)
    have HQ := Lib.hid (sum_end ht)
    have hl := sum_len ht
    have hp := t.pos
    have h0 : ∃ x, ss[0]? = some x := ⟨_, List.getElem?_eq_getElem (show 0 < ss.length by omega)⟩
    obtain ⟨x0, h0⟩ := h0
    obtain ⟨g, o, rfl, -, -⟩ := strs_at h h0
    have hc : ss.length ≤ c := by
      obtain ⟨_, A', c', he, hc, _⟩ := h
      injection he with _ _ e3
      rw [List.length_map] at hc
      omega
    have HP : Hid (((ss.map str).drop k).take t.flat.length = t.flat.map str) := Lib.hid (by
      obtain ⟨_, rest, h2⟩ := ht
      rw [← List.map_drop, h2, ← List.map_take, List.take_left' rfl])
    have hsl := h.part k t.flat.length (by rw [List.length_map]; omega)
    rw [HP.out] at hsl
    clear ht hq h0
    generalize t.flat.length = m at *
    go_enter Tryz.func69, Tryz.ntmps69
    go_wp2_with fail
    refine (iSumEnd_any B _ ss _ _ V h hB hS hn).mono ?_
    rintro e w1 ⟨rfl, b1⟩
    rw [HQ.out]
    go_wp2_with fail
    go_ret
    refine ⟨_, rfl, ?_, b1⟩
    rw [HE.out]
    have := hsl.below (b1.mono hB)
    rw [show m = k + m - k by omega] at this
    exact this

end Go.Proofs.YtblnonlcjfcblaaGreatDoor
