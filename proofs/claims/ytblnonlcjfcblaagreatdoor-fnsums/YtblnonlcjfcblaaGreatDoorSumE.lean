/- Layer 6 (sums): MayFail, of the program and of the model. Condition for the program's: the listed variables hold what the program's text lays (Vars). -/
import Derived.Test.YtblnonlcjfcblaaGreatDoorSumD
namespace Go.Proofs.YtblnonlcjfcblaaGreatDoor
open Go.RowKit
set_option linter.unusedVariables false

def mayB (ss : List (List UInt8)) (a : Int) : Bool := decide ([47] ∈ signsS ss a)
theorem may_no {ss : List (List UInt8)} {a : Int} (h : sumEndS ss a < 0) : mayB ss a = false := by unfold mayB; rw [signs_no h]; rfl
theorem sign_at {ss : List (List UInt8)} {k p : Nat} {t : Sum} (h : SumAt ss k t) (hp : p < t.flat.length) : ss[k + p]? = t.flat[p]? := by
  obtain ⟨h1, rest, h2⟩ := h
  rw [← List.getElem?_drop, h2, List.getElem?_append_left hp]
theorem mem_take_no {α : Type} {l : List α} {p : Nat} {x y : α} (h : ¬ y ∈ l.take p) (hx : l[p]? = some x) (hn : ¬ x = y) : ¬ y ∈ l.take (p + 1) := by
  rw [List.take_add_one, hx, List.mem_append]
  rintro (q | q)
  · exact h q
  · have : y = x := by simpa using q
    exact hn this.symm

set_option maxHeartbeats 2000000 in
theorem sMayFail_any (B : Nat) (v : Value) (ss : List (List UInt8)) (a : Int) (w : World) (h : SeeV w B v (ss.map str)) (hB : B ≤ w.heap.size) (hS : shortS ss) (hn : ss.length ≤ 1048576) :
    Calls Tryz.prog 46 #[v, .int .i64 a] w (BoolLt w (mayB ss a)) := by
  obtain ⟨A, c, e⟩ := strs_shape h
  subst e
  rcases end_dec ss a with hq | hq
  · have HE := Lib.hid (may_no (show sumEndS ss a < 0 by omega))
    have HQ := Lib.hid hq
    clear hq
    go_enter Tryz.func46, Tryz.ntmps46
    go_wp2_with fail
    refine (sSumEnd_any B _ ss a _ h hB hS hn).mono ?_
    rintro e w1 ⟨rfl, b1⟩
    rw [HQ.out]
    go_wp2_with fail
    go_loopw [1] (fun i wr => i = .int .i64 a ∧ wr = w1) (fun _ _ => 0)
    case atStart => exact ⟨rfl, rfl⟩
    case round =>
      obtain ⟨rfl, rfl⟩ := hrel
      by_cases ha : a < 0
      · have hd : decide (0 ≤ a) = false := by simp; omega
        go_wp2_with fail
        go_ret
        exact ⟨ret_bool HE.out.symm, b1⟩
      · have hd : decide (0 ≤ a) = true := by simp; omega
        go_wp2_with fail
        go_ret
        exact ⟨ret_bool HE.out.symm, b1⟩
  · obtain ⟨k, t, rfl, ht⟩ := sum_of_end hq
    have HT := Lib.hid ht
    have HQ := Lib.hid (sum_end ht)
    have hl := sum_len ht
    have HM : Hid (mayB ss (k : Int) = decide ([47] ∈ t.flat)) := Lib.hid (by unfold mayB; rw [signs_tree ht])
    clear ht hq
    generalize mayB ss (k : Int) = R at HM ⊢
    generalize hm : t.flat.length = m at HQ hl
    have HL := Lib.hid hm
    clear hm
    go_enter Tryz.func46, Tryz.ntmps46
    go_wp2_with fail
    refine (sSumEnd_any B _ ss _ _ h hB hS hn).mono ?_
    rintro e w1 ⟨rfl, b1⟩
    rw [HQ.out]
    go_wp2_with fail
    go_loopw [1] (fun i wr => ∃ p : Nat, p ≤ m ∧ i = .int .i64 ((k + p : Nat) : Int) ∧ ¬ [47] ∈ t.flat.take p ∧ wr = w1) (fun i _ => k + m - (intOf i).toNat)
    case atStart => exact ⟨0, Nat.zero_le _, rfl, by simp, rfl⟩
    case round =>
      obtain ⟨p, hp, rfl, hno, rfl⟩ := hrel
      have HN := Lib.hid hno
      clear hno
      by_cases hlt : p < m
      · have hx := List.getElem?_eq_getElem (show k + p < ss.length by omega)
        generalize ss[k + p]'(_) = x at hx
        obtain ⟨g, o, rfl, -, hcx⟩ := strs_at (h.below (b1.mono hB)) hx
        have HX : Hid (t.flat[p]? = some x) := Lib.hid (by rw [← sign_at HT.out (by have := HL.out; omega)]; exact hx)
        clear hx
        by_cases hs : x = [47]
        · have HE : Hid (R = true) := Lib.hid (by rw [HM.out, decide_eq_true_eq, ← hs]; exact List.mem_of_getElem? HX.out)
          subst hs
          go_wp2_with fail
          go_ret
          exact ⟨ret_bool HE.out.symm, b1⟩
        · have HE := Lib.hid (mem_take_no HN.out HX.out hs)
          have hf : (x == [47]) = false := by simpa using hs
          clear hs
          go_wp2_with fail
          go_roundw
          case rel => exact ⟨p + 1, by omega, by go_num, HE.out, by first | rfl | trivial⟩
          case measure => simp [intOf]; omega
      · have HE : Hid (R = false) := Lib.hid (by
          rw [HM.out, decide_eq_false_iff_not]
          have := HN.out
          rwa [List.take_of_length_le (by have := HL.out; omega)] at this)
        go_wp2_with fail
        go_ret
        exact ⟨ret_bool HE.out.symm, b1⟩

theorem contains_strs (l : List (List UInt8)) (s : List UInt8) : Lib.containsS (l.map fun x => (⟨x.toArray⟩ : ByteArray)) ⟨s.toArray⟩ = decide (s ∈ l) := by
  cases h : Lib.containsS (l.map fun x => (⟨x.toArray⟩ : ByteArray)) ⟨s.toArray⟩
  · symm
    rw [decide_eq_false_iff_not]
    intro hm
    have := (Lib.containsS_iff (l.map fun x => (⟨x.toArray⟩ : ByteArray)) ⟨s.toArray⟩).2 (List.mem_map_of_mem hm)
    rw [h] at this
    cases this
  · symm
    rw [decide_eq_true_eq]
    obtain ⟨x, hx, e⟩ := List.mem_map.1 ((Lib.containsS_iff _ _).1 h)
    injection e with e
    have : x = s := by simpa using e
    rwa [← this]

theorem contains_any (B : Nat) (v : Value) (l : List (List UInt8)) (s : List UInt8) (w : World) (h : SeeV w B v (l.map str)) : Calls Tryz.prog 72 #[v, str s] w fun e w' => e = .returned (.bool (decide (s ∈ l))) ∧ w' = w := by
  have hm := strs_len h
  unfold maxLen at hm
  obtain ⟨A, c, e⟩ := strs_shape h
  subst e
  cases l with
  | nil => exact (Tryz.slices_Contains_string_empty A c _ w).mono fun e w' ⟨he, hw⟩ => ⟨by rw [he]; rfl, hw⟩
  | cons x r =>
    obtain ⟨g, o, rfl, -, -⟩ := strs_at h (k := 0) (x := x) rfl
    refine (Tryz.slices_Contains_string g o (x :: r).length c ((x :: r).map fun x => (⟨x.toArray⟩ : ByteArray)) ⟨s.toArray⟩ w (by simp) (by omega) ?_).mono ?_
    · intro j hj
      have hj' : j < (x :: r).length := by simpa using hj
      obtain ⟨g', o', he, -, hc⟩ := strs_at h (List.getElem?_eq_getElem hj')
      injection he with he
      injection he with e1 e2
      subst e1 e2
      rw [hc, List.getD_eq_getElem?_getD, List.getElem?_map, List.getElem?_eq_getElem hj']
      rfl
    · rintro e w' ⟨rfl, hw⟩
      refine ⟨?_, hw⟩
      rw [← contains_strs, List.take_of_length_le (by simp)]

set_option maxHeartbeats 1000000 in
theorem iMayFail_any (B : Nat) (v : Value) (ss : List (List UInt8)) (a : Int) (w : World) (V : Vars w) (h : SeeV w B v (ss.map str)) (hB : B ≤ w.heap.size) (hS : shortS ss) (hn : ss.length ≤ 1048576) :
    Calls Tryz.prog 43 #[v, .int .i64 a] w (BoolLt w (mayB ss a)) := by
  obtain ⟨A, c, e⟩ := strs_shape h
  subst e
  go_enter Tryz.func43, Tryz.ntmps43
  go_wp2_with fail
  refine (sumAt_any B _ ss a _ V h hB hS hn).mono ?_
  rintro e w1 ⟨v1, rfl, h1, b1⟩
  obtain ⟨A1, c1, e1⟩ := strs_shape h1
  subst e1
  go_wp2_with fail
  refine (contains_any B _ _ [47] _ h1).mono ?_
  rintro e w' ⟨rfl, rfl⟩
  have HM : Hid (mayB ss a = decide ([47] ∈ signsS ss a)) := Lib.hid rfl
  generalize decide ([47] ∈ signsS ss a) = q at HM ⊢
  go_wp2_with fail
  go_ret
  exact ⟨ret_bool HM.out.symm, b1⟩

end Go.Proofs.YtblnonlcjfcblaaGreatDoor
