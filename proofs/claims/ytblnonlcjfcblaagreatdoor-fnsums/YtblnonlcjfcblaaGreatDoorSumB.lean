/- Layer 6 (sums): the model's SumEnd. No conditions but those typed. -/
import Derived.Test.YtblnonlcjfcblaaGreatDoorSumA
namespace Go.Proofs.YtblnonlcjfcblaaGreatDoor
open Go.RowKit
set_option linter.unusedVariables false

/-- No sign is longer than that. -/
def shortS (ss : List (List UInt8)) : Prop := ∀ s ∈ ss, s.length ≤ 1048576
def IntLt (w : World) (x : Int) (e : Ending) (w' : World) : Prop := e = .returned (.int .i64 x) ∧ Below w.heap.size w w'

set_option maxHeartbeats 4000000 in
theorem sSumEnd_neg (n c : Nat) (A : Option Addr) (a : Int) (w : World) (ha : a < 0) : Calls Tryz.prog 45 #[.slice A n c, .int .i64 a] w (IntLt w (-1)) := by
  go_enter Tryz.func45, Tryz.ntmps45
  go_wp2_with fail
  go_loopw [1, 5, 6, 7, 28, 37] (fun i j _ _ _ _ wr => i = .int .i64 a ∧ j = .int .i64 1 ∧ wr = w) (fun _ _ _ _ _ _ _ => 0)
  case atStart => exact ⟨rfl, rfl, rfl⟩
  case round =>
    obtain ⟨rfl, rfl, rfl⟩ := hrel
    go_wp2_with fail
    go_ret
    exact ⟨rfl, Below.refl _ _⟩

theorem leaf_name {s : List UInt8} (h : rdS s = none) : leafB s = nameB s := by unfold leafB; rw [h]; rfl
theorem leaf_word {s : List UInt8} {v : Int} (h : rdS s = some v) : leafB s = true := by unfold leafB; rw [h]; rfl
theorem ret_neg {R : Int} (h : R = -1) : Ending.returned (.int .i64 (-1)) = .returned (.int .i64 R) := by rw [h]

set_option maxHeartbeats 4000000 in
theorem sSumEnd_nat (B : Nat) (v : Value) (ss : List (List UInt8)) (k0 : Nat) (w : World) (h : SeeV w B v (ss.map str)) (hB : B ≤ w.heap.size) (hS : shortS ss) (hn : ss.length ≤ 1048576) :
    Calls Tryz.prog 45 #[v, .int .i64 k0] w (IntLt w (finS ss k0 1)) := by
  obtain ⟨A, c, rfl⟩ := strs_shape h
  generalize hR : finS ss k0 1 = R
  have HR := Lib.hid hR
  clear hR
  go_enter Tryz.func45, Tryz.ntmps45
  go_wp2_with fail
  go_loopw [1, 5, 6, 7, 28, 37] (fun i j _ _ _ _ wr => ∃ (k n : Nat), i = .int .i64 k ∧ j = .int .i64 n ∧ Below w.heap.size w wr ∧ ((n = 0 ∧ R = k) ∨ (1 ≤ n ∧ n ≤ k + 1 ∧ R = finS ss k n))) (fun i j _ _ _ _ _ => ss.length - (intOf i).toNat + (intOf j).toNat * 0)
  case atStart => exact ⟨k0, 1, rfl, rfl, Below.refl _ _, .inr ⟨by omega, by omega, HR.out.symm⟩⟩
  case round =>
    obtain ⟨k, n, rfl, rfl, hbw, hst⟩ := hrel
    rcases hst with ⟨rfl, hq⟩ | ⟨n1, n2, hq⟩
    · have HQ := Lib.hid hq
      clear hq
      go_wp2_with fail
      go_ret
      exact ⟨ret_int HQ.out.symm, hbw⟩
    have HQ := Lib.hid hq
    clear hq
    by_cases hlt : k < ss.length
    · have hx := List.getElem?_eq_getElem hlt
      generalize ss[k] = x at hx
      have hsx := hS x (List.mem_of_getElem? hx)
      obtain ⟨g, o, rfl, hgB, hcx⟩ := strs_at (h.below (hbw.mono hB)) hx
      have c1 := fun W (q : Below wr.heap.size wr W) => (q.cell (p := ⟨g, o + k, none⟩) (World.block_lt_of_cell? wr _ hcx)).trans hcx
      go_wp2_with fail
      refine (sReadWord_any x hsx _).mono ?_
      rintro e w' ⟨rfl, rfl⟩
      generalize hrd : rdS x = rd
      have HRD := Lib.hid hrd
      clear hrd
      go_wp2_with fail
      refine (l6Op_any x _).mono ?_
      rintro e w2 ⟨rfl, b2⟩
      have hc2 := c1 _ b2
      replace b2 := below_then hbw b2 (Nat.le_refl _)
      obtain ⟨r0, r1⟩ := opN_range x
      generalize hop : opN x = op at r0 r1 ⊢
      have HOP := Lib.hid hop
      clear hop c1 hcx
      by_cases ho : op = 0
      · subst ho
        cases rd with
        | some y =>
          have HLF := Lib.hid (leaf_word HRD.out)
          by_cases hn1 : n = 1
          · subst hn1
            have HE : Hid (R = ((k + 1 : Nat) : Int)) := Lib.hid (HQ.out.trans (fin_last hx HOP.out HLF.out))
            clear hx
            go_wp2_with fail
            go_roundw
            case rel => exact ⟨k + 1, 0, by go_num, by go_num, b2, .inl ⟨rfl, HE.out⟩⟩
            case measure => simp [intOf]; omega
          · have HE : Hid (R = finS ss (k + 1) (n - 1)) := Lib.hid (HQ.out.trans (fin_leaf hx HOP.out HLF.out hn1))
            clear hx
            go_wp2_with fail
            go_roundw
            case rel => exact ⟨k + 1, n - 1, by go_num, by go_num, b2, .inr ⟨by omega, by omega, HE.out⟩⟩
            case measure => simp [intOf]; omega
        | none =>
          cases hnm : nameB x
          · have HLF : Hid (leafB x = false) := Lib.hid ((leaf_name HRD.out).trans hnm)
            have HE := Lib.hid (HQ.out.trans (fin_bad hx HOP.out HLF.out))
            have HNM := Lib.hid hnm
            clear hx hnm
            go_wp2_with fail
            refine (sNameOk_any x hsx _).mono ?_
            rintro e w' ⟨rfl, rfl⟩
            rw [HNM.out]
            go_wp2_with fail
            go_ret
            exact ⟨ret_neg HE.out, b2⟩
          · have HLF : Hid (leafB x = true) := Lib.hid ((leaf_name HRD.out).trans hnm)
            have HNM := Lib.hid hnm
            clear hnm
            by_cases hn1 : n = 1
            · subst hn1
              have HE : Hid (R = ((k + 1 : Nat) : Int)) := Lib.hid (HQ.out.trans (fin_last hx HOP.out HLF.out))
              clear hx
              go_wp2_with fail
              refine (sNameOk_any x hsx _).mono ?_
              rintro e w' ⟨rfl, rfl⟩
              rw [HNM.out]
              go_wp2_with fail
              go_roundw
              case rel => exact ⟨k + 1, 0, by go_num, by go_num, b2, .inl ⟨rfl, HE.out⟩⟩
              case measure => simp [intOf]; omega
            · have HE : Hid (R = finS ss (k + 1) (n - 1)) := Lib.hid (HQ.out.trans (fin_leaf hx HOP.out HLF.out hn1))
              clear hx
              go_wp2_with fail
              refine (sNameOk_any x hsx _).mono ?_
              rintro e w' ⟨rfl, rfl⟩
              rw [HNM.out]
              go_wp2_with fail
              go_roundw
              case rel => exact ⟨k + 1, n - 1, by go_num, by go_num, b2, .inr ⟨by omega, by omega, HE.out⟩⟩
              case measure => simp [intOf]; omega
      · have HE : Hid (R = finS ss (k + 1) (n + 1)) := Lib.hid (HQ.out.trans (fin_op hx (by rw [HOP.out]; exact ho)))
        have ho' : 0 < op := by omega
        clear hx
        go_wp2_with fail
        go_roundw
        case rel => exact ⟨k + 1, n + 1, by go_num, by go_num, b2, .inr ⟨by omega, by omega, HE.out⟩⟩
        case measure => simp [intOf]; omega
    · have HE := Lib.hid (HQ.out.trans (fin_out (by omega)))
      go_wp2_with fail
      go_ret
      exact ⟨ret_neg HE.out, hbw⟩

theorem sSumEnd_any (B : Nat) (v : Value) (ss : List (List UInt8)) (a : Int) (w : World) (h : SeeV w B v (ss.map str)) (hB : B ≤ w.heap.size) (hS : shortS ss) (hn : ss.length ≤ 1048576) :
    Calls Tryz.prog 45 #[v, .int .i64 a] w (IntLt w (sumEndS ss a)) := by
  by_cases ha : a < 0
  · obtain ⟨A, c, rfl⟩ := strs_shape h
    rw [end_neg ha]
    exact sSumEnd_neg _ _ _ a w ha
  · obtain ⟨k, rfl⟩ : ∃ k : Nat, a = k := ⟨a.toNat, by omega⟩
    rw [end_nat]
    exact sSumEnd_nat B v ss k w h hB hS hn

end Go.Proofs.YtblnonlcjfcblaaGreatDoor
