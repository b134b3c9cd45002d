/- The model's OrderOk. -/
import Derived.Test.YtigcbegeaikfcaaOrdM
namespace Go.Proofs.Ytigcbegeaikfcaa
open Go.RowKit
set_option linter.unusedVariables false

def BoolOf (w : World) (b : Bool) (e : Ending) (w' : World) : Prop := e = .returned (.bool b) ∧ Below w.heap.size w w'

theorem ordS_no {us : List Int} {i : Nat} (hi : i < us.length) (h : rowS us i = false) : ordS us = false := by
  simp only [ordS, Bool.and_eq_false_iff, List.all_eq_false, List.mem_range]
  exact .inr ⟨i, hi, by simp [h]⟩
theorem rowS_no {us : List Int} {i j : Nat} (hj : j < us.length) (h : cellS us i j = false) : rowS us i = false := by
  simp only [rowS, Bool.and_eq_false_iff, List.all_eq_false, List.mem_range]
  exact .inr ⟨j, hj, by simp [h]⟩
theorem all_succ {p : Nat → Bool} {k : Nat} (h : (List.range k).all p = true) (hk : p k = true) : (List.range (k + 1)).all p = true := by
  rw [List.range_succ, List.all_append, h]; simp [hk]

set_option maxHeartbeats 4000000 in
set_option maxRecDepth 100000 in
theorem sOrderOk_any (B : Nat) (v : Value) (us : List Int) (w : World) (hs : SeeI w B v us) (hB : B ≤ w.heap.size) : Calls Try.prog 66 #[.agg #[v]] w (BoolOf w (ordS us)) := by
  obtain ⟨A, c, rfl⟩ := hs.shape
  have hm := hs.1
  unfold maxLen at hm
  have hs2 := hs.alloc hB (.cells #[.slice A us.length c] 30)
  have hc0 : (w.alloc (.cells #[.slice A us.length c] 30)).cell? ⟨w.heap.size, 0, none⟩ = some (.slice A us.length c) := cell_of_row _ _ 0 _ _ (0, 0) (heap_alloc_new _ _)
  have b0 : Below w.heap.size w (w.alloc (.cells #[.slice A us.length c] 30)) := (Below.refl _ _).alloc (Nat.le_refl _) _
  by_cases h12 : 1 ≤ us.length ∧ us.length ≤ 6
  · have HI : Hid (inB (us.length : Int) 1 6 = true) := Lib.hid (inB_yes (by omega))
    have HO : Hid (ordS us = (List.range us.length).all (rowS us)) := Lib.hid (by simp [ordS, h12])
    obtain ⟨h1, h6⟩ := h12
    go_enter Try.func66, Try.ntmps66
    go_wp2_with fail
    refine (in_any _ _ _ _).mono ?_
    rintro e w' ⟨rfl, rfl⟩
    rw [HI.out]
    go_wp2_with fail
    generalize w.alloc _ = W at hs2 hc0 b0 ⊢
    go_loop [4] (fun i => ∃ k : Nat, k ≤ us.length ∧ i = .int .i64 k ∧ (List.range k).all (rowS us) = true) (fun i => us.length - (intOf i).toNat)
    case atStart => exact ⟨0, Nat.zero_le _, rfl, rfl⟩
    case round =>
      obtain ⟨k, hk, rfl, hall⟩ := hrel
      have HA := Lib.hid hall
      clear hall
      by_cases hlt : k < us.length
      · obtain ⟨g, o, u, rfl, -, hu, hcu⟩ := hs2.at_ hlt
        have HU : Hid (us.getD k 0 = u) := Lib.hid (by simp [hu])
        clear hu
        have no : Hid (headS us k = false → ordS us = false) := Lib.hid (fun h => ordS_no hlt (by simp [rowS, h]))
        by_cases q0 : u < 0
        · have HE : Hid (ordS us = false) := Lib.hid (no.out (by simp only [headS, HU.out, show ¬ 0 ≤ u from by omega, decide_false, Bool.false_and]))
          go_wp2_with fail
          go_ret
          rw [HE.out]
          exact ⟨rfl, b0⟩
        · cases q1 : (u / 2 ^ us.length != 0)
          · cases q2 : bitB u k
            · have HE : Hid (ordS us = false) := Lib.hid (no.out (by simp only [headS, upB, HU.out, q2, Bool.and_false]))
              go_wp2_with fail
              refine (l1Has_any _ _ (by omega) (by omega) _).mono ?_
              rintro e w' ⟨rfl, rfl⟩
              go_wp2_with fail
              go_ret
              rw [HE.out]
              exact ⟨rfl, b0⟩
            · have HH : Hid (headS us k = true) := Lib.hid (by
                have : u / 2 ^ us.length = 0 := by simpa using q1
                simp only [headS, upB, HU.out, q2, this, show 0 ≤ u from by omega, decide_true, Bool.and_true])
              go_wp2_with fail
              refine (l1Has_any _ _ (by omega) (by omega) _).mono ?_
              rintro e w' ⟨rfl, rfl⟩
              have Q2 := Lib.hid q2
              have Q1 := Lib.hid q1
              clear q1
              go_wp2_with fail
              clear q2
              go_loop [6] (fun i => ∃ j : Nat, j ≤ us.length ∧ i = .int .i64 j ∧ (List.range j).all (cellS us k) = true) (fun i => us.length - (intOf i).toNat)
              case atStart => exact ⟨0, Nat.zero_le _, rfl, rfl⟩
              case round =>
                obtain ⟨j, hj, rfl, hcell⟩ := hrel
                have HC := Lib.hid hcell
                clear hcell
                by_cases hjl : j < us.length
                · obtain ⟨g', o', y, he, -, hy, hcy⟩ := hs2.at_ hjl
                  injection he with he
                  injection he with he1 he2
                  subst he1 he2
                  have HY : Hid (us.getD j 0 = y) := Lib.hid (by simp [hy])
                  clear hy
                  have yes : Hid (cellS us k j = true → (List.range (j + 1)).all (cellS us k) = true) := Lib.hid (fun h => all_succ HC.out h)
                  have non : Hid (cellS us k j = false → ordS us = false) := Lib.hid (fun h => ordS_no hlt (rowS_no hjl h))
                  cases p : bitB u j
                  · have HE := Lib.hid (yes.out (by simp only [cellS, upB, HU.out, p, Bool.false_and, Bool.not_false]))
                    go_wp2_with fail
                    refine (l1Has_any _ _ (by omega) (by omega) _).mono ?_
                    rintro e w' ⟨rfl, rfl⟩
                    go_wp2_with fail
                    go_round
                    case rel => exact ⟨j + 1, by omega, by go_num, HE.out⟩
                    case measure => simp [intOf]; omega
                  · by_cases hkj : k = j
                    · have f1 : ((k : Int) != (j : Int)) = false := by simp [hkj]
                      cases z : (bits BinOp.andNot IntKind.i64 y u != 0)
                      · have z' : bits BinOp.andNot IntKind.i64 y u = 0 := by simpa using z
                        have HE := Lib.hid (yes.out (by simp only [cellS, upB, HU.out, HY.out, p, z', decide_eq_true hkj, decide_true, Bool.not_true, Bool.false_and, Bool.or_false, Bool.and_false, Bool.not_false]))
                        clear hkj z'
                        go_wp2_with fail
                        refine (l1Has_any _ _ (by omega) (by omega) _).mono ?_
                        rintro e w' ⟨rfl, rfl⟩
                        go_wp2_with fail
                        go_round
                        case rel => exact ⟨j + 1, by omega, by go_num, HE.out⟩
                        case measure => simp [intOf]; omega
                      · have z' : ¬ bits BinOp.andNot IntKind.i64 y u = 0 := by simpa using z
                        have HE := Lib.hid (non.out (by simp only [cellS, upB, HU.out, HY.out, p, z', decide_false, Bool.not_false, Bool.or_true, Bool.and_self, Bool.not_true]))
                        clear hkj z'
                        go_wp2_with fail
                        refine (l1Has_any _ _ (by omega) (by omega) _).mono ?_
                        rintro e w' ⟨rfl, rfl⟩
                        go_wp2_with fail
                        go_ret
                        rw [HE.out]
                        exact ⟨rfl, b0⟩
                    · have f1 : ((k : Int) != (j : Int)) = true := by simp; omega
                      cases r : bitB y k
                      · cases z : (bits BinOp.andNot IntKind.i64 y u != 0)
                        · have z' : bits BinOp.andNot IntKind.i64 y u = 0 := by simpa using z
                          have HE := Lib.hid (yes.out (by simp only [cellS, upB, HU.out, HY.out, p, r, z', decide_true, Bool.not_true, Bool.and_false, Bool.or_false, Bool.not_false]))
                          clear hkj z'
                          go_wp2_with fail
                          refine (l1Has_any _ _ (by omega) (by omega) _).mono ?_
                          rintro e w' ⟨rfl, rfl⟩
                          go_wp2_with fail
                          refine (l1Has_any _ _ (by omega) (by omega) _).mono ?_
                          rintro e w' ⟨rfl, rfl⟩
                          go_wp2_with fail
                          go_round
                          case rel => exact ⟨j + 1, by omega, by go_num, HE.out⟩
                          case measure => simp [intOf]; omega
                        · have z' : ¬ bits BinOp.andNot IntKind.i64 y u = 0 := by simpa using z
                          have HE := Lib.hid (non.out (by simp only [cellS, upB, HU.out, HY.out, p, z', decide_false, Bool.not_false, Bool.or_true, Bool.and_self, Bool.not_true]))
                          clear hkj z'
                          go_wp2_with fail
                          refine (l1Has_any _ _ (by omega) (by omega) _).mono ?_
                          rintro e w' ⟨rfl, rfl⟩
                          go_wp2_with fail
                          refine (l1Has_any _ _ (by omega) (by omega) _).mono ?_
                          rintro e w' ⟨rfl, rfl⟩
                          go_wp2_with fail
                          go_ret
                          rw [HE.out]
                          exact ⟨rfl, b0⟩
                      · have HE := Lib.hid (non.out (by simp only [cellS, upB, HU.out, HY.out, p, r, hkj, decide_false, Bool.not_false, Bool.true_and, Bool.true_or, Bool.not_true]))
                        clear hkj
                        go_wp2_with fail
                        refine (l1Has_any _ _ (by omega) (by omega) _).mono ?_
                        rintro e w' ⟨rfl, rfl⟩
                        go_wp2_with fail
                        refine (l1Has_any _ _ (by omega) (by omega) _).mono ?_
                        rintro e w' ⟨rfl, rfl⟩
                        go_wp2_with fail
                        go_ret
                        rw [HE.out]
                        exact ⟨rfl, b0⟩
                · obtain rfl : j = us.length := by omega
                  have HR : Hid ((List.range (k + 1)).all (rowS us) = true) := Lib.hid (all_succ HA.out (by simp only [rowS, HH.out, HC.out, Bool.and_true]))
                  go_wp2_with fail
                  go_round
                  case rel => exact ⟨k + 1, by omega, by go_num, HR.out⟩
                  case measure => simp [intOf]; omega
          · have HE : Hid (ordS us = false) := Lib.hid (no.out (by
              have : ¬ u / 2 ^ us.length = 0 := by simpa using q1
              simp only [headS, HU.out, this, decide_false, Bool.and_false, Bool.false_and]))
            go_wp2_with fail
            go_ret
            rw [HE.out]
            exact ⟨rfl, b0⟩
      · obtain rfl : k = us.length := by omega
        go_wp2_with fail
        go_ret
        rw [HO.out, HA.out]
        exact ⟨rfl, b0⟩
  · have HI : Hid (inB (us.length : Int) 1 6 = false) := Lib.hid (inB_no (by omega))
    have HO : Hid (ordS us = false) := Lib.hid (by simp only [ordS, h12, decide_false, Bool.false_and])
    clear h12
    go_enter Try.func66, Try.ntmps66
    go_wp2_with fail
    refine (in_any _ _ _ _).mono ?_
    rintro e w' ⟨rfl, rfl⟩
    rw [HI.out]
    go_wp2_with fail
    go_ret
    rw [HO.out]
    exact ⟨rfl, b0⟩

end Go.Proofs.Ytigcbegeaikfcaa
