/- JoinAll and BottomOf: the model's and the program's. -/
import Derived.Test.YtkpaidadofmpfaaLatE
import Derived.Test.YtkpaidadofmpfaaLatF
namespace Go.Proofs.Ytkpaidadofmpfaa
open Go.RowKit
set_option linter.unusedVariables false

theorem joinAllS_no {us : List Int} {s : Int} (h : ¬ (0 ≤ s ∧ s ≤ 2 ^ us.length - 1)) : joinAllS us s = -1 := by
  have : decide (0 ≤ s ∧ s ≤ 2 ^ us.length - 1) = false := decide_eq_false h
  rw [joinAllS, this, Bool.and_false]; rfl
theorem joinAllS_yes {us : List Int} {s : Int} (hl : latS us = true) (h : 0 ≤ s ∧ s ≤ 2 ^ us.length - 1) : joinAllS us s = leastT (upR us) (aboveR us (sel (bitB s) 6)) := by
  have : decide (0 ≤ s ∧ s ≤ 2 ^ us.length - 1) = true := decide_eq_true h
  rw [joinAllS, this, hl]; rfl
theorem joinAllS_not {us : List Int} (s : Int) (h : latS us = false) : joinAllS us s = -1 := by rw [joinAllS, h]; rfl

set_option maxHeartbeats 2000000 in
theorem sJoinAll_any (B : Nat) (v : Value) (us : List Int) (s : Int) (w : World) (hs : SeeI w B v us) (hB : B ≤ w.heap.size) : Calls Try.prog 23 #[.agg #[v], .int .i64 s] w (IntOf w (joinAllS us s)) := by
  obtain ⟨A, c, rfl⟩ := hs.shape
  have hs1 := hs.alloc hB (.cells #[.slice A us.length c] 26)
  have c0 : (w.alloc (.cells #[.slice A us.length c] 26)).cell? ⟨w.heap.size, 0, none⟩ = some (.slice A us.length c) := cell_of_row _ _ 0 _ _ (0, 0) (heap_alloc_new _ _)
  have b0 : Below w.heap.size w (w.alloc (.cells #[.slice A us.length c] 26)) := (Below.refl _ _).alloc (Nat.le_refl _) _
  have z0 : w.heap.size < (w.alloc (.cells #[.slice A us.length c] 26)).heap.size := by simp
  go_enter Try.func23, Try.ntmps23
  go_wp2_with fail
  generalize w.alloc _ = W at hs1 c0 b0 z0 ⊢
  refine (sLatticeOk_any B _ us _ hs1 (by omega)).mono ?_
  rintro e w1 ⟨rfl, hb1⟩
  have c1 := (hb1.cell (p := ⟨w.heap.size, 0, none⟩) (by simp; omega)).trans c0
  have s1 := hs1.below (hb1.mono (by omega))
  have b1 := below_then b0 hb1 (Nat.le_refl _)
  have g1 : w.heap.size < w1.heap.size := by have := hb1.size; omega
  clear hs1 c0 b0 hb1
  cases hl : latS us
  · have HE := Lib.hid (joinAllS_not s hl)
    go_wp2_with fail
    go_ret
    exact ⟨by rw [HE.out]; rfl, b1⟩
  · have h6 := (lat_ord hl).len.2
    by_cases q0 : s < 0
    · have HE := Lib.hid (joinAllS_no (us := us) (s := s) (by omega))
      clear hl
      go_wp2_with fail
      go_ret
      exact ⟨by rw [HE.out]; rfl, b1⟩
    · have hp0 : (0 : Int) < 2 ^ us.length := Int.pow_pos (by decide)
      cases q1 : (s / 2 ^ us.length != 0)
      · have Q : s / 2 ^ us.length = 0 := by simpa using q1
        have q2 : s ≤ 2 ^ us.length - 1 := by
          have e := Int.mul_ediv_add_emod s (2 ^ us.length)
          rw [Q, Int.mul_zero, Int.zero_add] at e
          have := Int.emod_lt_of_pos s hp0
          rw [e] at this
          omega
        have HE := Lib.hid (joinAllS_yes hl ⟨by omega, q2⟩)
        have HA := Lib.hid (l3All_any B _ us hl s (by omega) q2 w1 s1 (by omega))
        clear hl Q q2
        go_wp2_with fail
        refine HA.out.mono ?_
        rintro e w2 ⟨rfl, hb2⟩
        go_wp2_with fail
        go_ret
        exact ⟨by rw [HE.out]; rfl, below_then b1 hb2 (Nat.le_refl _)⟩
      · have Q : ¬ s / 2 ^ us.length = 0 := by simpa using q1
        have HE := Lib.hid (joinAllS_no (us := us) (s := s) (fun h => Q (Int.ediv_eq_zero_of_lt h.1 (by omega))))
        clear hl Q
        go_wp2_with fail
        go_ret
        exact ⟨by rw [HE.out]; rfl, b1⟩

theorem above_and (us ms : List Int) (m : Nat) : bits BinOp.and IntKind.i64 (setN (aboveR us ms)) (setN (upR us m)) = setN (aboveR us (ms ++ [(m : Int)])) := by
  rw [setN_and, above_snoc]

set_option maxHeartbeats 4000000 in
set_option maxRecDepth 100000 in
theorem iJoinAll_any (B : Nat) (v : Value) (us : List Int) (s : Int) (w : World) (hs : SeeI w B v us) (hB : B ≤ w.heap.size) : Calls Try.prog 21 #[.agg #[v], .int .i64 s] w (IntOf w (joinAllS us s)) := by
  obtain ⟨A, c, rfl⟩ := hs.shape
  have hm := hs.1
  have HR : Hid (latS us = true → latR us = upR us) := Lib.hid fun h => by simp [latR, h]
  go_enter Try.func21, Try.ntmps21
  go_wp2_with fail
  refine (latticeOf_any B _ us _ (hs.alloc hB _) (by simp; omega)).mono ?_
  rintro e w1 ⟨rfl, hb1⟩
  have g1 := hb1.size
  simp at g1
  have b1 := (below_then ((Below.refl w.heap.size w).alloc (Nat.le_refl _) _) hb1 (Nat.le_refl _)).alloc (by omega) (.cells (cellsI (ladR (latR us))) 46)
  have c1 : (w1.alloc (.cells (cellsI (ladR (latR us))) 46)).cell? ⟨w.heap.size, 0, none⟩ = some (.slice A us.length c) := by
    rw [World.cell?_alloc_lt _ _ _ (by simp; omega), hb1.cell (by simp)]
    exact cell_of_row _ _ 0 _ _ (0, 0) (heap_alloc_new _ _)
  have l1 := Lad.new w1 46 (ladR (latR us))
  rw [cells6 (ladR_len _)] at c1 l1 b1 ⊢
  clear hb1
  go_wp2_with fail
  generalize w1.alloc _ = W at c1 l1 b1 ⊢
  refine (rankCount_any _ _ _ hm _).mono ?_
  rintro e w2 ⟨rfl, hb2⟩
  have l2 := l1.below hb2 l1.lt
  have b2 := below_then b1 hb2 (Nat.le_refl _)
  clear c1 l1 b1 hb2
  go_wp2_with fail
  refine (iAllOf_any _ _).mono ?_
  rintro e w' ⟨rfl, rfl⟩
  cases hl : latS us
  · have HE := Lib.hid (joinAllS_not s hl)
    go_wp2_with fail
    go_ret
    exact ⟨by rw [HE.out]; rfl, b2⟩
  · have hP := lat_ord hl
    have h6 := hP.len.2
    rw [HR.out hl] at l2 ⊢
    have HA : Hid (allB us.length = 2 ^ us.length - 1) := Lib.hid (by simp [allB]; omega)
    rw [HA.out]
    have hp := pow_le64 h6
    have hp0 : (0 : Int) < 2 ^ us.length := Int.pow_pos (by decide)
    by_cases q0 : s < 0
    · have HE := Lib.hid (joinAllS_no (us := us) (s := s) (by omega))
      clear hl hP
      go_wp2_with fail
      go_ret
      exact ⟨by rw [HE.out]; rfl, b2⟩
    · by_cases q1 : 2 ^ us.length - 1 < s
      · have HE := Lib.hid (joinAllS_no (us := us) (s := s) (by omega))
        clear hl hP
        go_wp2_with fail
        go_ret
        exact ⟨by rw [HE.out]; rfl, b2⟩
      · have HE := Lib.hid (joinAllS_yes (s := s) hl ⟨by omega, by omega⟩)
        have HM : Hid (∀ x ∈ sel (bitB s) 6, ∃ m : Nat, x = m ∧ m < us.length) := Lib.hid fun x hx => members_lt hP (by omega) (by omega) hx
        have HB : Hid (memB s = sel (bitB s) 6) := Lib.hid (memB_yes (inB_yes (by omega)))
        have hml := sel_le (bitB s) 6
        have HL := Lib.hid fun W => leastOf_any (upR us) (pos_up hP) (aboveR us (sel (bitB s) 6)) W
        simp only [cells6 (ladR_len (upR us))] at HL
        have HF : Hid ((2 : Int) ^ us.length - 1 = setN (aboveR us [])) := Lib.hid (by rw [above_nil]; exact (setN_first us.length h6).symm)
        clear hl hP
        go_wp2_with fail
        refine (iMembers_any _ _).mono ?_
        rintro e w3 ⟨v3, rfl, o3, hb3⟩
        rw [HB.out] at o3
        have l3 := l2.below hb3 l2.lt
        have b3 := below_then b2 hb3 (Nat.le_refl _)
        clear l2 b2 hb3
        generalize sel (bitB s) 6 = ms at *
        have m3 := o3.see
        obtain ⟨A3, q3, rfl⟩ := m3.shape
        rw [HF.out]
        clear q1 o3
        go_wp2_with fail
        go_loop [8, 34] (fun r i => ∃ k : Nat, k ≤ ms.length ∧ i = .int .i64 k ∧ r = .int .i64 (setN (aboveR us (ms.take k)))) (fun _ i => ms.length - (intOf i).toNat)
        case atStart => exact ⟨0, Nat.zero_le _, rfl, by rw [List.take_zero]⟩
        case round =>
          obtain ⟨k, hk, rfl, rfl⟩ := hrel
          by_cases hlt : k < ms.length
          · obtain ⟨g, o, x, rfl, -, hx, hcx⟩ := m3.at_ hlt
            obtain ⟨m, rfl, hm'⟩ := HM.out x (List.mem_of_getElem? hx)
            have HT : Hid (ms.take (k + 1) = ms.take k ++ [(m : Int)]) := Lib.hid (by rw [List.take_add_one, hx]; rfl)
            have hA := above_and us (ms.take k) m
            rw [← HT.out] at hA
            have cr := l3.cell (k := m) (by rw [ladR_len]; omega)
            rw [ladR_at _ _ (by omega)] at cr
            have j1 : (m : Int) < 6 := by omega
            clear hx
            go_wp2_with fail
            go_round
            case rel => exact ⟨k + 1, by omega, by go_num, rfl⟩
            case measure => simp [intOf]; omega
          · obtain rfl : ms.length = k := by omega
            rw [List.take_length]
            obtain ⟨a0, a1, a2, a3, a4, a5⟩ := l3.reads
            go_wp2_with fail
            refine (HL.out _).mono ?_
            rintro e w4 ⟨rfl, hb4⟩
            go_wp2_with fail
            go_ret
            exact ⟨by rw [HE.out]; rfl, below_then b3 hb4 (Nat.le_refl _)⟩

set_option maxHeartbeats 1000000 in
theorem iBottomOf_any (B : Nat) (v : Value) (us : List Int) (w : World) (hs : SeeI w B v us) (hB : B ≤ w.heap.size) : Calls Try.prog 22 #[.agg #[v]] w (IntOf w (joinAllS us 0)) := by
  obtain ⟨A, c, rfl⟩ := hs.shape
  go_enter Try.func22, Try.ntmps22
  go_wp2_with fail
  refine (iJoinAll_any B _ us 0 _ (hs.alloc hB _) (by simp; omega)).mono ?_
  rintro e w1 ⟨rfl, hb1⟩
  go_wp2_with fail
  go_ret
  exact ⟨rfl, below_then ((Below.refl _ _).alloc (Nat.le_refl _) _) hb1 (Nat.le_refl _)⟩

end Go.Proofs.Ytkpaidadofmpfaa
