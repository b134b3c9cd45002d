/- The model's LatticeOk. -/
import Derived.Test.YtigcbegeaikfcaaLatC
namespace Go.Proofs.Ytigcbegeaikfcaa
open Go.RowKit
set_option linter.unusedVariables false

def pairS (us : List Int) (a b : Nat) : Bool := decide (0 ≤ joinS us a b) && decide (0 ≤ meetS us a b)
def pairsS (us : List Int) : Bool := (List.range us.length).all fun a => (List.range a).all (pairS us a)
theorem isR_yes {us : List Int} {a : Nat} (h : a < us.length) : isR us a = true := by simp [isR, h]
theorem joinS_yes {us : List Int} (h : ordS us = true) {a b : Nat} (ha : a < us.length) (hb : b < us.length) : joinS us a b = leastT (upR us) (bothR (upR us) a b) := by
  simp only [joinS, h, isR_yes ha, isR_yes hb, Bool.and_self, if_true, Int.toNat_natCast]
theorem meetS_yes {us : List Int} (h : ordS us = true) {a b : Nat} (ha : a < us.length) (hb : b < us.length) : meetS us a b = leastT (dnR us) (bothR (dnR us) a b) := by
  simp only [meetS, h, isR_yes ha, isR_yes hb, Bool.and_self, if_true, Int.toNat_natCast]
theorem lat_eq (us : List Int) : (pairsS us && ordS us) = latS us := by
  cases h : ordS us
  · simp [latS, h]
  · rw [Bool.and_true, Bool.eq_iff_iff]
    simp only [pairsS, pairS, latS, h, eachR, Bool.true_and, Bool.and_eq_true, List.all_eq_true, List.mem_range, decide_eq_true_eq]
    constructor
    · intro k
      exact ⟨fun a ha b hb => by have := (k a ha b hb).1; rwa [joinS_yes h ha (by omega)] at this, fun a ha b hb => by have := (k a ha b hb).2; rwa [meetS_yes h ha (by omega)] at this⟩
    · rintro ⟨k, l⟩ a ha b hb
      rw [joinS_yes h ha (by omega), meetS_yes h ha (by omega)]
      exact ⟨k a ha b hb, l a ha b hb⟩
theorem latS_no {us : List Int} {a b : Nat} (ha : a < us.length) (hb : b < a) (h : pairS us a b = false) : latS us = false := by
  rw [← lat_eq]
  have : pairsS us = false := by
    simp only [pairsS, List.all_eq_false, List.mem_range]
    exact ⟨a, ha, by simp only [Bool.not_eq_true, List.all_eq_false, List.mem_range]; exact ⟨b, hb, by simp [h]⟩⟩
  rw [this]; rfl

set_option maxHeartbeats 4000000 in
set_option maxRecDepth 100000 in
theorem sLatticeOk_any (B : Nat) (v : Value) (us : List Int) (w : World) (hs : SeeI w B v us) (hB : B ≤ w.heap.size) : Calls Try.prog 49 #[.agg #[v]] w (BoolOf w (latS us)) := by
  obtain ⟨A, c, rfl⟩ := hs.shape
  have hm := hs.1
  unfold maxLen at hm
  have hs2 := hs.alloc hB (.cells #[.slice A us.length c] 30)
  have hc0 : (w.alloc (.cells #[.slice A us.length c] 30)).cell? ⟨w.heap.size, 0, none⟩ = some (.slice A us.length c) := cell_of_row _ _ 0 _ _ (0, 0) (heap_alloc_new _ _)
  have b0 : Below w.heap.size w (w.alloc (.cells #[.slice A us.length c] 30)) := (Below.refl _ _).alloc (Nat.le_refl _) _
  have z0 : w.heap.size < (w.alloc (.cells #[.slice A us.length c] 30)).heap.size := by simp
  go_enter Try.func49, Try.ntmps49
  go_wp2_with fail
  generalize w.alloc _ = W at hs2 hc0 b0 z0 ⊢
  go_loopw [3] (fun i wr => ∃ k : Nat, k ≤ us.length ∧ i = .int .i64 k ∧ ((List.range k).all fun a => (List.range a).all (pairS us a)) = true ∧ wr.cell? ⟨w.heap.size, 0, none⟩ = some (.slice A us.length c) ∧ SeeI wr B (.slice A us.length c) us ∧ Below w.heap.size w wr ∧ w.heap.size < wr.heap.size) (fun i _ => us.length - (intOf i).toNat)
  case atStart => exact ⟨0, Nat.zero_le _, rfl, rfl, hc0, hs2, b0, z0⟩
  case round =>
    obtain ⟨k, hk, rfl, hA, c1, s1, b1, g1⟩ := hrel
    have HA := Lib.hid hA
    clear hs2 hc0 b0 z0 hA
    by_cases hlt : k < us.length
    · have no : Hid (∀ j, j < k → pairS us k j = false → latS us = false) := Lib.hid fun j hj h => latS_no hlt hj h
      go_wp2_with fail
      obtain ⟨wo, rfl⟩ : ∃ x, x = wr := ⟨_, rfl⟩
      go_loopw [4] (fun i wr => ∃ j : Nat, j ≤ k ∧ i = .int .i64 j ∧ ((List.range j).all (pairS us k)) = true ∧ wr.cell? ⟨w.heap.size, 0, none⟩ = some (.slice A us.length c) ∧ SeeI wr B (.slice A us.length c) us ∧ Below w.heap.size w wr ∧ w.heap.size < wr.heap.size) (fun i _ => k - (intOf i).toNat)
      case atStart => exact ⟨0, Nat.zero_le _, rfl, rfl, c1, s1, b1, g1⟩
      case round =>
        obtain ⟨j, hj, rfl, hC, c2, s2, b2, g2⟩ := hrel
        have HC := Lib.hid hC
        clear c1 s1 b1 g1 hC
        by_cases hjl : j < k
        · cases p : decide (0 ≤ joinS us k j)
          · have HE : Hid (latS us = false) := Lib.hid (no.out j hjl (by simp only [pairS, p, Bool.false_and]))
            have p' : joinS us k j < 0 := by have := of_decide_eq_false p; omega
            clear p
            have HJ := Lib.hid (sJoin_any B _ us k j wr s2 (by omega))
            generalize joinS us k j = J at p' HJ
            go_wp2_with fail
            refine HJ.out.mono ?_
            rintro e w3 ⟨rfl, hb3⟩
            go_wp2_with fail
            go_ret
            exact ⟨by rw [HE.out]; rfl, below_then b2 hb3 (Nat.le_refl _)⟩
          · cases q : decide (0 ≤ meetS us k j)
            · have HE : Hid (latS us = false) := Lib.hid (no.out j hjl (by simp only [pairS, q, Bool.and_false]))
              have p' : ¬ joinS us k j < 0 := by have := of_decide_eq_true p; omega
              have q' : meetS us k j < 0 := by have := of_decide_eq_false q; omega
              clear p q
              have HJ := Lib.hid (sJoin_any B _ us k j wr s2 (by omega))
              generalize joinS us k j = J at p' HJ
              go_wp2_with fail
              refine HJ.out.mono ?_
              rintro e w3 ⟨rfl, hb3⟩
              have c3 := (hb3.cell (p := ⟨w.heap.size, 0, none⟩) (by simp; omega)).trans c2
              have s3 := s2.below (hb3.mono (by omega))
              have g3 := hb3.size
              have HM := Lib.hid (sMeet_any B _ us k j w3 s3 (by omega))
              generalize meetS us k j = M at q' HM
              go_wp2_with fail
              refine HM.out.mono ?_
              rintro e w4 ⟨rfl, hb4⟩
              go_wp2_with fail
              go_ret
              exact ⟨by rw [HE.out]; rfl, below_then (below_then b2 hb3 (Nat.le_refl _)) hb4 (Nat.le_refl _)⟩
            · have HR : Hid ((List.range (j + 1)).all (pairS us k) = true) := Lib.hid (all_succ HC.out (by simp only [pairS, p, q, Bool.and_self]))
              have p' : ¬ joinS us k j < 0 := by have := of_decide_eq_true p; omega
              have q' : ¬ meetS us k j < 0 := by have := of_decide_eq_true q; omega
              clear p q
              have HJ := Lib.hid (sJoin_any B _ us k j wr s2 (by omega))
              generalize joinS us k j = J at p' HJ
              go_wp2_with fail
              refine HJ.out.mono ?_
              rintro e w3 ⟨rfl, hb3⟩
              have c3 := (hb3.cell (p := ⟨w.heap.size, 0, none⟩) (by simp; omega)).trans c2
              have s3 := s2.below (hb3.mono (by omega))
              have g3 := hb3.size
              have HM := Lib.hid (sMeet_any B _ us k j w3 s3 (by omega))
              generalize meetS us k j = M at q' HM
              go_wp2_with fail
              refine HM.out.mono ?_
              rintro e w4 ⟨rfl, hb4⟩
              have c4 := (hb4.cell (p := ⟨w.heap.size, 0, none⟩) (by simp; omega)).trans c3
              have s4 := s3.below (hb4.mono (by omega))
              have g4 := hb4.size
              have b4 := below_then (below_then b2 hb3 (Nat.le_refl _)) hb4 (Nat.le_refl _)
              go_wp2_with fail
              go_roundw
              case rel => exact ⟨j + 1, by omega, by go_num, HR.out, c4, s4, b4, by omega⟩
              case measure => simp [intOf]; omega
        · obtain rfl : j = k := by omega
          have HR : Hid (((List.range (j + 1)).all fun a => (List.range a).all (pairS us a)) = true) := Lib.hid (all_succ HA.out HC.out)
          go_wp2_with fail
          go_roundw
          case rel => exact ⟨j + 1, by omega, by go_num, HR.out, c2, s2, b2, g2⟩
          case measure => simp [intOf]; omega
    · obtain rfl : k = us.length := by omega
      have HE : Hid (latS us = ordS us) := Lib.hid (by rw [← lat_eq, show pairsS us = true from HA.out, Bool.true_and])
      have HJ := Lib.hid (sOrderOk_any B _ us wr s1 (by omega))
      go_wp2_with fail
      refine HJ.out.mono ?_
      rintro e w3 ⟨rfl, hb3⟩
      go_wp2_with fail
      go_ret
      exact ⟨by rw [HE.out]; rfl, below_then b1 hb3 (Nat.le_refl _)⟩

end Go.Proofs.Ytigcbegeaikfcaa
