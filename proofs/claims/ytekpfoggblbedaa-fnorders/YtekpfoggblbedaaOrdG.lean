/- The model's IsChain. -/
import Derived.Test.YtekpfoggblbedaaOrdF
namespace Go.Proofs.Ytekpfoggblbedaa
open Go.RowKit
set_option linter.unusedVariables false

theorem below_of {us : List Int} (h : ordS us = true) {a b : Nat} (ha : a < us.length) (hb : b < us.length) : belowS us a b = upB us a b := by
  have h1 : isR us a = true := by simp [isR, ha]
  have h2 : isR us b = true := by simp [isR, hb]
  simp only [belowS, h, h1, h2, Bool.true_and, Int.toNat_natCast]
theorem ord_in {us : List Int} (h : OrdP us) {a x : Nat} (ha : a < us.length) (hx : x < 6) (p : upB us a x = true) : x < us.length := by
  rcases Nat.lt_or_ge x us.length with h' | h'
  · exact h'
  · have := bit_high (us.getD a 0) us.length x h.len.2 hx (h.low a ha).1 (h.low a ha).2 h'
    rw [upB, this] at p; cases p
def twoS (us : List Int) (a b : Nat) : Bool := belowS us a b || belowS us b a
theorem chainS_iff (us : List Int) : chainS us = true ↔ ordS us = true ∧ ∀ a b, a < us.length → b < a → twoS us a b = true := by
  simp only [chainS, Bool.and_eq_true, decide_eq_true_eq]
  refine and_congr_right fun ho => ?_
  have hP := (ordS_iff us).1 ho
  have hl := hP.len
  constructor
  · intro h a b ha hb
    have := ladR_inj h a b (by omega) (by omega)
    simp only [inEitherR, turnR, everyR, show a < 6 from by omega, show b < 6 from by omega, show b < us.length from by omega, ha, if_true, decide_true, Bool.true_and, upR, upK] at this
    rw [twoS, below_of ho ha (by omega), below_of ho (by omega) ha]
    exact this
  · intro h
    refine ladR_congr fun a b ha hb => ?_
    simp only [inEitherR, turnR, everyR, ha, hb, if_true, decide_true, Bool.true_and, upR, upK]
    by_cases p : a < us.length <;> by_cases q : b < us.length
    · simp only [p, q, decide_true, Bool.true_and]
      show (upB us a b || upB us b a) = true
      rcases Nat.lt_trichotomy a b with e | e | e
      · have := h b a q e
        rw [twoS, below_of ho q p, below_of ho p q] at this
        rwa [Bool.or_comm]
      · subst e
        rw [hP.self a p]; rfl
      · have := h a b p e
        rwa [twoS, below_of ho p q, below_of ho q p] at this
    · simp only [p, q, decide_true, decide_false, Bool.true_and, Bool.false_and, Bool.or_false]
      cases e : bitB (us.getD a 0) b
      · rfl
      · exact absurd (ord_in hP p hb e) q
    · simp only [p, q, decide_true, decide_false, Bool.true_and, Bool.false_and, Bool.false_or]
      cases e : bitB (us.getD b 0) a
      · rfl
      · exact absurd (ord_in hP q ha e) p
    · simp only [p, q, decide_false, Bool.false_and, Bool.or_false]
theorem chain_no {us : List Int} {a b : Nat} (ha : a < us.length) (hb : b < a) (h : twoS us a b = false) : chainS us = false := by
  cases e : chainS us
  · rfl
  · rw [((chainS_iff us).1 e).2 a b ha hb] at h; cases h
theorem chain_yes {us : List Int} (h : ∀ a b, a < us.length → b < a → twoS us a b = true) : chainS us = ordS us := by
  cases e : ordS us
  · simp [chainS, e]
  · exact (chainS_iff us).2 ⟨e, h⟩

set_option maxHeartbeats 2000000 in
theorem sIsChain_any (B : Nat) (v : Value) (us : List Int) (w : World) (hs : SeeI w B v us) (hB : B ≤ w.heap.size) : Calls Try.prog 13 #[.agg #[v]] w (BoolOf w (chainS us)) := by
  obtain ⟨A, c, rfl⟩ := hs.shape
  have hm := hs.1
  unfold maxLen at hm
  have hs1 := hs.alloc hB (.cells #[.slice A us.length c] 26)
  have c0 : (w.alloc (.cells #[.slice A us.length c] 26)).cell? ⟨w.heap.size, 0, none⟩ = some (.slice A us.length c) := cell_of_row _ _ 0 _ _ (0, 0) (heap_alloc_new _ _)
  have b0 : Below w.heap.size w (w.alloc (.cells #[.slice A us.length c] 26)) := (Below.refl _ _).alloc (Nat.le_refl _) _
  have z0 : w.heap.size < (w.alloc (.cells #[.slice A us.length c] 26)).heap.size := by simp
  go_enter Try.func13, Try.ntmps13
  go_wp2_with fail
  generalize w.alloc _ = W at hs1 c0 b0 z0 ⊢
  go_loopw [3] (fun i wr => ∃ k : Nat, k ≤ us.length ∧ i = .int .i64 k ∧ (∀ a b, a < k → b < a → twoS us a b = true) ∧ wr.cell? ⟨w.heap.size, 0, none⟩ = some (.slice A us.length c) ∧ SeeI wr B (.slice A us.length c) us ∧ Below w.heap.size w wr ∧ w.heap.size < wr.heap.size) (fun i _ => us.length - (intOf i).toNat)
  case atStart => exact ⟨0, Nat.zero_le _, rfl, fun a b h => absurd h (by omega), c0, hs1, b0, z0⟩
  case round =>
    obtain ⟨k, hk, rfl, hall, c1, s1, b1, g1⟩ := hrel
    have HA := Lib.hid hall
    clear c0 hs1 b0 z0 hall
    by_cases hlt : k < us.length
    · go_wp2_with fail
      go_loopw [4] (fun i wr => ∃ j : Nat, j ≤ k ∧ i = .int .i64 j ∧ (∀ b, b < j → twoS us k b = true) ∧ wr.cell? ⟨w.heap.size, 0, none⟩ = some (.slice A us.length c) ∧ SeeI wr B (.slice A us.length c) us ∧ Below w.heap.size w wr ∧ w.heap.size < wr.heap.size) (fun i _ => k - (intOf i).toNat)
      case atStart => exact ⟨0, Nat.zero_le _, rfl, fun b h => absurd h (by omega), c1, s1, b1, g1⟩
      case round =>
        obtain ⟨j, hj, rfl, hrow, c2, s2, b2, g2⟩ := hrel
        have HR := Lib.hid hrow
        clear c1 s1 b1 g1 hrow
        by_cases hjk : j < k
        · have yes : Hid (twoS us k j = true → ∀ b, b < j + 1 → twoS us k b = true) := Lib.hid (fun h b hb => by
            rcases Nat.lt_or_ge b j with h' | h'
            · exact HR.out b h'
            · obtain rfl : b = j := by omega
              exact h)
          cases p : belowS us k j
          · cases q : belowS us j k
            · have HE := Lib.hid (chain_no hlt hjk (by simp only [twoS, p, q, Bool.or_self]))
              go_wp2_with fail
              refine (sBelow_any B _ us _ _ _ s2 (by omega)).mono ?_
              rintro e w3 ⟨rfl, hb3⟩
              rw [p]
              have c3 := (hb3.cell (p := ⟨w.heap.size, 0, none⟩) (by simp; omega)).trans c2
              have s3 := s2.below (hb3.mono (by omega))
              have g3 := Nat.lt_of_lt_of_le g2 hb3.size
              go_wp2_with fail
              refine (sBelow_any B _ us _ _ _ s3 (by omega)).mono ?_
              rintro e w4 ⟨rfl, hb4⟩
              rw [q]
              go_wp2_with fail
              go_ret
              exact ⟨by rw [HE.out]; rfl, below_then (below_then b2 hb3 (Nat.le_refl _)) hb4 (Nat.le_refl _)⟩
            · have HE := Lib.hid (yes.out (by simp only [twoS, q, Bool.or_true]))
              go_wp2_with fail
              refine (sBelow_any B _ us _ _ _ s2 (by omega)).mono ?_
              rintro e w3 ⟨rfl, hb3⟩
              rw [p]
              have c3 := (hb3.cell (p := ⟨w.heap.size, 0, none⟩) (by simp; omega)).trans c2
              have s3 := s2.below (hb3.mono (by omega))
              have g3 := Nat.lt_of_lt_of_le g2 hb3.size
              go_wp2_with fail
              refine (sBelow_any B _ us _ _ _ s3 (by omega)).mono ?_
              rintro e w4 ⟨rfl, hb4⟩
              rw [q]
              have c4 := (hb4.cell (p := ⟨w.heap.size, 0, none⟩) (by simp; omega)).trans c3
              have s4 := s3.below (hb4.mono (by omega))
              have g4 := Nat.lt_of_lt_of_le g3 hb4.size
              go_wp2_with fail
              go_roundw
              case rel => exact ⟨j + 1, by omega, by go_num, HE.out, c4, s4, below_then (below_then b2 hb3 (Nat.le_refl _)) hb4 (Nat.le_refl _), g4⟩
              case measure => simp [intOf]; omega
          · have HE := Lib.hid (yes.out (by simp only [twoS, p, Bool.true_or]))
            go_wp2_with fail
            refine (sBelow_any B _ us _ _ _ s2 (by omega)).mono ?_
            rintro e w3 ⟨rfl, hb3⟩
            rw [p]
            have c3 := (hb3.cell (p := ⟨w.heap.size, 0, none⟩) (by simp; omega)).trans c2
            have s3 := s2.below (hb3.mono (by omega))
            have g3 := Nat.lt_of_lt_of_le g2 hb3.size
            go_wp2_with fail
            go_roundw
            case rel => exact ⟨j + 1, by omega, by go_num, HE.out, c3, s3, below_then b2 hb3 (Nat.le_refl _), g3⟩
            case measure => simp [intOf]; omega
        · obtain rfl : j = k := by omega
          have HN : Hid (∀ a b, a < j + 1 → b < a → twoS us a b = true) := Lib.hid (fun a b ha hb => by
            rcases Nat.lt_or_ge a j with h' | h'
            · exact HA.out a b h' hb
            · obtain rfl : a = j := by omega
              exact HR.out b hb)
          go_wp2_with fail
          go_roundw
          case rel => exact ⟨j + 1, by omega, by go_num, HN.out, c2, s2, b2, g2⟩
          case measure => simp [intOf]; omega
    · obtain rfl : k = us.length := by omega
      have HE := Lib.hid (chain_yes HA.out)
      go_wp2_with fail
      refine (sOrderOk_any B _ us _ s1 (by omega)).mono ?_
      rintro e w3 ⟨rfl, hb3⟩
      go_wp2_with fail
      go_ret
      exact ⟨by rw [HE.out]; rfl, below_then b1 hb3 (Nat.le_refl _)⟩

end Go.Proofs.Ytekpfoggblbedaa
