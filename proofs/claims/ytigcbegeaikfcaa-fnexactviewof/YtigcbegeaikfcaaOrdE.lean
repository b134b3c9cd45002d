/- The program's OrderOk, Below, DownsOf and IsChain. -/
import Derived.Test.YtigcbegeaikfcaaOrdS
namespace Go.Proofs.Ytigcbegeaikfcaa
open Go.RowKit
set_option linter.unusedVariables false

def IntOf (w : World) (n : Int) (e : Ending) (w' : World) : Prop := e = .returned (.int .i64 n) ∧ Below w.heap.size w w'

/-- The rank a is there. -/
def isR (us : List Int) (a : Int) : Bool := decide (0 ≤ a ∧ a < us.length)
def belowS (us : List Int) (a b : Int) : Bool := ordS us && isR us a && isR us b && upB us a.toNat b.toNat
theorem has_setN (p : Nat → Bool) (b : Nat) (hb : b < 6) : hasB (setN p) b = p b := by
  simp only [hasB, inB_yes (setN_range p), inB_yes (show 0 ≤ (b : Int) ∧ (b : Int) ≤ 5 from by omega), Bool.true_and, bit_setN p b hb]
theorem isR_nat {us : List Int} {a : Int} (h : isR us a = true) : ∃ k : Nat, a = (k : Int) ∧ k < us.length := by
  simp only [isR, decide_eq_true_eq] at h
  obtain ⟨k, rfl⟩ := Int.eq_ofNat_of_zero_le h.1
  exact ⟨k, rfl, by omega⟩
theorem ord_len {us : List Int} (h : ordS us = true) : 1 ≤ us.length ∧ us.length ≤ 6 := ((ordS_iff us).1 h).len

theorem isRankOf_of (A : Option Addr) (us : List Int) (c : Nat) (hn : us.length ≤ maxLen) (r : Int) (w : World) : Calls Try.prog 60 #[.agg #[.slice A us.length c], .int .i64 r] w (BoolOf w (isR us r)) := isRankOf_any A us.length c hn r w

set_option maxHeartbeats 2000000 in
theorem iBelow_any (B : Nat) (v : Value) (us : List Int) (a b : Int) (w : World) (hs : SeeI w B v us) (hB : B ≤ w.heap.size) : Calls Try.prog 63 #[.agg #[v], .int .i64 a, .int .i64 b] w (BoolOf w (belowS us a b)) := by
  obtain ⟨A, c, rfl⟩ := hs.shape
  have hm := hs.1
  cases ho : ordI us
  · have HE : Hid (belowS us a b = false) := Lib.hid (by simp only [belowS, ← ordI_eq, ho, Bool.false_and])
    rw [HE.out]
    go_enter Try.func63, Try.ntmps63
    go_wp2_with fail
    refine (ladderOf_f B _ us _ (hs.alloc hB _) (by simp; omega) ho).mono ?_
    rintro e w1 ⟨rfl, hb1⟩
    rw [cells6 (ladR_len _)]
    go_wp2_with fail
    go_ret
    exact ⟨rfl, (below_then ((Below.refl _ _).alloc (Nat.le_refl _) _) hb1 (Nat.le_refl _)).alloc (by have := hb1.size; simp at this; omega) _⟩
  · have hS : ordS us = true := by rw [← ordI_eq, ho]
    have HL := Lib.hid (ord_len hS)
    have HT : Hid (belowS us a b = (isR us a && isR us b && upB us a.toNat b.toNat)) := Lib.hid (by simp only [belowS, hS, Bool.true_and])
    clear hS
    go_enter Try.func63, Try.ntmps63
    go_wp2_with fail
    refine (ladderOf_t B _ us _ (hs.alloc hB _) (by simp; omega) ho).mono ?_
    rintro e w1 ⟨rfl, hb1⟩
    have g1 := hb1.size
    simp at g1
    have b1 := (below_then ((Below.refl w.heap.size w).alloc (Nat.le_refl _) _) hb1 (Nat.le_refl _)).alloc (by omega) (.cells (cellsI (ladR (upR us))) 73)
    have c1 : (w1.alloc (.cells (cellsI (ladR (upR us))) 73)).cell? ⟨w.heap.size, 0, none⟩ = some (.slice A us.length c) := by
      rw [World.cell?_alloc_lt _ _ _ (by simp; omega), hb1.cell (by simp)]
      exact cell_of_row _ _ 0 _ _ (0, 0) (heap_alloc_new _ _)
    have l1 := Lad.new w1 73 (ladR (upR us))
    have g2 : (w1.alloc (.cells (cellsI (ladR (upR us))) 73)).heap.size = w1.heap.size + 1 := by simp
    have G2 := Lib.hid g2
    clear g2
    rw [cells6 (ladR_len _)] at c1 l1 b1 G2 ⊢
    clear hb1
    go_wp2_with fail
    generalize w1.alloc _ = W at c1 l1 b1 G2 ⊢
    refine (isRankOf_of _ us _ hm _ _).mono ?_
    rintro e w2 ⟨rfl, hb2⟩
    have c2 := (hb2.cell (p := ⟨w.heap.size, 0, none⟩) (by have := G2.out; simp; omega)).trans c1
    have l2 := l1.below hb2 l1.lt
    have b2 := below_then b1 hb2 (Nat.le_refl _)
    have g2 := Nat.lt_of_lt_of_le l1.lt hb2.size
    clear c1 l1 b1 hb2 G2
    cases ra : isR us a
    · go_wp2_with fail
      go_ret
      exact ⟨by rw [HT.out, ra]; rfl, b2⟩
    · obtain ⟨k, rfl, hk⟩ := isR_nat ra
      go_wp2_with fail
      refine (isRankOf_of _ us _ hm _ _).mono ?_
      rintro e w3 ⟨rfl, hb3⟩
      have l3 := l2.below hb3 g2
      have b3 := below_then b2 hb3 (Nat.le_refl _)
      clear c2 l2 b2 hb3
      have hk6 : k < 6 := by have := HL.out; omega
      have hc := l3.cell (k := k) (by rw [ladR_len]; exact hk6)
      rw [ladR_at _ _ hk6] at hc
      cases rb : isR us b
      · go_wp2_with fail
        go_ret
        exact ⟨by rw [HT.out, ra, rb]; rfl, b3⟩
      · obtain ⟨j, rfl, hj⟩ := isR_nat rb
        have hj6 : j < 6 := by have := HL.out; omega
        have HV : Hid (hasB (setN (upR us k)) j = upB us k j) := Lib.hid (by rw [has_setN _ _ hj6]; simp [upR, upK, upB, hk])
        go_wp2_with fail
        refine (has_any _ _ _).mono ?_
        rintro e w' ⟨rfl, rfl⟩
        rw [HV.out]
        go_wp2_with fail
        go_ret
        exact ⟨by rw [HT.out, ra, rb]; rfl, b3⟩

/-- All that are below b. -/
def downS (us : List Int) (b : Int) : Int := if ordS us && isR us b then setN (fun a => decide (a < us.length) && upB us a b.toNat) else -1

/-- Of each two one is below the other. -/
def chainS (us : List Int) : Bool := ordS us && decide (ladR (inEitherR (upR us) (turnR (upR us) 6) 6) = ladR (everyR us.length us.length))

end Go.Proofs.Ytigcbegeaikfcaa
