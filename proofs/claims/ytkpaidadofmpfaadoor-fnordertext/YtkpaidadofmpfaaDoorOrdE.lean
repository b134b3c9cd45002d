/- The program's OrderOk, Below, DownsOf and IsChain. -/
import Derived.Test.YtkpaidadofmpfaaDoorOrdS
namespace Go.Proofs.YtkpaidadofmpfaaDoor
open Go.RowKit
set_option linter.unusedVariables false

set_option maxHeartbeats 1000000 in
theorem iOrderOk_any (B : Nat) (v : Value) (us : List Int) (w : World) (hs : SeeI w B v us) (hB : B ≤ w.heap.size) : Calls Tryd.prog 12 #[.agg #[v]] w (BoolOf w (ordS us)) := by
  obtain ⟨A, c, rfl⟩ := hs.shape
  rw [← ordI_eq]
  cases ho : ordI us
  · go_enter Tryd.func12, Tryd.ntmps12
    go_wp2_with fail
    refine (ladderOf_f B _ us _ (hs.alloc hB _) (by simp; omega) ho).mono ?_
    rintro e w1 ⟨rfl, hb1⟩
    rw [cells6 (ladR_len _)]
    go_wp2_with fail
    go_ret
    exact ⟨rfl, (below_then ((Below.refl _ _).alloc (Nat.le_refl _) _) hb1 (Nat.le_refl _)).alloc (by have := hb1.size; simp at this; omega) _⟩
  · go_enter Tryd.func12, Tryd.ntmps12
    go_wp2_with fail
    refine (ladderOf_t B _ us _ (hs.alloc hB _) (by simp; omega) ho).mono ?_
    rintro e w1 ⟨rfl, hb1⟩
    rw [cells6 (ladR_len _)]
    go_wp2_with fail
    go_ret
    exact ⟨rfl, (below_then ((Below.refl _ _).alloc (Nat.le_refl _) _) hb1 (Nat.le_refl _)).alloc (by have := hb1.size; simp at this; omega) _⟩

def IntOf (w : World) (n : Int) (e : Ending) (w' : World) : Prop := e = .returned (.int .i64 n) ∧ Below w.heap.size w w'

/-- The rank a is there. -/
def isR (us : List Int) (a : Int) : Bool := decide (0 ≤ a ∧ a < us.length)
def belowS (us : List Int) (a b : Int) : Bool := ordS us && isR us a && isR us b && upB us a.toNat b.toNat
theorem has_setN (p : Nat → Bool) (b : Nat) (hb : b < 6) : hasB (setN p) b = p b := by
  simp only [hasB, inB_yes (setN_range p), inB_yes (show 0 ≤ (b : Int) ∧ (b : Int) ≤ 5 from by omega), Bool.true_and, bit_setN p b hb]
theorem isR_nat {us : List Int} {a : Int} (h : isR us a = true) : ∃ k : Nat, a = (k : Int) ∧ k < us.length := by
  simp only [isR, decide_eq_true_eq] at h
  obtain ⟨k, rfl⟩ := Int.eq_ofNat_of_zero_le h.1
  exact ⟨k, rfl, by omega⟩
theorem ord_len {us : List Int} (h : ordS us = true) : 1 ≤ us.length ∧ us.length ≤ 6 := ((ordS_iff us).1 h).len

/-- All that are below b. -/
def downS (us : List Int) (b : Int) : Int := if ordS us && isR us b then setN (fun a => decide (a < us.length) && upB us a b.toNat) else -1

/-- Of each two one is below the other. -/
def chainS (us : List Int) : Bool := ordS us && decide (ladR (inEitherR (upR us) (turnR (upR us) 6) 6) = ladR (everyR us.length us.length))

end Go.Proofs.YtkpaidadofmpfaaDoor
