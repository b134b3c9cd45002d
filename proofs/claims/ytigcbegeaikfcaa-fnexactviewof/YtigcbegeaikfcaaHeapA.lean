/- The heap of ranks that wait: words for it, and the contracts of its methods. -/
import Derived.Test.YtigcbegeaikfcaaOrdG
import Derived.Test.YtigcbegeaikfcaaSetE
import Derived.Handy
import Derived.Deep.QuietTactic
import Derived.BigQuiet
import Derived.StillTailTactics
import Derived.Deep.AppendLies
import Derived.Deep.RegionLaw
namespace Go.Proofs.Ytigcbegeaikfcaa
open Go.RowKit
set_option linter.unusedVariables false

def waitC (v : Value) (L : List Int) : Array Value := #[v, .int .i64 (L[0]?.getD 0), .int .i64 (L[1]?.getD 0), .int .i64 (L[2]?.getD 0), .int .i64 (L[3]?.getD 0), .int .i64 (L[4]?.getD 0), .int .i64 (L[5]?.getD 0)]

/-- Block g is a heap of ranks: its slice v, and the ladder L. -/
def Wait (w : World) (g : Nat) (v : Value) (L : List Int) : Prop := w.heap[g]? = some (.cells (waitC v L) 95 (0, 0))

theorem Wait.v {w : World} {g : Nat} {v : Value} {L : List Int} (h : Wait w g v L) : w.cell? ⟨g, 0, none⟩ = some v := by
  rw [cell_of_row w g 0 _ _ (0, 0) h]; rfl
theorem Wait.at_ {w : World} {g : Nat} {v : Value} {L : List Int} (h : Wait w g v L) (k : Nat) (hk : k < 6) : w.cell? ⟨g, 1 + k, none⟩ = some (.int .i64 (L.getD k 0)) := by
  rw [cell_of_row w g (1 + k) _ _ (0, 0) h]
  match k, hk with
  | 0, _ => simp [waitC]
  | 1, _ => simp [waitC]
  | 2, _ => simp [waitC]
  | 3, _ => simp [waitC]
  | 4, _ => simp [waitC]
  | 5, _ => simp [waitC]
theorem Wait.frozen {w : World} {g : Nat} {v : Value} {L : List Int} (h : Wait w g v L) (k : Nat) : w.frozen? ⟨g, k, none⟩ = false := frozen_row h
theorem Wait.lt {w : World} {g : Nat} {v : Value} {L : List Int} (h : Wait w g v L) : g < w.heap.size := (Array.getElem?_eq_some_iff.1 h).1
theorem Wait.set {w : World} {g : Nat} {v : Value} {L : List Int} (h : Wait w g v L) (u : Value) : Wait (w.setCell ⟨g, 0, none⟩ u) g u L := by
  unfold Wait
  rw [heap_set h u]
  simp [waitC]
theorem Wait.to {w w' : World} {g : Nat} {v : Value} {L : List Int} (h : Wait w g v L) (e : w'.heap[g]? = w.heap[g]?) : Wait w' g v L := e.trans h

/-- A heap that holds the ranks xs; its slice lies in blocks from B on. -/
structure HS (w : World) (B g : Nat) (v : Value) (R : Nat → Nat → Bool) (xs : List Int) : Prop where
  wait : Wait w g v (ladR R)
  own : OwnI w B 2 v xs
  far : g < B

/-- Nothing has turned but block g and blocks from B on. -/
def Upd (B g : Nat) (w w' : World) : Prop := Below g w w' ∧ ∀ i, g < i → i < B → w'.heap[i]? = w.heap[i]?
theorem Upd.refl (B g : Nat) (w : World) : Upd B g w w := ⟨Below.refl _ _, fun _ _ _ => rfl⟩
theorem Upd.trans {B g : Nat} {a b c : World} (h : Upd B g a b) (k : Upd B g b c) : Upd B g a c := ⟨h.1.trans k.1, fun i h1 h2 => (k.2 i h1 h2).trans (h.2 i h1 h2)⟩
theorem Upd.size {B g : Nat} {a b : World} (h : Upd B g a b) : a.heap.size ≤ b.heap.size := h.1.size
theorem Upd.drewN {B g : Nat} {a b : World} (h : Upd B g a b) (n : Nat) : Upd B g a (b.drewN n) := ⟨below_drewN h.1 n, h.2⟩
theorem HS.drewN {w : World} {B g : Nat} {v : Value} {R : Nat → Nat → Bool} {xs : List Int} (h : HS w B g v R xs) (n : Nat) : HS (w.drewN n) B g v R xs := ⟨h.wait, h.own, h.far⟩

set_option maxHeartbeats 400000 in
theorem wLen_any (w : World) (B g : Nat) (v : Value) (R : Nat → Nat → Bool) (xs : List Int) (h : HS w B g v R xs) : Calls Try.prog 94 #[.pointer (some ⟨g, 0, none⟩)] w fun e w' => e = .returned (.int .i64 xs.length) ∧ w = w' := by
  obtain ⟨A, c, rfl⟩ := h.own.see.shape
  have hc := h.wait.v
  go_enter Try.func94, Try.ntmps94
  go_wp2_with fail
  go_ret
  exact ⟨rfl, rfl⟩

theorem size_same (s : Int) (h : inB s 0 63 = true) (w : World) : Calls Try.prog 118 #[.int .i64 s] w fun e w' => e = .returned (.int .i64 (cntB s)) ∧ w' = w := (size_any s h w).mono fun _ _ h => ⟨h.1, h.2.symm⟩

/-- How many are in the set of x. -/
def keyR (R : Nat → Nat → Bool) (x : Int) : Int := cntB (setN (R x.toNat))

set_option maxHeartbeats 2000000 in
set_option maxRecDepth 100000 in
theorem wLess_any (w : World) (B g : Nat) (v : Value) (R : Nat → Nat → Bool) (xs : List Int) (h : HS w B g v R xs) (i j : Nat) (hi : i < xs.length) (hj : j < xs.length) (hx : ∀ x ∈ xs, 0 ≤ x ∧ x < 6) :
    Calls Try.prog 114 #[.pointer (some ⟨g, 0, none⟩), .int .i64 i, .int .i64 j] w fun e w' => e = .returned (.bool (decide (keyR R (xs.getD j 0) < keyR R (xs.getD i 0)))) ∧ ∃ n, w' = w.drewN n := by
  obtain ⟨A, c, rfl⟩ := h.own.see.shape
  have hc := h.wait.v
  obtain ⟨b1, o1, x1, rfl, -, e1, c1⟩ := h.own.see.at_ hi
  obtain ⟨b2, o2, x2, eA, -, e2, c2⟩ := h.own.see.at_ hj
  injection eA with eA
  injection eA with eb eo
  subst eb eo
  obtain ⟨k1, rfl⟩ := Int.eq_ofNat_of_zero_le (hx x1 (List.mem_of_getElem? e1)).1
  obtain ⟨k2, rfl⟩ := Int.eq_ofNat_of_zero_le (hx x2 (List.mem_of_getElem? e2)).1
  have l1 : k1 < 6 := by have := (hx _ (List.mem_of_getElem? e1)).2; omega
  have l2 : k2 < 6 := by have := (hx _ (List.mem_of_getElem? e2)).2; omega
  have d1 := h.wait.at_ k1 l1
  have d2 := h.wait.at_ k2 l2
  rw [ladR_at _ _ l1] at d1
  rw [ladR_at _ _ l2] at d2
  have HE : Hid (decide (keyR R (xs.getD j 0) < keyR R (xs.getD i 0)) = decide (cntB (setN (R k2)) < cntB (setN (R k1)))) := Lib.hid (by simp [keyR, List.getD, e1, e2])
  rw [HE.out]
  have s1 := Lib.hid (inB_yes (setN_range (R k1)))
  have s2 := Lib.hid (inB_yes (setN_range (R k2)))
  have hl := h.own.see.1
  unfold maxLen at hl
  have i1 : (i : Int) < xs.length := by omega
  have i2 : (j : Int) < xs.length := by omega
  have j1 : (k1 : Int) < 6 := by omega
  have j2 : (k2 : Int) < 6 := by omega
  clear hx e1 e2 h
  generalize setN (R k1) = S1 at *
  generalize setN (R k2) = S2 at *
  go_enter Try.func114, Try.ntmps114
  go_wp2_with fail
  go_quiet (first | (go_at_call 118; exact Calls.quiet_of_same (size_same _ s1.out _)) | (go_at_call 118; exact Calls.quiet_of_same (size_same _ s2.out _)))
  go_wp2_with fail
  go_ret
  exact ⟨rfl, _, rfl⟩

end Go.Proofs.Ytigcbegeaikfcaa
