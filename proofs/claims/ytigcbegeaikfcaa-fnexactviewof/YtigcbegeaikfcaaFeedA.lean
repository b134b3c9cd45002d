/- Layer 10 (feeds): halls: what they are (twins), HallOk of the program and of the model, and whether a rank is there. No conditions but those typed. -/
import Derived.Test.YtigcbegeaikfcaaGateC
import Derived.Test.YtigcbegeaikfcaaSltM
namespace Go.Proofs.Ytigcbegeaikfcaa
open Go.RowKit
set_option linter.unusedVariables false

/-- Is it a hall? -/
def hallB (us gs : List Int) (ss : List (List Int)) : Bool := gatesS us gs && slotsB ss && decide (ss.length = gs.length)
/-- A hall, and a rank that is there. -/
def rankB (us gs : List Int) (ss : List (List Int)) (r : Int) : Bool := hallB us gs ss && isR us r

/-- A hall lies in a variable, its rows older. -/
structure Hg (w0 : World) (o : Nat) (v u s : Value) (us gs : List Int) (ss : List (List Int)) (W : World) : Prop where
  c0 : W.cell? ⟨o, 0, none⟩ = some v
  c1 : W.cell? ⟨o, 1, none⟩ = some u
  c2 : W.cell? ⟨o, 2, none⟩ = some s
  see : SeeI W o v us
  gat : SeeI W o u gs
  slo : SeeSS W o s ss
  lt : o < W.heap.size
  old : Below w0.heap.size w0 W
theorem Hg.le {w0 W : World} {o : Nat} {v u s : Value} {us gs : List Int} {ss : List (List Int)} (h : Hg w0 o v u s us gs ss W) : o ≤ W.heap.size := Nat.le_of_lt h.lt
theorem Hg.next {w0 W W' : World} {o : Nat} {v u s : Value} {us gs : List Int} {ss : List (List Int)} (h : Hg w0 o v u s us gs ss W) (hb : Below W.heap.size W W') : Hg w0 o v u s us gs ss W' :=
  ⟨(hb.cell (p := ⟨o, 0, none⟩) h.lt).trans h.c0, (hb.cell (p := ⟨o, 1, none⟩) h.lt).trans h.c1, (hb.cell (p := ⟨o, 2, none⟩) h.lt).trans h.c2,
    h.see.below (hb.mono h.le), h.gat.below (hb.mono h.le), h.slo.below (hb.mono h.le), Nat.lt_of_lt_of_le h.lt hb.size, below_then h.old hb (Nat.le_refl _)⟩
theorem Hg.box {w : World} {B : Nat} {v u s : Value} {us gs : List Int} {ss : List (List Int)} (h1 : SeeI w B v us) (h2 : SeeI w B u gs) (h3 : SeeSS w B s ss) (hB : B ≤ w.heap.size) (t : TypeId) :
    Hg w w.heap.size v u s us gs ss (w.alloc (.cells #[v, u, s] t)) := by
  have b := below_new w (.cells #[v, u, s] t)
  have H := heap_alloc_new w (.cells #[v, u, s] t)
  exact ⟨(cell_of_row _ _ 0 _ _ (0, 0) H).trans rfl, (cell_of_row _ _ 1 _ _ (0, 0) H).trans rfl, (cell_of_row _ _ 2 _ _ (0, 0) H).trans rfl,
    (h1.below (b.mono hB)).more hB, (h2.below (b.mono hB)).more hB, (h3.below (b.mono hB)).more hB, by simp, b⟩

set_option maxHeartbeats 1000000 in
theorem sHallOk_any (B : Nat) (v u s : Value) (us gs : List Int) (ss : List (List Int)) (w : World) (h1 : SeeI w B v us) (h2 : SeeI w B u gs) (h3 : SeeSS w B s ss) (hB : B ≤ w.heap.size) :
    Calls Try.prog 8 #[.agg #[v, u, s]] w (BoolOf w (hallB us gs ss)) := by
  have S0 := Hg.box h1 h2 h3 hB 32
  have hm2 := h2.1
  have hm3 := h3.len
  unfold maxLen at hm2 hm3
  obtain ⟨A, c, rfl⟩ := h1.shape
  obtain ⟨A', c', rfl⟩ := h2.shape
  obtain ⟨A2, c2, rfl⟩ := h3.shape
  clear h1 h2 h3
  go_enter Try.func8, Try.ntmps8
  have p0 := S0.c0
  have p1 := S0.c1
  have p2 := S0.c2
  go_wp2_with fail
  generalize w.alloc _ = W at S0 p0 p1 p2 ⊢
  generalize w.heap.size = o at S0 p0 p1 p2 ⊢
  refine (sGatesOk_any o _ _ us gs _ S0.see S0.gat S0.le).mono ?_
  rintro e w1 ⟨rfl, b1⟩
  have S1 := S0.next b1
  have q0 := S1.c0
  have q1 := S1.c1
  have q2 := S1.c2
  clear S0 p0 p1 p2 b1
  cases hg : gatesS us gs
  · have HE : Hid (hallB us gs ss = false) := Lib.hid (by simp [hallB, hg])
    go_wp2_with fail
    go_ret
    exact ⟨ret_bool HE.out.symm, S1.old⟩
  · by_cases hl : ss.length = gs.length
    · have HE : Hid (hallB us gs ss = slotsB ss) := Lib.hid (by simp [hallB, hg, hl])
      have hll : ((ss.length : Int) == (gs.length : Int)) = true := by simp [hl]
      clear hg hl
      go_wp2_with fail
      refine (l9Slots_any o _ ss _ S1.slo).mono ?_
      rintro e w2 ⟨rfl, rfl⟩
      go_wp2_with fail
      go_ret
      exact ⟨ret_bool HE.out.symm, S1.old⟩
    · have HE : Hid (hallB us gs ss = false) := Lib.hid (by simp [hallB, hl])
      have hll : ((ss.length : Int) == (gs.length : Int)) = false := by simp; omega
      clear hg hl
      go_wp2_with fail
      go_ret
      exact ⟨ret_bool HE.out.symm, S1.old⟩

set_option maxHeartbeats 1000000 in
theorem iHallOk_any (B : Nat) (v u s : Value) (us gs : List Int) (ss : List (List Int)) (w : World) (h1 : SeeI w B v us) (h2 : SeeI w B u gs) (h3 : SeeSS w B s ss) (hB : B ≤ w.heap.size) :
    Calls Try.prog 10 #[.agg #[v, u, s]] w (BoolOf w (hallB us gs ss)) := by
  have S0 := Hg.box h1 h2 h3 hB 32
  have hm2 := h2.1
  have hm3 := h3.len
  unfold maxLen at hm2 hm3
  obtain ⟨A, c, rfl⟩ := h1.shape
  obtain ⟨A', c', rfl⟩ := h2.shape
  obtain ⟨A2, c2, rfl⟩ := h3.shape
  clear h1 h2 h3
  go_enter Try.func10, Try.ntmps10
  have p0 := S0.c0
  have p1 := S0.c1
  have p2 := S0.c2
  go_wp2_with fail
  generalize w.alloc _ = W at S0 p0 p1 p2 ⊢
  generalize w.heap.size = o at S0 p0 p1 p2 ⊢
  refine (iGatesOk_any o _ _ us gs _ S0.see S0.gat S0.le).mono ?_
  rintro e w1 ⟨rfl, b1⟩
  have S1 := S0.next b1
  have q0 := S1.c0
  have q1 := S1.c1
  have q2 := S1.c2
  clear S0 p0 p1 p2 b1
  cases hg : gatesS us gs
  · have HE : Hid (hallB us gs ss = false) := Lib.hid (by simp [hallB, hg])
    go_wp2_with fail
    go_ret
    exact ⟨ret_bool HE.out.symm, S1.old⟩
  · have HG : Hid (hallB us gs ss = (slotsB ss && decide (ss.length = gs.length))) := Lib.hid (by simp [hallB, hg])
    clear hg
    go_wp2_with fail
    refine (iSlotsOk_any o _ ss _ S1.slo).mono ?_
    rintro e w2 ⟨rfl, rfl⟩
    cases hs : slotsB ss
    · have HE : Hid (hallB us gs ss = false) := Lib.hid (by rw [HG.out, hs]; rfl)
      go_wp2_with fail
      go_ret
      exact ⟨ret_bool HE.out.symm, S1.old⟩
    · by_cases hl : ss.length = gs.length
      · have HE : Hid (hallB us gs ss = true) := Lib.hid (by simp [HG.out, hs, hl])
        have hll : ((ss.length : Int) == (gs.length : Int)) = true := by simp [hl]
        clear hl
        go_wp2_with fail
        go_ret
        exact ⟨ret_bool HE.out.symm, S1.old⟩
      · have HE : Hid (hallB us gs ss = false) := Lib.hid (by simp [HG.out, hl])
        have hll : ((ss.length : Int) == (gs.length : Int)) = false := by simp; omega
        clear hl
        go_wp2_with fail
        go_ret
        exact ⟨ret_bool HE.out.symm, S1.old⟩

set_option maxHeartbeats 1000000 in
theorem l10Right_any (B : Nat) (v u s : Value) (us gs : List Int) (ss : List (List Int)) (r : Int) (w : World) (h1 : SeeI w B v us) (h2 : SeeI w B u gs) (h3 : SeeSS w B s ss) (hB : B ≤ w.heap.size) :
    Calls Try.prog 34 #[.agg #[v, u, s], .int .i64 r] w (BoolOf w (rankB us gs ss r)) := by
  have S0 := Hg.box h1 h2 h3 hB 32
  have hm := h1.1
  obtain ⟨A, c, rfl⟩ := h1.shape
  obtain ⟨A', c', rfl⟩ := h2.shape
  obtain ⟨A2, c2, rfl⟩ := h3.shape
  clear h1 h2 h3
  go_enter Try.func34, Try.ntmps34
  have p0 := S0.c0
  have p1 := S0.c1
  have p2 := S0.c2
  go_wp2_with fail
  generalize w.alloc _ = W at S0 p0 p1 p2 ⊢
  generalize w.heap.size = o at S0 p0 p1 p2 ⊢
  refine (sHallOk_any o _ _ _ us gs ss _ S0.see S0.gat S0.slo S0.le).mono ?_
  rintro e w1 ⟨rfl, b1⟩
  have S1 := S0.next b1
  have q0 := S1.c0
  have q1 := S1.c1
  have q2 := S1.c2
  clear S0 p0 p1 p2 b1
  cases hg : hallB us gs ss
  · have HE : Hid (rankB us gs ss r = false) := Lib.hid (by simp [rankB, hg])
    go_wp2_with fail
    go_ret
    exact ⟨ret_bool HE.out.symm, S1.old⟩
  · have HE : Hid (rankB us gs ss r = isR us r) := Lib.hid (by simp [rankB, hg])
    go_wp2_with fail
    refine (l2Has_any _ us _ hm _ _).mono ?_
    rintro e w2 ⟨rfl, b2⟩
    go_wp2_with fail
    go_ret
    exact ⟨ret_bool HE.out.symm, (S1.next b2).old⟩

set_option maxHeartbeats 1000000 in
theorem hasRank_any (B : Nat) (v u s : Value) (us gs : List Int) (ss : List (List Int)) (r : Int) (w : World) (h1 : SeeI w B v us) (h2 : SeeI w B u gs) (h3 : SeeSS w B s ss) (hB : B ≤ w.heap.size) :
    Calls Try.prog 36 #[.agg #[v, u, s], .int .i64 r] w (BoolOf w (rankB us gs ss r)) := by
  have S0 := Hg.box h1 h2 h3 hB 32
  have hm := h1.1
  obtain ⟨A, c, rfl⟩ := h1.shape
  obtain ⟨A', c', rfl⟩ := h2.shape
  obtain ⟨A2, c2, rfl⟩ := h3.shape
  clear h1 h2 h3
  go_enter Try.func36, Try.ntmps36
  have p0 := S0.c0
  have p1 := S0.c1
  have p2 := S0.c2
  go_wp2_with fail
  generalize w.alloc _ = W at S0 p0 p1 p2 ⊢
  generalize w.heap.size = o at S0 p0 p1 p2 ⊢
  refine (iHallOk_any o _ _ _ us gs ss _ S0.see S0.gat S0.slo S0.le).mono ?_
  rintro e w1 ⟨rfl, b1⟩
  have S1 := S0.next b1
  have q0 := S1.c0
  have q1 := S1.c1
  have q2 := S1.c2
  clear S0 p0 p1 p2 b1
  cases hg : hallB us gs ss
  · have HE : Hid (rankB us gs ss r = false) := Lib.hid (by simp [rankB, hg])
    go_wp2_with fail
    go_ret
    exact ⟨ret_bool HE.out.symm, S1.old⟩
  · have HE : Hid (rankB us gs ss r = isR us r) := Lib.hid (by simp [rankB, hg])
    go_wp2_with fail
    refine (isRankOf_of _ us _ hm _ _).mono ?_
    rintro e w2 ⟨rfl, b2⟩
    go_wp2_with fail
    go_ret
    exact ⟨ret_bool HE.out.symm, (S1.next b2).old⟩

end Go.Proofs.Ytigcbegeaikfcaa
