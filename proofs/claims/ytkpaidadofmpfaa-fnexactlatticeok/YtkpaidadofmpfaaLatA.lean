/- The program's Join and Meet. -/
import Derived.Test.YtkpaidadofmpfaaHeapE
import Derived.Test.YtkpaidadofmpfaaLatM
namespace Go.Proofs.Ytkpaidadofmpfaa
open Go.RowKit
set_option linter.unusedVariables false

set_option maxHeartbeats 2000000 in
set_option maxRecDepth 100000 in
theorem joined_any (R : Nat → Nat → Bool) (hR : PosR R) (a b : Nat) (ha : a < 6) (hb : b < 6) (w : World) : Calls Try.prog 32 #[.agg (cellsI (ladR R)), .int .i64 a, .int .i64 b] w (IntOf w (leastT R (bothR R a b))) := by
  have hA : bits BinOp.and IntKind.i64 (setN (R a)) (setN (R b)) = setN (bothR R a b) := setN_and _ _
  have L0 : Lad (w.alloc (.cells (cellsI (ladR R)) 46)) w.heap.size 46 (ladR R) := Lad.new _ _ _
  have b0 : Below w.heap.size w (w.alloc (.cells (cellsI (ladR R)) 46)) := (Below.refl _ _).alloc (Nat.le_refl _) _
  have T1 := Lib.hid (fun W => leastOf_any R hR (bothR R a b) W)
  have ca := L0.cell (k := a) (by rw [ladR_len]; exact ha)
  have cb := L0.cell (k := b) (by rw [ladR_len]; exact hb)
  rw [ladR_at _ _ ha] at ca
  rw [ladR_at _ _ hb] at cb
  obtain ⟨a0, a1, a2, a3, a4, a5⟩ := L0.reads
  rw [cells6 (ladR_len R)] at a0 a1 a2 a3 a4 a5 ca cb b0 L0 ⊢
  simp only [cells6 (ladR_len R)] at T1
  have i1 : (a : Int) < 6 := by omega
  have i2 : (b : Int) < 6 := by omega
  clear L0
  go_enter Try.func32, Try.ntmps32
  go_wp2_with fail
  generalize w.alloc _ = W at a0 a1 a2 a3 a4 a5 ca cb b0 ⊢
  have d0 := later_cell a0
  have d1 := later_cell a1
  have d2 := later_cell a2
  have d3 := later_cell a3
  have d4 := later_cell a4
  have d5 := later_cell a5
  have da := later_cell ca
  have db := later_cell cb
  refine region_later (by kernel_rfl) (by kernel_rfl) ?_
  repeat (go_big_quiet_step ((go_at_call 51; exact later_call (T1.out _))))
  refine wpQuiet_nil ?_
  rintro _ ⟨⟨w2, hbk⟩, rfl⟩
  go_wp2_with fail
  go_ret
  exact ⟨rfl, below_then b0 hbk (Nat.le_refl _)⟩

set_option maxHeartbeats 2000000 in
theorem iJoin_any (B : Nat) (v : Value) (us : List Int) (a b : Int) (w : World) (hs : SeeI w B v us) (hB : B ≤ w.heap.size) : Calls Try.prog 12 #[.agg #[v], .int .i64 a, .int .i64 b] w (IntOf w (joinS us a b)) := by
  obtain ⟨A, c, rfl⟩ := hs.shape
  have hm := hs.1
  cases ho : ordI us
  · have HE : Hid (joinS us a b = -1) := Lib.hid (by simp [joinS, ← ordI_eq, ho])
    rw [HE.out]
    go_enter Try.func12, Try.ntmps12
    go_wp2_with fail
    refine (ladderOf_f B _ us _ (hs.alloc hB _) (by simp; omega) ho).mono ?_
    rintro e w1 ⟨rfl, hb1⟩
    rw [cells6 (ladR_len _)]
    go_wp2_with fail
    go_ret
    exact ⟨rfl, (below_then ((Below.refl _ _).alloc (Nat.le_refl _) _) hb1 (Nat.le_refl _)).alloc (by have := hb1.size; simp at this; omega) _⟩
  · have hS : ordS us = true := by rw [← ordI_eq, ho]
    have hP := (ordS_iff us).1 hS
    have HL := Lib.hid hP.len
    have HT : Hid (joinS us a b = if isR us a && isR us b then leastT (upR us) (bothR (upR us) a.toNat b.toNat) else -1) := Lib.hid (by simp only [joinS, hS, Bool.true_and])
    have HJ := Lib.hid fun (k j : Nat) (hk : k < 6) (hj : j < 6) W => joined_any (upR us) (pos_up hP) k j hk hj W
    clear hS hP
    go_enter Try.func12, Try.ntmps12
    go_wp2_with fail
    refine (ladderOf_t B _ us _ (hs.alloc hB _) (by simp; omega) ho).mono ?_
    rintro e w1 ⟨rfl, hb1⟩
    have g1 := hb1.size
    simp at g1
    have b1 := (below_then ((Below.refl w.heap.size w).alloc (Nat.le_refl _) _) hb1 (Nat.le_refl _)).alloc (by omega) (.cells (cellsI (ladR (upR us))) 46)
    have c1 : (w1.alloc (.cells (cellsI (ladR (upR us))) 46)).cell? ⟨w.heap.size, 0, none⟩ = some (.slice A us.length c) := by
      rw [World.cell?_alloc_lt _ _ _ (by simp; omega), hb1.cell (by simp)]
      exact cell_of_row _ _ 0 _ _ (0, 0) (heap_alloc_new _ _)
    have l1 := Lad.new w1 46 (ladR (upR us))
    have g2 : (w1.alloc (.cells (cellsI (ladR (upR us))) 46)).heap.size = w1.heap.size + 1 := by simp
    have G2 := Lib.hid g2
    have T1 := Lib.hid (fun W => turned_any (upR us) W)
    clear g2
    rw [cells6 (ladR_len _)] at c1 l1 b1 G2 ⊢
    simp only [cells6 (ladR_len (upR us))] at T1
    clear hb1
    go_wp2_with fail
    generalize w1.alloc _ = W at c1 l1 b1 G2 ⊢
    refine (isRankOf_of _ us _ hm _ _).mono ?_
    rintro e w2 ⟨rfl, hb2⟩
    have c2 := (hb2.cell (p := ⟨w.heap.size, 0, none⟩) (by have := G2.out; simp; omega)).trans c1
    have l2 := l1.below hb2 l1.lt
    have b2 := below_then b1 hb2 (Nat.le_refl _)
    have g2 := Nat.lt_of_lt_of_le l1.lt hb2.size
    clear c1 l1 b1 hb2 G2
    cases ra : isR us a
    · go_wp2_with fail
      go_ret
      exact ⟨by rw [HT.out, ra]; rfl, b2⟩
    · obtain ⟨k, rfl, hk⟩ := isR_nat ra
      go_wp2_with fail
      refine (isRankOf_of _ us _ hm _ _).mono ?_
      rintro e w3 ⟨rfl, hb3⟩
      have l3 := l2.below hb3 g2
      have b3 := below_then b2 hb3 (Nat.le_refl _)
      clear c2 l2 b2 hb3
      have hk6 : k < 6 := by have := HL.out; omega
      cases rb : isR us b
      · go_wp2_with fail
        go_ret
        exact ⟨by rw [HT.out, ra, rb]; rfl, b3⟩
      · obtain ⟨j, rfl, hj⟩ := isR_nat rb
        have hj6 : j < 6 := by have := HL.out; omega
        obtain ⟨a0, a1, a2, a3, a4, a5⟩ := l3.reads
        have J := Lib.hid (HJ.out k j hk6 hj6)
        go_wp2_with fail
        refine (Calls.mono (R := IntOf w3 (leastT (upR us) (bothR (upR us) k j))) (by have := J.out w3; rw [cells6 (ladR_len _)] at this; exact this) ?_); rintro e w4 ⟨rfl, hb4⟩
        go_wp2_with fail
        go_ret
        exact ⟨by rw [HT.out, ra, rb]; rfl, below_then b3 hb4 (Nat.le_refl _)⟩

set_option maxHeartbeats 2000000 in
theorem iMeet_any (B : Nat) (v : Value) (us : List Int) (a b : Int) (w : World) (hs : SeeI w B v us) (hB : B ≤ w.heap.size) : Calls Try.prog 13 #[.agg #[v], .int .i64 a, .int .i64 b] w (IntOf w (meetS us a b)) := by
  obtain ⟨A, c, rfl⟩ := hs.shape
  have hm := hs.1
  cases ho : ordI us
  · have HE : Hid (meetS us a b = -1) := Lib.hid (by simp [meetS, ← ordI_eq, ho])
    rw [HE.out]
    go_enter Try.func13, Try.ntmps13
    go_wp2_with fail
    refine (ladderOf_f B _ us _ (hs.alloc hB _) (by simp; omega) ho).mono ?_
    rintro e w1 ⟨rfl, hb1⟩
    rw [cells6 (ladR_len _)]
    go_wp2_with fail
    go_ret
    exact ⟨rfl, (below_then ((Below.refl _ _).alloc (Nat.le_refl _) _) hb1 (Nat.le_refl _)).alloc (by have := hb1.size; simp at this; omega) _⟩
  · have hS : ordS us = true := by rw [← ordI_eq, ho]
    have hP := (ordS_iff us).1 hS
    have HL := Lib.hid hP.len
    have HT : Hid (meetS us a b = if isR us a && isR us b then leastT (dnR us) (bothR (dnR us) a.toNat b.toNat) else -1) := Lib.hid (by simp only [meetS, hS, Bool.true_and])
    have HJ := Lib.hid fun (k j : Nat) (hk : k < 6) (hj : j < 6) W => joined_any (dnR us) (pos_dn hP) k j hk hj W
    clear hS hP
    go_enter Try.func13, Try.ntmps13
    go_wp2_with fail
    refine (ladderOf_t B _ us _ (hs.alloc hB _) (by simp; omega) ho).mono ?_
    rintro e w1 ⟨rfl, hb1⟩
    have g1 := hb1.size
    simp at g1
    have b1 := (below_then ((Below.refl w.heap.size w).alloc (Nat.le_refl _) _) hb1 (Nat.le_refl _)).alloc (by omega) (.cells (cellsI (ladR (upR us))) 46)
    have c1 : (w1.alloc (.cells (cellsI (ladR (upR us))) 46)).cell? ⟨w.heap.size, 0, none⟩ = some (.slice A us.length c) := by
      rw [World.cell?_alloc_lt _ _ _ (by simp; omega), hb1.cell (by simp)]
      exact cell_of_row _ _ 0 _ _ (0, 0) (heap_alloc_new _ _)
    have l1 := Lad.new w1 46 (ladR (upR us))
    have g2 : (w1.alloc (.cells (cellsI (ladR (upR us))) 46)).heap.size = w1.heap.size + 1 := by simp
    have G2 := Lib.hid g2
    have T1 := Lib.hid (fun W => turned_any (upR us) W)
    clear g2
    rw [cells6 (ladR_len _)] at c1 l1 b1 G2 ⊢
    simp only [cells6 (ladR_len (upR us))] at T1
    clear hb1
    go_wp2_with fail
    generalize w1.alloc _ = W at c1 l1 b1 G2 ⊢
    refine (isRankOf_of _ us _ hm _ _).mono ?_
    rintro e w2 ⟨rfl, hb2⟩
    have c2 := (hb2.cell (p := ⟨w.heap.size, 0, none⟩) (by have := G2.out; simp; omega)).trans c1
    have l2 := l1.below hb2 l1.lt
    have b2 := below_then b1 hb2 (Nat.le_refl _)
    have g2 := Nat.lt_of_lt_of_le l1.lt hb2.size
    clear c1 l1 b1 hb2 G2
    cases ra : isR us a
    · go_wp2_with fail
      go_ret
      exact ⟨by rw [HT.out, ra]; rfl, b2⟩
    · obtain ⟨k, rfl, hk⟩ := isR_nat ra
      go_wp2_with fail
      refine (isRankOf_of _ us _ hm _ _).mono ?_
      rintro e w3 ⟨rfl, hb3⟩
      have l3 := l2.below hb3 g2
      have b3 := below_then b2 hb3 (Nat.le_refl _)
      clear c2 l2 b2 hb3
      have hk6 : k < 6 := by have := HL.out; omega
      cases rb : isR us b
      · go_wp2_with fail
        go_ret
        exact ⟨by rw [HT.out, ra, rb]; rfl, b3⟩
      · obtain ⟨j, rfl, hj⟩ := isR_nat rb
        have hj6 : j < 6 := by have := HL.out; omega
        obtain ⟨a0, a1, a2, a3, a4, a5⟩ := l3.reads
        have J := Lib.hid (HJ.out k j hk6 hj6)
        go_wp2_with fail
        refine (T1.out _).mono ?_; rintro e w4 ⟨rfl, hb4⟩; rw [cells6 (ladR_len _)]; go_wp2_with fail; refine (Calls.mono (R := IntOf w4 (leastT (dnR us) (bothR (dnR us) k j))) (by have := J.out w4; rw [cells6 (ladR_len _)] at this; exact this) ?_); rintro e w5 ⟨rfl, hb5⟩
        go_wp2_with fail
        go_ret
        exact ⟨by rw [HT.out, ra, rb]; rfl, below_then (below_then b3 hb4 (Nat.le_refl _)) hb5 (Nat.le_refl _)⟩

end Go.Proofs.Ytkpaidadofmpfaa
