/- The walk of the law FnExactReadOrder. -/
import Derived.Test.YtacleaiamknjiaaDoorReadB
namespace Go.Proofs.YtacleaiamknjiaaDoor
open Go.RowKit
set_option linter.unusedVariables false

theorem grown_alloc {w w' : World} {r : Option Nat} (o : Obj) (h : (w.alloc o).grownBy w' r) : w.grownBy w' r :=
  ⟨h.os, h.tape, h.output, by have := h.size; simp at this; omega, fun k hk hne => (h.block k (by simp; omega) hne).trans (Below.heap_alloc w o k hk)⟩
theorem read_len (l : List UInt8) : ((readT l).getD []).length ≤ 6 := by
  unfold readT
  split
  · rename_i h; simp; exact h.1
  · simp

set_option maxHeartbeats 1000000 in
theorem markOrder_any (B : Nat) (e : TypeId) (v : Value) (zs : List Int) (s : Nat) (w : World) (h : OwnI w B e v zs) (hs : s + zs.length ≤ 4611686018427387904) :
    Calls Tryd.prog 7 #[.agg #[v], .int .i64 s] w fun r w' => r = .returned (.int .i64 ((s + zs.length : Nat) : Int)) ∧ OwnI w' B e v (marks s zs.length) ∧ w.grownBy w' v.ownBlock := by
  obtain ⟨A, c, rfl⟩ := h.see.shape
  go_enter Tryd.func7, Tryd.ntmps7
  go_wp2_with fail
  refine (markInts_any B e _ zs s _ (h.alloc _) hs).mono ?_
  rintro r w' ⟨rfl, ho, hg⟩
  obtain ⟨z, HZ⟩ : ∃ z : Int, Hid (((s + zs.length : Nat) : Int) = z) := ⟨_, Lib.hid rfl⟩
  rw [HZ.out]
  go_wp2_with fail
  go_ret
  exact ⟨by rw [HZ.out]; rfl, ho, grown_alloc _ hg⟩

set_option maxHeartbeats 1000000 in
theorem heldOrder_any (B : Nat) (v : Value) (s n : Nat) (w : World) (hB : B ≤ w.heap.size) (h : SeeI w B v (marks s n)) (hs : s + n ≤ 4611686018427387904) :
    Calls Tryd.prog 8 #[.agg #[v], .int .i64 s] w fun r w' => r = .returned (.int .i64 ((s + n : Nat) : Int)) ∧ Below w.heap.size w w' := by
  obtain ⟨A, c, rfl⟩ := h.shape
  simp only [marks_length] at h ⊢
  go_enter Tryd.func8, Tryd.ntmps8
  go_wp2_with fail
  refine (heldInts_any B _ s n _ (h.alloc hB _) hs).mono ?_
  rintro r w' ⟨rfl, rfl⟩
  obtain ⟨z, HZ⟩ : ∃ z : Int, Hid (((s + n : Nat) : Int) = z) := ⟨_, Lib.hid rfl⟩
  rw [HZ.out]
  have hz : ¬ z < 0 := by have := HZ.out; omega
  go_wp2_with fail
  go_ret
  exact ⟨by rw [HZ.out]; rfl, (Below.refl _ _).alloc (Nat.le_refl _) _⟩

theorem eq_copy2 (B : Nat) (va vb : Value) (us : List Int) (w : World) (hB : B ≤ w.heap.size) (ha : SeeI w B va us) (hb : SeeI w B vb us) : Calls Tryd.prog 6 #[.agg #[va], .agg #[vb]] w (BoolOf w true) := by
  have := eqOrder_any B va vb us us w hB ha hb
  rwa [eqI_same] at this

set_option maxHeartbeats 4000000 in
theorem readOrder_law (l : List UInt8) (m : Int) (hsz : l.length ≤ 9223372036854775807) (w : World) (hm : w.cell? ⟨0, 0, none⟩ = some (.int .i64 m)) : Calls Tryd.prog 3 #[str l] w (BoolOf w true) := by
  by_cases hl : l.length ≤ 1048576
  · have h20 : ¬ (1048576 : Int) < l.length := by omega
    have hg0 : 0 < w.heap.size := World.block_lt_of_cell? w ⟨0, 0, none⟩ hm
    have hus := read_len l
    have hsp := Lib.hid (sReadOrder_any l hl)
    have him := Lib.hid (fun W h => iReadOrder_any l hl m W h)
    generalize readT l = r at hus hsp him
    unfold OrdOut at hsp him
    generalize r.getD [] = us at hus hsp him
    generalize r.isSome = b at hsp him
    have hbb : (b != b) = false := by simp
    go_enter Tryd.func3, Tryd.ntmps3
    go_wp2_with fail
    refine (hsp.out _).mono ?_
    rintro e w1 ⟨v1, rfl, o1, hb1⟩
    obtain ⟨A1, c1, rfl⟩ := o1.see.shape
    have s1 := o1.see
    have m1 := (hb1.cell hg0).trans hm
    have z1 := hb1.size
    go_wp2_with fail
    have d2 : (w1.alloc (.cells #[.slice A1 us.length c1] 24)).cell? ⟨w1.heap.size, 0, none⟩ = some (.slice A1 us.length c1) := cell_of_row _ _ 0 _ _ (0, 0) (heap_alloc_new _ _)
    have s2 := s1.alloc (Nat.le_refl _) (.cells #[.slice A1 us.length c1] 24)
    have m2 : (w1.alloc (.cells #[.slice A1 us.length c1] 24)).cell? ⟨0, 0, none⟩ = some (.int .i64 m) := (World.cell?_alloc_lt _ _ _ (Nat.lt_of_lt_of_le hg0 z1)).trans m1
    have B2 := hb1.alloc z1 (.cells #[.slice A1 us.length c1] 24)
    have g2 : w1.heap.size < (w1.alloc (.cells #[.slice A1 us.length c1] 24)).heap.size := by simp
    clear m1 o1 s1 hb1
    generalize w1.alloc _ = W2 at d2 s2 m2 B2 g2 ⊢
    refine (him.out _ m2).mono ?_
    rintro e w3 ⟨v3, rfl, o3, hb3⟩
    obtain ⟨A3, c3, rfl⟩ := o3.see.shape
    have d3 := (hb3.cell (p := ⟨w1.heap.size, 0, none⟩) (by simpa using g2)).trans d2
    have s3 := s2.below (hb3.mono (by omega))
    have m3 := (hb3.cell (p := ⟨0, 0, none⟩) (by simp; omega)).trans m2
    have B3 := below_then B2 hb3 (Nat.le_refl _)
    have z3 := hb3.size
    have g3 := Nat.lt_of_lt_of_le g2 z3
    clear d2 s2 m2 B2 hb3
    go_wp2_with fail
    have d4 : (w3.alloc (.cells #[.slice A3 us.length c3] 24)).cell? ⟨w1.heap.size, 0, none⟩ = some (.slice A1 us.length c1) := (World.cell?_alloc_lt _ _ _ (by simpa using g3)).trans d3
    have x4 : (w3.alloc (.cells #[.slice A3 us.length c3] 24)).cell? ⟨w3.heap.size, 0, none⟩ = some (.slice A3 us.length c3) := cell_of_row _ _ 0 _ _ (0, 0) (heap_alloc_new _ _)
    have s4 := s3.alloc (by omega) (.cells #[.slice A3 us.length c3] 24)
    have o4 := o3.alloc (.cells #[.slice A3 us.length c3] 24)
    have m4 : (w3.alloc (.cells #[.slice A3 us.length c3] 24)).cell? ⟨0, 0, none⟩ = some (.int .i64 m) := (World.cell?_alloc_lt _ _ _ (by simp; omega)).trans m3
    have B4 := B3.alloc (by omega) (.cells #[.slice A3 us.length c3] 24)
    have g4 : w3.heap.size < (w3.alloc (.cells #[.slice A3 us.length c3] 24)).heap.size := by simp
    have HL3 := Lib.hid o3.lt
    clear d3 s3 o3 m3 B3
    generalize w3.alloc _ = W4 at d4 x4 s4 o4 m4 B4 g4 ⊢
    refine (eq_copy2 W4.heap.size _ _ us _ (Nat.le_refl _) o4.see (s4.more (by omega))).mono ?_
    rintro e w5 ⟨rfl, hb5⟩
    have d5 := (hb5.cell (p := ⟨w1.heap.size, 0, none⟩) (by simp; omega)).trans d4
    have x5 := (hb5.cell (p := ⟨w3.heap.size, 0, none⟩) (by simpa using g4)).trans x4
    have s5 := s4.below (hb5.mono (by omega))
    have o5 := o4.later hb5
    have m5 := (hb5.cell (p := ⟨0, 0, none⟩) (by simp; omega)).trans m4
    have B5 := below_then B4 hb5 (Nat.le_refl _)
    have g5 := Nat.lt_of_lt_of_le g4 hb5.size
    clear d4 x4 s4 o4 m4 B4 hb5
    go_wp2_with fail
    refine (markOrder_any W2.heap.size 2 _ us 1 _ o5 (by omega)).mono ?_
    rintro e w6 ⟨rfl, o6, hg6⟩
    have far : ∀ p : Addr, p.block < w5.heap.size → (∀ g, (Value.slice A3 us.length c3).ownBlock = some g → p.block ≠ g) → w6.cell? p = w5.cell? p := fun p hp hne => World.cell?_of_block (hg6.block p.block hp (fun e => hne _ e.symm rfl))
    have d6 := (far ⟨w1.heap.size, 0, none⟩ (by simp; omega) (fun g hg => by have := (HL3.out g hg).1; simp; omega)).trans d5
    have x6 := (far ⟨w3.heap.size, 0, none⟩ (by simpa using g5) (fun g hg => by have := (HL3.out g hg).2; simp; omega)).trans x5
    have m6 := (far ⟨0, 0, none⟩ (by simp; omega) (fun g hg => by have := (HL3.out g hg).1; simp; omega)).trans m5
    have s6 := s5.grown hg6 (by omega) (fun g hg => by have := (HL3.out g hg).1; omega)
    have B6 := B5.grown hg6 (by omega) (fun g hg => by have := (HL3.out g hg).1; omega)
    have z6 : w5.heap.size ≤ w6.heap.size := hg6.size
    have t6 := o6.see
    clear far d5 x5 m5 s5 o5 B5 hg6 o6
    obtain ⟨z, HZ⟩ : ∃ z : Int, Hid (((1 + us.length : Nat) : Int) = z) := ⟨_, Lib.hid rfl⟩
    have hz : ¬ z < 0 := by have := HZ.out; omega
    have hzz : (z != z) = false := by simp
    rw [HZ.out]
    have HH := Lib.hid (fun (W : World) B h1 h2 => heldOrder_any B (.slice A3 us.length c3) 1 us.length W h1 h2 (by omega))
    rw [HZ.out] at HH
    go_wp2_with fail
    refine (HH.out _ w6.heap.size (Nat.le_refl _) t6).mono ?_
    rintro e w7 ⟨rfl, hb7⟩
    have d7 := (hb7.cell (p := ⟨w1.heap.size, 0, none⟩) (by simp; omega)).trans d6
    have x7 := (hb7.cell (p := ⟨w3.heap.size, 0, none⟩) (by simp; omega)).trans x6
    have m7 := (hb7.cell (p := ⟨0, 0, none⟩) (by simp; omega)).trans m6
    have s7 := s6.below (hb7.mono (by omega))
    have t7 := (t6.below hb7).more hb7.size
    have B7 := below_then B6 hb7 (Nat.le_refl _)
    have z7 := hb7.size
    clear d6 x6 m6 s6 t6 B6 hb7
    go_wp2_with fail
    refine (him.out _ m7).mono ?_
    rintro e w8 ⟨v8, rfl, o8, hb8⟩
    obtain ⟨A8, c8, rfl⟩ := o8.see.shape
    have d8 := (hb8.cell (p := ⟨w1.heap.size, 0, none⟩) (by simp; omega)).trans d7
    have x8 := (hb8.cell (p := ⟨w3.heap.size, 0, none⟩) (by simp; omega)).trans x7
    have s8 := s7.below (hb8.mono (by omega))
    have t8 := (t7.below hb8).more hb8.size
    have B8 := below_then B7 hb8 (Nat.le_refl _)
    have z8 := hb8.size
    have y8 := o8.see
    clear d7 x7 m7 s7 t7 B7 hb8 o8
    have k1 : w1.heap.size < w8.heap.size := by omega
    have k3 : w3.heap.size < w8.heap.size := by omega
    go_wp2_with fail
    have d9 : (w8.alloc (.cells #[.slice A8 us.length c8] 24)).cell? ⟨w1.heap.size, 0, none⟩ = some (.slice A1 us.length c1) := (World.cell?_alloc_lt _ _ _ (by simpa using k1)).trans d8
    have x9 : (w8.alloc (.cells #[.slice A8 us.length c8] 24)).cell? ⟨w3.heap.size, 0, none⟩ = some (.slice A3 us.length c3) := (World.cell?_alloc_lt _ _ _ (by simpa using k3)).trans x8
    have s9 := s8.alloc (by omega) (.cells #[.slice A8 us.length c8] 24)
    have t9 := t8.alloc (Nat.le_refl _) (.cells #[.slice A8 us.length c8] 24)
    have y9 := y8.alloc (Nat.le_refl _) (.cells #[.slice A8 us.length c8] 24)
    have B9 := B8.alloc (by omega) (.cells #[.slice A8 us.length c8] 24)
    have g9 : w8.heap.size < (w8.alloc (.cells #[.slice A8 us.length c8] 24)).heap.size := by simp
    clear d8 x8 s8 t8 y8 B8
    generalize w8.alloc _ = W9 at d9 x9 s9 t9 y9 B9 g9 ⊢
    refine (eq_copy2 w8.heap.size _ _ us _ (Nat.le_of_lt g9) y9 (s9.more (by omega))).mono ?_
    rintro e w10 ⟨rfl, hb10⟩
    have x10 := (hb10.cell (p := ⟨w3.heap.size, 0, none⟩) (by simp; omega)).trans x9
    have t10 := t9.below (hb10.mono (Nat.le_of_lt g9))
    have B10 := below_then B9 hb10 (Nat.le_refl _)
    have z10 := hb10.size
    clear d9 x9 s9 t9 y9 B9 hb10
    go_wp2_with fail
    refine (HH.out _ w8.heap.size (by omega) t10).mono ?_
    rintro e w11 ⟨rfl, hb11⟩
    go_wp2_with fail
    go_ret
    exact ⟨rfl, below_then B10 hb11 (Nat.le_refl _)⟩
  · have h20 : (1048576 : Int) < l.length := by omega
    go_enter Tryd.func3, Tryd.ntmps3
    go_wp2_with fail
    go_ret
    exact ⟨rfl, Below.refl _ _⟩

end Go.Proofs.YtacleaiamknjiaaDoor
