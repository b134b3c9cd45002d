/- The walks of the laws FnExactJoin and FnExactMeet. -/
import Derived.Test.YtkpaidadofmpfaaOrdL
import Derived.Test.YtkpaidadofmpfaaLatA
import Derived.Test.YtkpaidadofmpfaaLatC
namespace Go.Proofs.Ytkpaidadofmpfaa
open Go.RowKit
set_option linter.unusedVariables false

set_option maxHeartbeats 4000000 in
theorem join_law (v : Value) (us : List Int) (a b : Int) (w : World) (hs : SeeI w w.heap.size v us) : Calls Try.prog 5 #[.agg #[v], .int .i64 a, .int .i64 b] w (BoolOf w true) := by
  obtain ⟨A, c, rfl⟩ := hs.shape
  have hm := hs.1
  unfold maxLen at hm
  have hs1 := hs.alloc (Nat.le_refl _) (.cells #[.slice A us.length c] 37)
  have hc0 : (w.alloc (.cells #[.slice A us.length c] 37)).cell? ⟨w.heap.size, 0, none⟩ = some (.slice A us.length c) := cell_of_row _ _ 0 _ _ (0, 0) (heap_alloc_new _ _)
  have b0 : Below w.heap.size w (w.alloc (.cells #[.slice A us.length c] 37)) := (Below.refl _ _).alloc (Nat.le_refl _) _
  have z0 : (w.alloc (.cells #[.slice A us.length c] 37)).heap.size = w.heap.size + 1 := by simp
  by_cases hl : us.length ≤ 1048576
  · have HZ : Hid (szB 1048576 us.length = 1048576 - us.length) := Lib.hid (by simp [szB]; omega)
    go_enter Try.func5, Try.ntmps5
    go_wp2_with fail
    have Z0 := Lib.hid z0
    clear z0
    generalize w.alloc _ = W at hs1 hc0 b0 Z0 ⊢
    refine (szOrder_any _ _ _ _ hs.1 (by decide) (by decide) _).mono ?_
    rintro e w1 ⟨rfl, hb1⟩
    rw [HZ.out]
    have h9 : ¬ (1048576 : Int) - us.length < 0 := by omega
    have c1 := (hb1.cell (p := ⟨w.heap.size, 0, none⟩) (by have := Z0.out; simp; omega)).trans hc0
    have s1 := hs1.below (hb1.mono (by have := Z0.out; omega))
    have g1 : w.heap.size < w1.heap.size := by have := hb1.size; have := Z0.out; omega
    go_wp2_with fail
    refine (toOrder_any w.heap.size _ us hl _ s1 (by omega)).mono ?_
    rintro e w2 ⟨v2, rfl, o2, hb2⟩
    have c2 := (hb2.cell (p := ⟨w.heap.size, 0, none⟩) (by simp; omega)).trans c1
    have s2 := s1.below (hb2.mono (by omega))
    have g2 : w.heap.size < w2.heap.size := by have := hb2.size; omega
    go_wp2_with fail
    refine (sJoin_any w2.heap.size _ us a b _ o2.see (Nat.le_refl _)).mono ?_
    rintro e w3 ⟨rfl, hb3⟩
    have c3 := (hb3.cell (p := ⟨w.heap.size, 0, none⟩) (by simp; omega)).trans c2
    have s3 := s2.below (hb3.mono (by omega))
    have g3 : w.heap.size < w3.heap.size := by have := hb3.size; omega
    go_wp2_with fail
    refine (toOrder_any w.heap.size _ us hl _ s3 (by omega)).mono ?_
    rintro e w4 ⟨v4, rfl, o4, hb4⟩
    have c4 := (hb4.cell (p := ⟨w.heap.size, 0, none⟩) (by simp; omega)).trans c3
    have s4 := s3.below (hb4.mono (by omega))
    have g4 : w.heap.size < w4.heap.size := by have := hb4.size; omega
    obtain ⟨A4, q4, rfl⟩ := o4.see.shape
    go_wp2_with fail
    have o5 := o4.alloc (.cells #[.slice A4 us.length q4] 26)
    have c5 : (w4.alloc (.cells #[.slice A4 us.length q4] 26)).cell? ⟨w.heap.size, 0, none⟩ = some (.slice A us.length c) := (World.cell?_alloc_lt _ _ _ (by simp; omega)).trans c4
    have d5 : (w4.alloc (.cells #[.slice A4 us.length q4] 26)).cell? ⟨w4.heap.size, 0, none⟩ = some (.slice A4 us.length q4) := cell_of_row _ _ 0 _ _ (0, 0) (heap_alloc_new _ _)
    have s5 := s4.alloc (by omega) (.cells #[.slice A4 us.length q4] 26)
    have B5 : Below w.heap.size w (w4.alloc (.cells #[.slice A4 us.length q4] 26)) := ((((b0.trans (hb1.mono b0.size)).trans (hb2.mono (by omega))).trans (hb3.mono (by omega))).trans (hb4.mono (by omega))).alloc (by omega) _
    have z5 : (w4.alloc (.cells #[.slice A4 us.length q4] 26)).heap.size = w4.heap.size + 1 := by simp
    have Z5 := Lib.hid z5
    have t5 := o4.see.alloc (Nat.le_refl _) (.cells #[.slice A4 us.length q4] 26)
    clear z5 s1 s2 s3 s4 c1 c2 c3 c4 hb1 hb2 hb3 hb4 o2 o4 hs1 hc0 hs b0
    generalize w4.alloc _ = W5 at *
    refine (iJoin_any w4.heap.size _ us a b _ t5 (by have := Z5.out; omega)).mono ?_
    rintro e w6 ⟨rfl, hb6⟩
    have c6 := (hb6.cell (p := ⟨w.heap.size, 0, none⟩) (by have := Z5.out; simp; omega)).trans c5
    have d6 := (hb6.cell (p := ⟨w4.heap.size, 0, none⟩) (by have := Z5.out; simp; omega)).trans d5
    have s6 := s5.below (hb6.mono (by have := Z5.out; omega))
    have t6 := t5.below (hb6.mono (by have := Z5.out; omega))
    have g6 : w4.heap.size < w6.heap.size := by have := hb6.size; have := Z5.out; omega
    have B6 := below_then B5 hb6 (Nat.le_refl _)
    clear c5 d5 s5 t5 B5 hb6 o5
    have hne : (joinS us a b != joinS us a b) = false := by simp
    go_wp2_with fail
    go_region_held3 (fun w' => w'.cell? ⟨w4.heap.size, 0, none⟩ = some (.slice A4 us.length q4) ∧ w'.cell? ⟨w.heap.size, 0, none⟩ = some (.slice A us.length c) ∧ Below w6.heap.size w6 w')
      (first | exact ⟨d6, c6, (Below.refl _ _).drew⟩ | exact held_on d6 c6 hb7 (Below.refl _ _).drew | exact held_on d6 c6 hb8 k7)
      (first | (go_at_call 27; refine (toOrder_any w.heap.size _ us hl w6.drew (s6.keep fun _ _ => rfl) (Nat.le_of_lt (Nat.lt_trans g4 g6))).mono ?_; rintro e w7 ⟨v7, rfl, o7, hb7⟩) | (go_at_call 28; have k7 := below_then (Below.refl w6.heap.size w6).drew hb7 (Nat.le_refl _); refine (eq_copy _ _ _ us _ (Nat.le_refl _) ((t6.below (k7.mono (Nat.le_of_lt g6))).more (Nat.le_trans (Nat.le_of_lt g6) k7.size)) o7.see).mono ?_; rintro e w8 ⟨rfl, hb8⟩))
    go_wp2_with fail
    go_ret
    exact ⟨rfl, below_then (below_then B6.drew hb7 (Nat.le_refl _)) hb8 (Nat.le_refl _)⟩
  · have HZ : Hid (szB 1048576 us.length = -1) := Lib.hid (by simp [szB]; omega)
    go_enter Try.func5, Try.ntmps5
    go_wp2_with fail
    refine (szOrder_any _ _ _ _ hs.1 (by decide) (by decide) _).mono ?_
    rintro e w1 ⟨rfl, hb1⟩
    rw [HZ.out]
    go_wp2_with fail
    go_ret
    exact ⟨rfl, below_then b0 hb1 (Nat.le_refl _)⟩

set_option maxHeartbeats 4000000 in
theorem meet_law (v : Value) (us : List Int) (a b : Int) (w : World) (hs : SeeI w w.heap.size v us) : Calls Try.prog 6 #[.agg #[v], .int .i64 a, .int .i64 b] w (BoolOf w true) := by
  obtain ⟨A, c, rfl⟩ := hs.shape
  have hm := hs.1
  unfold maxLen at hm
  have hs1 := hs.alloc (Nat.le_refl _) (.cells #[.slice A us.length c] 37)
  have hc0 : (w.alloc (.cells #[.slice A us.length c] 37)).cell? ⟨w.heap.size, 0, none⟩ = some (.slice A us.length c) := cell_of_row _ _ 0 _ _ (0, 0) (heap_alloc_new _ _)
  have b0 : Below w.heap.size w (w.alloc (.cells #[.slice A us.length c] 37)) := (Below.refl _ _).alloc (Nat.le_refl _) _
  have z0 : (w.alloc (.cells #[.slice A us.length c] 37)).heap.size = w.heap.size + 1 := by simp
  by_cases hl : us.length ≤ 1048576
  · have HZ : Hid (szB 1048576 us.length = 1048576 - us.length) := Lib.hid (by simp [szB]; omega)
    go_enter Try.func6, Try.ntmps6
    go_wp2_with fail
    have Z0 := Lib.hid z0
    clear z0
    generalize w.alloc _ = W at hs1 hc0 b0 Z0 ⊢
    refine (szOrder_any _ _ _ _ hs.1 (by decide) (by decide) _).mono ?_
    rintro e w1 ⟨rfl, hb1⟩
    rw [HZ.out]
    have h9 : ¬ (1048576 : Int) - us.length < 0 := by omega
    have c1 := (hb1.cell (p := ⟨w.heap.size, 0, none⟩) (by have := Z0.out; simp; omega)).trans hc0
    have s1 := hs1.below (hb1.mono (by have := Z0.out; omega))
    have g1 : w.heap.size < w1.heap.size := by have := hb1.size; have := Z0.out; omega
    go_wp2_with fail
    refine (toOrder_any w.heap.size _ us hl _ s1 (by omega)).mono ?_
    rintro e w2 ⟨v2, rfl, o2, hb2⟩
    have c2 := (hb2.cell (p := ⟨w.heap.size, 0, none⟩) (by simp; omega)).trans c1
    have s2 := s1.below (hb2.mono (by omega))
    have g2 : w.heap.size < w2.heap.size := by have := hb2.size; omega
    go_wp2_with fail
    refine (sMeet_any w2.heap.size _ us a b _ o2.see (Nat.le_refl _)).mono ?_
    rintro e w3 ⟨rfl, hb3⟩
    have c3 := (hb3.cell (p := ⟨w.heap.size, 0, none⟩) (by simp; omega)).trans c2
    have s3 := s2.below (hb3.mono (by omega))
    have g3 : w.heap.size < w3.heap.size := by have := hb3.size; omega
    go_wp2_with fail
    refine (toOrder_any w.heap.size _ us hl _ s3 (by omega)).mono ?_
    rintro e w4 ⟨v4, rfl, o4, hb4⟩
    have c4 := (hb4.cell (p := ⟨w.heap.size, 0, none⟩) (by simp; omega)).trans c3
    have s4 := s3.below (hb4.mono (by omega))
    have g4 : w.heap.size < w4.heap.size := by have := hb4.size; omega
    obtain ⟨A4, q4, rfl⟩ := o4.see.shape
    go_wp2_with fail
    have o5 := o4.alloc (.cells #[.slice A4 us.length q4] 26)
    have c5 : (w4.alloc (.cells #[.slice A4 us.length q4] 26)).cell? ⟨w.heap.size, 0, none⟩ = some (.slice A us.length c) := (World.cell?_alloc_lt _ _ _ (by simp; omega)).trans c4
    have d5 : (w4.alloc (.cells #[.slice A4 us.length q4] 26)).cell? ⟨w4.heap.size, 0, none⟩ = some (.slice A4 us.length q4) := cell_of_row _ _ 0 _ _ (0, 0) (heap_alloc_new _ _)
    have s5 := s4.alloc (by omega) (.cells #[.slice A4 us.length q4] 26)
    have B5 : Below w.heap.size w (w4.alloc (.cells #[.slice A4 us.length q4] 26)) := ((((b0.trans (hb1.mono b0.size)).trans (hb2.mono (by omega))).trans (hb3.mono (by omega))).trans (hb4.mono (by omega))).alloc (by omega) _
    have z5 : (w4.alloc (.cells #[.slice A4 us.length q4] 26)).heap.size = w4.heap.size + 1 := by simp
    have Z5 := Lib.hid z5
    have t5 := o4.see.alloc (Nat.le_refl _) (.cells #[.slice A4 us.length q4] 26)
    clear z5 s1 s2 s3 s4 c1 c2 c3 c4 hb1 hb2 hb3 hb4 o2 o4 hs1 hc0 hs b0
    generalize w4.alloc _ = W5 at *
    refine (iMeet_any w4.heap.size _ us a b _ t5 (by have := Z5.out; omega)).mono ?_
    rintro e w6 ⟨rfl, hb6⟩
    have c6 := (hb6.cell (p := ⟨w.heap.size, 0, none⟩) (by have := Z5.out; simp; omega)).trans c5
    have d6 := (hb6.cell (p := ⟨w4.heap.size, 0, none⟩) (by have := Z5.out; simp; omega)).trans d5
    have s6 := s5.below (hb6.mono (by have := Z5.out; omega))
    have t6 := t5.below (hb6.mono (by have := Z5.out; omega))
    have g6 : w4.heap.size < w6.heap.size := by have := hb6.size; have := Z5.out; omega
    have B6 := below_then B5 hb6 (Nat.le_refl _)
    clear c5 d5 s5 t5 B5 hb6 o5
    have hne : (meetS us a b != meetS us a b) = false := by simp
    go_wp2_with fail
    go_region_held3 (fun w' => w'.cell? ⟨w4.heap.size, 0, none⟩ = some (.slice A4 us.length q4) ∧ w'.cell? ⟨w.heap.size, 0, none⟩ = some (.slice A us.length c) ∧ Below w6.heap.size w6 w')
      (first | exact ⟨d6, c6, (Below.refl _ _).drew⟩ | exact held_on d6 c6 hb7 (Below.refl _ _).drew | exact held_on d6 c6 hb8 k7)
      (first | (go_at_call 27; refine (toOrder_any w.heap.size _ us hl w6.drew (s6.keep fun _ _ => rfl) (Nat.le_of_lt (Nat.lt_trans g4 g6))).mono ?_; rintro e w7 ⟨v7, rfl, o7, hb7⟩) | (go_at_call 28; have k7 := below_then (Below.refl w6.heap.size w6).drew hb7 (Nat.le_refl _); refine (eq_copy _ _ _ us _ (Nat.le_refl _) ((t6.below (k7.mono (Nat.le_of_lt g6))).more (Nat.le_trans (Nat.le_of_lt g6) k7.size)) o7.see).mono ?_; rintro e w8 ⟨rfl, hb8⟩))
    go_wp2_with fail
    go_ret
    exact ⟨rfl, below_then (below_then B6.drew hb7 (Nat.le_refl _)) hb8 (Nat.le_refl _)⟩
  · have HZ : Hid (szB 1048576 us.length = -1) := Lib.hid (by simp [szB]; omega)
    go_enter Try.func6, Try.ntmps6
    go_wp2_with fail
    refine (szOrder_any _ _ _ _ hs.1 (by decide) (by decide) _).mono ?_
    rintro e w1 ⟨rfl, hb1⟩
    rw [HZ.out]
    go_wp2_with fail
    go_ret
    exact ⟨rfl, below_then b0 hb1 (Nat.le_refl _)⟩

end Go.Proofs.Ytkpaidadofmpfaa
