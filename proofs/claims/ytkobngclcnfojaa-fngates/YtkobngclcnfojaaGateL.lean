/- The walks of the laws FnExactGatesOk, FnExactMaySee, FnExactSeenBy and FnExactOwnOf. -/
import Derived.Test.YtkobngclcnfojaaGateC
import Derived.Test.YtkobngclcnfojaaOrdL
namespace Go.Proofs.Ytkobngclcnfojaa
open Go.RowKit
set_option linter.unusedVariables false

/-- The laws' state behind the copies: the arguments, the copies x0 (in a variable) and x1. -/
structure Lw (w0 : World) (o : Nat) (v u : Value) (us gs : List Int) (o' : Nat) (v' u' : Value) (W : World) : Prop where
  st : Sg w0 o v u us gs W
  box : W.cell? ⟨o', 0, none⟩ = some v'
  lt : o' < W.heap.size
  see : SeeI W W.heap.size v' us
  gat : SeeI W W.heap.size u' gs
theorem Lw.next {w0 W W' : World} {o o' : Nat} {v u v' u' : Value} {us gs : List Int} (h : Lw w0 o v u us gs o' v' u' W) (hb : Below W.heap.size W W') : Lw w0 o v u us gs o' v' u' W' :=
  ⟨h.st.next hb, (hb.cell (p := ⟨o', 0, none⟩) h.lt).trans h.box, Nat.lt_of_lt_of_le h.lt hb.size, (h.see.below hb).more hb.size, (h.gat.below hb).more hb.size⟩
theorem SeeI.next {w w' : World} {v : Value} {zs : List Int} (h : SeeI w w.heap.size v zs) (hb : Below w.heap.size w w') : SeeI w' w'.heap.size v zs := (h.below hb).more hb.size
theorem eq_ints (B : Nat) (va vb : Value) (zs : List Int) (w : World) (ha : SeeI w B va zs) (hb : SeeI w B vb zs) : Calls Try.prog 26 #[va, vb] w (BoolOf w true) := by
  have := eqInts_any B va vb zs zs w ha hb
  rw [eqI_same] at this
  exact this.mono fun e w' ⟨h1, n, h2⟩ => ⟨h1, by rw [h2]; exact below_drewN (Below.refl _ _) n⟩

set_option maxHeartbeats 8000000 in
set_option maxRecDepth 100000 in
theorem gatesOk_law (v u : Value) (us gs : List Int) (w : World) (hs : SeeI w w.heap.size v us) (ht : SeeI w w.heap.size u gs) : Calls Try.prog 4 #[.agg #[v], u] w (BoolOf w true) := by
  have S0 := Sg.box hs ht (Nat.le_refl _) 36
  obtain ⟨A, c, rfl⟩ := hs.shape
  obtain ⟨A', c', rfl⟩ := ht.shape
  have hm := hs.1
  have hm' := ht.1
  unfold maxLen at hm'
  have c0 := S0.cell
  by_cases hg : gs.length ≤ 1048576
  · have hg' : ¬ (1048576 : Int) < gs.length := by omega
    by_cases hl : us.length ≤ 1048576
    · have HZ : Hid (szB 1048576 us.length = 1048576 - us.length) := Lib.hid (by simp [szB]; omega)
      have h9 : ¬ (1048576 : Int) - us.length < 0 := by omega
      clear hs ht
      go_enter Try.func4, Try.ntmps4
      go_wp2_with fail
      generalize w.alloc _ = W at S0 c0 ⊢
      generalize hoo : w.heap.size = o at S0 c0 ⊢
      have HO := Lib.hid hoo
      clear hoo
      refine (szOrder_any _ _ _ _ hm (by decide) (by decide) _).mono ?_
      rintro e w1 ⟨rfl, hb1⟩
      rw [HZ.out]
      have S1 := S0.next hb1
      have c1 := S1.cell
      clear S0 c0 hb1
      go_wp2_with fail
      refine (toOrder_any o _ us hl _ S1.see S1.le).mono ?_
      rintro e w2 ⟨v2, rfl, o2, hb2⟩
      have S2 := S1.next hb2
      have c2 := S2.cell
      have t2 := o2.see
      clear S1 c1 hb2 o2
      go_wp2_with fail
      refine (toInts_any o _ gs hg _ S2.gat S2.le).mono ?_
      rintro e w3 ⟨v3, rfl, o3, hb3⟩
      have S3 := S2.next hb3
      have c3 := S3.cell
      have t3 := t2.next hb3
      clear S2 c2 t2 hb3
      go_wp2_with fail
      refine (sGatesOk_any w3.heap.size _ _ us gs _ t3 o3.see (Nat.le_refl _)).mono ?_
      rintro e w4 ⟨rfl, hb4⟩
      have S4 := S3.next hb4
      have c4 := S4.cell
      clear S3 c3 t3 o3 hb4
      go_wp2_with fail
      refine (toOrder_any o _ us hl _ S4.see S4.le).mono ?_
      rintro e w5 ⟨v5, rfl, o5, hb5⟩
      have S5 := S4.next hb5
      have c5 := S5.cell
      have t5 := o5.see
      obtain ⟨A5, q5, rfl⟩ := t5.shape
      clear S4 c4 hb5 o5
      have bb : Below w5.heap.size w5 (w5.alloc (.cells #[.slice A5 us.length q5] 26)) := (Below.refl _ _).alloc (Nat.le_refl _) _
      have S6 := S5.next bb
      have c6 := S6.cell
      have t6 := t5.next bb
      have x6 : (w5.alloc (.cells #[.slice A5 us.length q5] 26)).cell? ⟨w5.heap.size, 0, none⟩ = some (.slice A5 us.length q5) := cell_of_row _ _ 0 _ _ (0, 0) (heap_alloc_new _ _)
      have g6 : w5.heap.size < (w5.alloc (.cells #[.slice A5 us.length q5] 26)).heap.size := by simp
      clear S5 c5 t5 bb
      go_wp2_with fail
      generalize w5.alloc _ = W6 at S6 c6 t6 x6 g6 ⊢
      generalize w5.heap.size = o' at x6 g6 ⊢
      refine (toInts_any o _ gs hg _ S6.gat S6.le).mono ?_
      rintro e w7 ⟨v7, rfl, o7, hb7⟩
      have L7 : Lw w o (.slice A us.length c) (.slice A' gs.length c') us gs o' (.slice A5 us.length q5) v7 w7 := ⟨S6.next hb7, (hb7.cell (p := ⟨o', 0, none⟩) g6).trans x6, Nat.lt_of_lt_of_le g6 hb7.size, t6.next hb7, o7.see⟩
      have x7 := L7.box
      obtain ⟨A7, q7, rfl⟩ := L7.gat.shape
      clear S6 c6 t6 x6 g6 o7 hb7
      go_wp2_with fail
      refine (iGatesOk_any w7.heap.size _ _ us gs _ L7.see L7.gat (Nat.le_refl _)).mono ?_
      rintro e w8 ⟨rfl, hb8⟩
      have L8 := L7.next hb8
      have x8 := L8.box
      have c8 := L8.st.cell
      clear L7 x7 hb8
      have hne : (gatesS us gs != gatesS us gs) = false := by simp
      go_wp2_with fail
      go_region_held3 (fun w' => w'.cell? ⟨o', 0, none⟩ = some (.slice A5 us.length q5) ∧ w'.cell? ⟨o, 0, none⟩ = some (.slice A us.length c) ∧ Below w8.heap.size w8 w')
        (first | exact ⟨x8, c8, (Below.refl _ _).drew⟩ | exact held_on x8 c8 hb9 (Below.refl _ _).drew | exact held_on x8 c8 hb10 k9)
        (first | (go_at_call 23; refine (toOrder_any o _ us hl w8.drew (L8.st.see.keep fun _ _ => rfl) L8.st.le).mono ?_; rintro e w9 ⟨v9, rfl, o9, hb9⟩) | (go_at_call 25; have k9 := below_then (Below.refl w8.heap.size w8).drew hb9 (Nat.le_refl _); refine (eq_copy _ _ _ us _ (Nat.le_refl _) (L8.see.next k9) o9.see).mono ?_; rintro e w10 ⟨rfl, hb10⟩))
      have L10 := L8.next (below_then (below_then (Below.refl w8.heap.size w8).drew hb9 (Nat.le_refl _)) hb10 (Nat.le_refl _))
      clear L8 x8 c8 hb9 hb10
      go_wp2_with fail
      refine (toInts_any o _ gs hg _ L10.st.gat L10.st.le).mono ?_
      rintro e w11 ⟨v11, rfl, o11, hb11⟩
      have L11 := L10.next hb11
      clear L10 hb11
      go_wp2_with fail
      refine (eq_ints w11.heap.size _ _ gs _ L11.gat o11.see).mono ?_
      rintro e w12 ⟨rfl, hb12⟩
      have L12 := L11.next hb12
      clear L11 hb12 o11
      go_wp2_with fail
      go_ret
      exact ⟨rfl, L12.st.old⟩
    · have HZ : Hid (szB 1048576 us.length = -1) := Lib.hid (by simp [szB]; omega)
      go_enter Try.func4, Try.ntmps4
      go_wp2_with fail
      refine (szOrder_any _ _ _ _ hm (by decide) (by decide) _).mono ?_
      rintro e w1 ⟨rfl, hb1⟩
      rw [HZ.out]
      go_wp2_with fail
      go_ret
      exact ⟨rfl, (S0.next hb1).old⟩
  · have hg' : (1048576 : Int) < gs.length := by omega
    go_enter Try.func4, Try.ntmps4
    go_wp2_with fail
    go_ret
    exact ⟨rfl, S0.old⟩

set_option maxHeartbeats 8000000 in
set_option maxRecDepth 100000 in
theorem maySee_law (v u : Value) (us gs : List Int) (r g : Int) (w : World) (hs : SeeI w w.heap.size v us) (ht : SeeI w w.heap.size u gs) : Calls Try.prog 5 #[.agg #[v], u, .int .i64 r, .int .i64 g] w (BoolOf w true) := by
  have S0 := Sg.box hs ht (Nat.le_refl _) 36
  obtain ⟨A, c, rfl⟩ := hs.shape
  obtain ⟨A', c', rfl⟩ := ht.shape
  have hm := hs.1
  have hm' := ht.1
  unfold maxLen at hm'
  have c0 := S0.cell
  by_cases hg : gs.length ≤ 1048576
  · have hg' : ¬ (1048576 : Int) < gs.length := by omega
    by_cases hl : us.length ≤ 1048576
    · have HZ : Hid (szB 1048576 us.length = 1048576 - us.length) := Lib.hid (by simp [szB]; omega)
      have h9 : ¬ (1048576 : Int) - us.length < 0 := by omega
      clear hs ht
      go_enter Try.func5, Try.ntmps5
      go_wp2_with fail
      generalize w.alloc _ = W at S0 c0 ⊢
      generalize hoo : w.heap.size = o at S0 c0 ⊢
      have HO := Lib.hid hoo
      clear hoo
      refine (szOrder_any _ _ _ _ hm (by decide) (by decide) _).mono ?_
      rintro e w1 ⟨rfl, hb1⟩
      rw [HZ.out]
      have S1 := S0.next hb1
      have c1 := S1.cell
      clear S0 c0 hb1
      go_wp2_with fail
      refine (toOrder_any o _ us hl _ S1.see S1.le).mono ?_
      rintro e w2 ⟨v2, rfl, o2, hb2⟩
      have S2 := S1.next hb2
      have c2 := S2.cell
      have t2 := o2.see
      clear S1 c1 hb2 o2
      go_wp2_with fail
      refine (toInts_any o _ gs hg _ S2.gat S2.le).mono ?_
      rintro e w3 ⟨v3, rfl, o3, hb3⟩
      have S3 := S2.next hb3
      have c3 := S3.cell
      have t3 := t2.next hb3
      clear S2 c2 t2 hb3
      go_wp2_with fail
      refine (sMaySee_any w3.heap.size _ _ us gs r g _ t3 o3.see (Nat.le_refl _)).mono ?_
      rintro e w4 ⟨rfl, hb4⟩
      have S4 := S3.next hb4
      have c4 := S4.cell
      clear S3 c3 t3 o3 hb4
      go_wp2_with fail
      refine (toOrder_any o _ us hl _ S4.see S4.le).mono ?_
      rintro e w5 ⟨v5, rfl, o5, hb5⟩
      have S5 := S4.next hb5
      have c5 := S5.cell
      have t5 := o5.see
      obtain ⟨A5, q5, rfl⟩ := t5.shape
      clear S4 c4 hb5 o5
      have bb : Below w5.heap.size w5 (w5.alloc (.cells #[.slice A5 us.length q5] 26)) := (Below.refl _ _).alloc (Nat.le_refl _) _
      have S6 := S5.next bb
      have c6 := S6.cell
      have t6 := t5.next bb
      have x6 : (w5.alloc (.cells #[.slice A5 us.length q5] 26)).cell? ⟨w5.heap.size, 0, none⟩ = some (.slice A5 us.length q5) := cell_of_row _ _ 0 _ _ (0, 0) (heap_alloc_new _ _)
      have g6 : w5.heap.size < (w5.alloc (.cells #[.slice A5 us.length q5] 26)).heap.size := by simp
      clear S5 c5 t5 bb
      go_wp2_with fail
      generalize w5.alloc _ = W6 at S6 c6 t6 x6 g6 ⊢
      generalize w5.heap.size = o' at x6 g6 ⊢
      refine (toInts_any o _ gs hg _ S6.gat S6.le).mono ?_
      rintro e w7 ⟨v7, rfl, o7, hb7⟩
      have L7 : Lw w o (.slice A us.length c) (.slice A' gs.length c') us gs o' (.slice A5 us.length q5) v7 w7 := ⟨S6.next hb7, (hb7.cell (p := ⟨o', 0, none⟩) g6).trans x6, Nat.lt_of_lt_of_le g6 hb7.size, t6.next hb7, o7.see⟩
      have x7 := L7.box
      obtain ⟨A7, q7, rfl⟩ := L7.gat.shape
      clear S6 c6 t6 x6 g6 o7 hb7
      go_wp2_with fail
      refine (iMaySee_any w7.heap.size _ _ us gs r g _ L7.see L7.gat (Nat.le_refl _)).mono ?_
      rintro e w8 ⟨rfl, hb8⟩
      have L8 := L7.next hb8
      have x8 := L8.box
      have c8 := L8.st.cell
      clear L7 x7 hb8
      have hne : (maySeeS us gs r g != maySeeS us gs r g) = false := by simp
      go_wp2_with fail
      go_region_held3 (fun w' => w'.cell? ⟨o', 0, none⟩ = some (.slice A5 us.length q5) ∧ w'.cell? ⟨o, 0, none⟩ = some (.slice A us.length c) ∧ Below w8.heap.size w8 w')
        (first | exact ⟨x8, c8, (Below.refl _ _).drew⟩ | exact held_on x8 c8 hb9 (Below.refl _ _).drew | exact held_on x8 c8 hb10 k9)
        (first | (go_at_call 23; refine (toOrder_any o _ us hl w8.drew (L8.st.see.keep fun _ _ => rfl) L8.st.le).mono ?_; rintro e w9 ⟨v9, rfl, o9, hb9⟩) | (go_at_call 25; have k9 := below_then (Below.refl w8.heap.size w8).drew hb9 (Nat.le_refl _); refine (eq_copy _ _ _ us _ (Nat.le_refl _) (L8.see.next k9) o9.see).mono ?_; rintro e w10 ⟨rfl, hb10⟩))
      have L10 := L8.next (below_then (below_then (Below.refl w8.heap.size w8).drew hb9 (Nat.le_refl _)) hb10 (Nat.le_refl _))
      clear L8 x8 c8 hb9 hb10
      go_wp2_with fail
      refine (toInts_any o _ gs hg _ L10.st.gat L10.st.le).mono ?_
      rintro e w11 ⟨v11, rfl, o11, hb11⟩
      have L11 := L10.next hb11
      clear L10 hb11
      go_wp2_with fail
      refine (eq_ints w11.heap.size _ _ gs _ L11.gat o11.see).mono ?_
      rintro e w12 ⟨rfl, hb12⟩
      have L12 := L11.next hb12
      clear L11 hb12 o11
      go_wp2_with fail
      go_ret
      exact ⟨rfl, L12.st.old⟩
    · have HZ : Hid (szB 1048576 us.length = -1) := Lib.hid (by simp [szB]; omega)
      go_enter Try.func5, Try.ntmps5
      go_wp2_with fail
      refine (szOrder_any _ _ _ _ hm (by decide) (by decide) _).mono ?_
      rintro e w1 ⟨rfl, hb1⟩
      rw [HZ.out]
      go_wp2_with fail
      go_ret
      exact ⟨rfl, (S0.next hb1).old⟩
  · have hg' : (1048576 : Int) < gs.length := by omega
    go_enter Try.func5, Try.ntmps5
    go_wp2_with fail
    go_ret
    exact ⟨rfl, S0.old⟩

end Go.Proofs.Ytkobngclcnfojaa
