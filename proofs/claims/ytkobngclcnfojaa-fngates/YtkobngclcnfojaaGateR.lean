/- The walks of the laws FnExactSeenBy and FnExactOwnOf. -/
import Derived.Test.YtkobngclcnfojaaGateL
namespace Go.Proofs.Ytkobngclcnfojaa
open Go.RowKit
set_option linter.unusedVariables false

theorem OwnI.apart {w w' : World} {B : Nat} {e : TypeId} {v : Value} {zs : List Int} {row : Option Nat} (h : OwnI w B e v zs) (hg : w.grownBy w' row) (hr : ∀ g, row = some g → g < B) : OwnI w' B e v zs := by
  have hlt := h.lt
  obtain ⟨hl, h⟩ := h
  refine ⟨hl, ?_⟩
  rcases h with h | ⟨b, cap, cur, rfl, hb', hg', h⟩
  · exact .inl h
  · exact .inr ⟨b, cap, cur, rfl, hb', by rw [hg.block b (hlt b rfl).2 (fun e => by have := hr b e.symm; omega)]; exact hg', h⟩
theorem Sg.grown {w0 W W' : World} {o : Nat} {v u : Value} {us gs : List Int} (h : Sg w0 o v u us gs W) (h0 : w0.heap.size ≤ o) {row : Option Nat} (hg : W.grownBy W' row) (hr : ∀ g, row = some g → o < g) : Sg w0 o v u us gs W' := by
  have hlt := h.lt
  refine ⟨?_, ?_, ?_, Nat.lt_of_lt_of_le hlt hg.size, ?_⟩
  · rw [World.cell?_of_block (hg.block o hlt (fun e => by have := hr o e.symm; omega))]; exact h.cell
  · exact h.see.grown hg h.le (fun g e => Nat.le_of_lt (hr g e))
  · exact h.gat.grown hg h.le (fun g e => Nat.le_of_lt (hr g e))
  · exact h.old.grown hg h.old.size (fun g e => by have := hr g e; omega)
theorem seen_le (us gs : List Int) (r : Int) : (seenS us gs r).length ≤ gs.length := by
  simp only [seenS]; split
  · exact sel_le _ _
  · simp
theorem own_le (us gs : List Int) (r : Int) : (ownS us gs r).length ≤ gs.length := by
  simp only [ownS]; split
  · exact sel_le _ _
  · simp
theorem grown_alloc' {w w' : World} {r : Option Nat} (o : Obj) (h : (w.alloc o).grownBy w' r) : w.grownBy w' r :=
  ⟨h.os, h.tape, h.output, by have := h.size; simp at this; omega, fun k hk hne => (h.block k (by simp; omega) hne).trans (Below.heap_alloc w o k hk)⟩

set_option maxHeartbeats 1000000 in
theorem markOrd_any (B : Nat) (e : TypeId) (v : Value) (zs : List Int) (s : Nat) (w : World) (h : OwnI w B e v zs) (hs : s + zs.length ≤ 4611686018427387904) :
    Calls Try.prog 27 #[.agg #[v], .int .i64 s] w fun r w' => r = .returned (.int .i64 ((s + zs.length : Nat) : Int)) ∧ OwnI w' B e v (marks s zs.length) ∧ w.grownBy w' v.ownBlock := by
  obtain ⟨A, c, rfl⟩ := h.see.shape
  go_enter Try.func27, Try.ntmps27
  go_wp2_with fail
  refine (markInts_any B e _ zs s _ (h.alloc _) hs).mono ?_
  rintro r w' ⟨rfl, ho, hg⟩
  obtain ⟨z, HZ⟩ : ∃ z : Int, Hid (((s + zs.length : Nat) : Int) = z) := ⟨_, Lib.hid rfl⟩
  rw [HZ.out]
  go_wp2_with fail
  go_ret
  exact ⟨by rw [HZ.out]; rfl, ho, grown_alloc' _ hg⟩

set_option maxHeartbeats 8000000 in
set_option maxRecDepth 100000 in
theorem seenBy_law (v u : Value) (us gs : List Int) (r : Int) (w : World) (hs : SeeI w w.heap.size v us) (ht : SeeI w w.heap.size u gs) : Calls Try.prog 6 #[.agg #[v], u, .int .i64 r] w (BoolOf w true) := by
  have S0 := Sg.box hs ht (Nat.le_refl _) 36
  obtain ⟨A, c, rfl⟩ := hs.shape
  obtain ⟨A', c', rfl⟩ := ht.shape
  have hm := hs.1
  have hm' := ht.1
  unfold maxLen at hm'
  have c0 := S0.cell
  by_cases hg : gs.length ≤ 1048576
  · have hg' : ¬ (1048576 : Int) < gs.length := by omega
    by_cases hl : us.length ≤ 1048576
    · have HZ : Hid (szB 1048576 us.length = 1048576 - us.length) := Lib.hid (by simp [szB]; omega)
      have h9 : ¬ (1048576 : Int) - us.length < 0 := by omega
      clear hs ht
      go_enter Try.func6, Try.ntmps6
      go_wp2_with fail
      generalize w.alloc _ = W at S0 c0 ⊢
      generalize hoo : w.heap.size = o at S0 c0 ⊢
      have HO := Lib.hid hoo
      clear hoo
      refine (szOrder_any _ _ _ _ hm (by decide) (by decide) _).mono ?_
      rintro e w1 ⟨rfl, hb1⟩
      rw [HZ.out]
      have S1 := S0.next hb1
      have c1 := S1.cell
      clear S0 c0 hb1
      go_wp2_with fail
      refine (toOrder_any o _ us hl _ S1.see S1.le).mono ?_
      rintro e w2 ⟨v2, rfl, o2, hb2⟩
      have S2 := S1.next hb2
      have c2 := S2.cell
      have t2 := o2.see
      clear S1 c1 hb2 o2
      go_wp2_with fail
      refine (toInts_any o _ gs hg _ S2.gat S2.le).mono ?_
      rintro e w3 ⟨v3, rfl, o3, hb3⟩
      have S3 := S2.next hb3
      have c3 := S3.cell
      have t3 := t2.next hb3
      clear S2 c2 t2 hb3
      go_wp2_with fail
      have hzl := seen_le us gs r
      generalize hzs : seenS us gs r = zs at hzl
      have HS := Lib.hid hzs
      clear hzs
      refine (sSeenBy_any w3.heap.size _ _ us gs r _ t3 o3.see (Nat.le_refl _)).mono ?_
      rintro e w4 ⟨v4, rfl, o4, hb4⟩
      rw [HS.out] at o4
      have S4 := S3.next hb4
      have c4 := S4.cell
      have r4 := o4.see
      clear S3 c3 t3 o3 o4 hb4
      obtain ⟨A4, q4, rfl⟩ := r4.shape
      have z4 : o < w4.heap.size := S4.lt
      generalize hn4 : w4.heap.size = n4 at r4 z4
      go_wp2_with fail
      refine (toOrder_any o _ us hl _ S4.see S4.le).mono ?_
      rintro e w5 ⟨v5, rfl, y5, hb5⟩
      have S5 := S4.next hb5
      have c5 := S5.cell
      have t5 := y5.see
      have r5 := r4.below (hb5.mono (Nat.le_of_eq hn4.symm))
      rw [hn4] at y5
      have z5 : n4 ≤ w5.heap.size := by have := hb5.size; omega
      have HY := Lib.hid y5.lt
      obtain ⟨A5, q5, rfl⟩ := t5.shape
      clear S4 c4 hb5 hn4 r4
      have bb : Below w5.heap.size w5 (w5.alloc (.cells #[.slice A5 us.length q5] 26)) := (Below.refl _ _).alloc (Nat.le_refl _) _
      have S6 := S5.next bb
      have c6 := S6.cell
      have t6 := t5.next bb
      have r6 := r5.below (bb.mono z5)
      have y6 := own_later y5 bb
      have x6 : (w5.alloc (.cells #[.slice A5 us.length q5] 26)).cell? ⟨w5.heap.size, 0, none⟩ = some (.slice A5 us.length q5) := cell_of_row _ _ 0 _ _ (0, 0) (heap_alloc_new _ _)
      have g6 : w5.heap.size < (w5.alloc (.cells #[.slice A5 us.length q5] 26)).heap.size := by simp
      clear S5 c5 t5 bb r5 y5
      go_wp2_with fail
      generalize w5.alloc _ = W6 at S6 c6 t6 x6 g6 r6 y6 ⊢
      generalize w5.heap.size = o' at x6 g6 z5 HY ⊢
      generalize hn6 : W6.heap.size = n6 at g6
      refine (toInts_any o _ gs hg _ S6.gat S6.le).mono ?_
      rintro e w7 ⟨v7, rfl, n7, hb7⟩
      have L7 : Lw w o (.slice A us.length c) (.slice A' gs.length c') us gs o' (.slice A5 us.length q5) v7 w7 := ⟨S6.next hb7, (hb7.cell (p := ⟨o', 0, none⟩) (by simp; omega)).trans x6, by have := hb7.size; omega, t6.next hb7, n7.see⟩
      have x7 := L7.box
      have r7 := r6.below (hb7.mono (by omega))
      have y7 := own_later y6 hb7
      have z7 : n6 ≤ w7.heap.size := by have := hb7.size; omega
      rw [hn6] at n7
      have HN := Lib.hid n7.lt
      obtain ⟨A7, q7, rfl⟩ := L7.gat.shape
      clear S6 c6 t6 x6 r6 y6 hb7 hn6
      generalize hn7 : w7.heap.size = m7 at z7 HN
      go_wp2_with fail
      refine (iSeenBy_any w7.heap.size _ _ us gs r _ L7.see L7.gat (Nat.le_refl _)).mono ?_
      rintro e w8 ⟨v8, rfl, p8, hb8⟩
      rw [HS.out, hn7] at p8
      have L8 := L7.next hb8
      have r8 := r7.below (hb8.mono (by omega))
      have y8 := own_later y7 hb8
      have n8 := own_later n7 hb8
      have z8 : m7 ≤ w8.heap.size := by have := hb8.size; omega
      obtain ⟨A8, q8, rfl⟩ := p8.see.shape
      clear L7 x7 r7 y7 n7 hb8 hn7
      go_wp2_with fail
      refine (eq_ints w8.heap.size _ _ _ _ p8.see (r8.more (by omega))).mono ?_
      rintro e wx ⟨rfl, hbx⟩
      have Lx := L8.next hbx
      have rx := r8.below (hbx.mono (by omega))
      have yx := own_later y8 hbx
      have nx := own_later n8 hbx
      have px := own_later p8 hbx
      have zx : m7 ≤ wx.heap.size := by have := hbx.size; omega
      have xx := Lx.box
      have cx := Lx.st.cell
      clear L8 r8 y8 n8 p8 hbx z8
      go_wp2_with fail
      go_region_held3 (fun w' => w'.cell? ⟨o', 0, none⟩ = some (.slice A5 us.length q5) ∧ w'.cell? ⟨o, 0, none⟩ = some (.slice A us.length c) ∧ Below wx.heap.size wx w')
        (first | exact ⟨xx, cx, (Below.refl _ _).drew⟩ | exact held_on xx cx hb9 (Below.refl _ _).drew | exact held_on xx cx hb10 k9)
        (first | (go_at_call 23; refine (toOrder_any o _ us hl wx.drew (Lx.st.see.keep fun _ _ => rfl) Lx.st.le).mono ?_; rintro e w9 ⟨v9, rfl, o9, hb9⟩) | (go_at_call 25; have k9 := below_then (Below.refl wx.heap.size wx).drew hb9 (Nat.le_refl _); refine (eq_copy _ _ _ us _ (Nat.le_refl _) (Lx.see.next k9) o9.see).mono ?_; rintro e w10 ⟨rfl, hb10⟩))
      have bb := below_then (below_then (Below.refl wx.heap.size wx).drew hb9 (Nat.le_refl _)) hb10 (Nat.le_refl _)
      have L10 := Lx.next bb
      have r10 := rx.below (bb.mono (by omega))
      have y10 := own_later yx bb
      have n10 := own_later nx bb
      have p10 := own_later px bb
      have z10 : m7 ≤ w10.heap.size := by have := bb.size; omega
      clear Lx rx yx nx px xx cx hb9 hb10 bb zx
      go_wp2_with fail
      refine (toInts_any o _ gs hg _ L10.st.gat L10.st.le).mono ?_
      rintro e w11 ⟨v11, rfl, o11, bb⟩
      have L11 := L10.next bb
      have r11 := r10.below (bb.mono (by omega))
      have y11 := own_later y10 bb
      have n11 := own_later n10 bb
      have p11 := own_later p10 bb
      have z11 : m7 ≤ w11.heap.size := by have := bb.size; omega
      clear L10 r10 y10 n10 p10 bb z10
      go_wp2_with fail
      refine (eq_ints w11.heap.size _ _ gs _ L11.gat o11.see).mono ?_
      rintro e w12 ⟨rfl, bb⟩
      have L12 := L11.next bb
      have r12 := r11.below (bb.mono (by omega))
      have y12 := own_later y11 bb
      have n12 := own_later n11 bb
      have p12 := own_later p11 bb
      have z12 : m7 ≤ w12.heap.size := by have := bb.size; omega
      have x12 := L12.box
      have S12 := L12.st
      clear L11 r11 y11 n11 p11 bb z11 o11 L12
      go_wp2_with fail
      refine (markOrd_any n4 2 _ us 1 _ y12 (by omega)).mono ?_
      rintro e w13 ⟨rfl, -, hg13⟩
      have S13 := S12.grown (Nat.le_of_eq HO.out) hg13 (fun g hg => by have := (HY.out g hg).1; omega)
      have r13 := r12.grown hg13 (by omega) (fun g hg => (HY.out g hg).1)
      have n13 := n12.apart hg13 (fun g hg => by have := (HY.out g hg).2; omega)
      have p13 := p12.apart hg13 (fun g hg => by have := (HY.out g hg).2; omega)
      have z13 : m7 ≤ w13.heap.size := by have := hg13.size; omega
      clear S12 r12 y12 n12 p12 z12 x12 hg13
      go_wp2_with fail
      refine (markInts_any n6 2 _ gs (1 + us.length) _ n13 (by omega)).mono ?_
      rintro e w14 ⟨rfl, -, hg14⟩
      have S14 := S13.grown (Nat.le_of_eq HO.out) hg14 (fun g hg => by have := (HN.out g hg).1; omega)
      have r14 := r13.grown hg14 (by omega) (fun g hg => by have := (HN.out g hg).1; omega)
      have p14 := p13.apart hg14 (fun g hg => by have := (HN.out g hg).2; omega)
      have z14 : m7 ≤ w14.heap.size := by have := hg14.size; omega
      clear S13 r13 n13 p13 z13 hg14
      obtain ⟨kz, HK⟩ : ∃ z : Int, Hid (((1 + us.length + gs.length : Nat) : Int) = z) := ⟨_, Lib.hid rfl⟩
      have hkz : ¬ kz < 0 := by have := HK.out; omega
      rw [HK.out]
      go_wp2_with fail
      refine (eq_ints w14.heap.size _ _ _ _ p14.see (r14.more (by omega))).mono ?_
      rintro e w15 ⟨rfl, bb⟩
      have S15 := S14.next bb
      have r15 := r14.below (bb.mono (by omega))
      have p15 := own_later p14 bb
      have z15 : m7 ≤ w15.heap.size := by have := bb.size; omega
      clear S14 r14 p14 z14 bb
      go_wp2_with fail
      refine (markInts_any m7 2 _ zs 1 _ p15 (by omega)).mono ?_
      rintro e w16 ⟨rfl, p16, hg16⟩
      have S16 := S15.grown (Nat.le_of_eq HO.out) hg16 (fun g hg => by have := (p15.lt g hg).1; omega)
      have r16 := r15.grown hg16 (by omega) (fun g hg => by have := (p15.lt g hg).1; omega)
      have s16 := p16.see
      have z16 : m7 ≤ w16.heap.size := by have := hg16.size; omega
      clear S15 r15 p15 p16 z15 hg16
      have HH := Lib.hid (fun (W : World) B h => heldInts_any B (.slice A8 zs.length q8) 1 zs.length W h (by omega))
      obtain ⟨mz, HM⟩ : ∃ z : Int, Hid (((1 + zs.length : Nat) : Int) = z) := ⟨_, Lib.hid rfl⟩
      have hmz : ¬ mz < 0 := by have := HM.out; omega
      have hmm : (mz != mz) = false := by simp
      rw [HM.out] at HH ⊢
      go_wp2_with fail
      refine (HH.out _ _ s16).mono ?_
      rintro e w' ⟨rfl, rfl⟩
      have c16 := S16.cell
      go_wp2_with fail
      refine (toOrder_any o _ us hl _ S16.see S16.le).mono ?_
      rintro e w17 ⟨v17, rfl, o17, bb⟩
      have S17 := S16.next bb
      have r17 := r16.below (bb.mono (by omega))
      have s17 := s16.next bb
      have t17 := o17.see
      have z17 : m7 ≤ w17.heap.size := by have := bb.size; omega
      clear S16 r16 s16 o17 c16 z16 bb
      go_wp2_with fail
      refine (toInts_any o _ gs hg _ S17.gat S17.le).mono ?_
      rintro e w18 ⟨v18, rfl, o18, bb⟩
      have S18 := S17.next bb
      have r18 := r17.below (bb.mono (by omega))
      have s18 := s17.next bb
      have t18 := t17.next bb
      have z18 : m7 ≤ w18.heap.size := by have := bb.size; omega
      clear S17 r17 s17 t17 z17 bb
      go_wp2_with fail
      refine (iSeenBy_any w18.heap.size _ _ us gs r _ t18 o18.see (Nat.le_refl _)).mono ?_
      rintro e w19 ⟨v19, rfl, o19, bb⟩
      rw [HS.out] at o19
      have S19 := S18.next bb
      have r19 := r18.below (bb.mono (by omega))
      have s19 := s18.next bb
      have t19 := o19.see
      obtain ⟨A19, q19, rfl⟩ := t19.shape
      have z19 : m7 ≤ w19.heap.size := by have := bb.size; omega
      clear S18 r18 s18 t18 o18 o19 z18 bb
      go_wp2_with fail
      refine (eq_ints w19.heap.size _ _ _ _ t19 (r19.more (by omega))).mono ?_
      rintro e w20 ⟨rfl, bb⟩
      have S20 := S19.next bb
      have s20 := s19.next bb
      clear S19 r19 s19 t19 z19 bb
      go_wp2_with fail
      refine (HH.out _ _ s20).mono ?_
      rintro e w' ⟨rfl, rfl⟩
      go_wp2_with fail
      go_ret
      exact ⟨rfl, S20.old⟩
    · have HZ : Hid (szB 1048576 us.length = -1) := Lib.hid (by simp [szB]; omega)
      go_enter Try.func6, Try.ntmps6
      go_wp2_with fail
      refine (szOrder_any _ _ _ _ hm (by decide) (by decide) _).mono ?_
      rintro e w1 ⟨rfl, hb1⟩
      rw [HZ.out]
      go_wp2_with fail
      go_ret
      exact ⟨rfl, (S0.next hb1).old⟩
  · have hg' : (1048576 : Int) < gs.length := by omega
    go_enter Try.func6, Try.ntmps6
    go_wp2_with fail
    go_ret
    exact ⟨rfl, S0.old⟩

set_option maxHeartbeats 8000000 in
set_option maxRecDepth 100000 in
theorem ownOf_law (v u : Value) (us gs : List Int) (r : Int) (w : World) (hs : SeeI w w.heap.size v us) (ht : SeeI w w.heap.size u gs) : Calls Try.prog 7 #[.agg #[v], u, .int .i64 r] w (BoolOf w true) := by
  have S0 := Sg.box hs ht (Nat.le_refl _) 36
  obtain ⟨A, c, rfl⟩ := hs.shape
  obtain ⟨A', c', rfl⟩ := ht.shape
  have hm := hs.1
  have hm' := ht.1
  unfold maxLen at hm'
  have c0 := S0.cell
  by_cases hg : gs.length ≤ 1048576
  · have hg' : ¬ (1048576 : Int) < gs.length := by omega
    by_cases hl : us.length ≤ 1048576
    · have HZ : Hid (szB 1048576 us.length = 1048576 - us.length) := Lib.hid (by simp [szB]; omega)
      have h9 : ¬ (1048576 : Int) - us.length < 0 := by omega
      clear hs ht
      go_enter Try.func7, Try.ntmps7
      go_wp2_with fail
      generalize w.alloc _ = W at S0 c0 ⊢
      generalize hoo : w.heap.size = o at S0 c0 ⊢
      have HO := Lib.hid hoo
      clear hoo
      refine (szOrder_any _ _ _ _ hm (by decide) (by decide) _).mono ?_
      rintro e w1 ⟨rfl, hb1⟩
      rw [HZ.out]
      have S1 := S0.next hb1
      have c1 := S1.cell
      clear S0 c0 hb1
      go_wp2_with fail
      refine (toOrder_any o _ us hl _ S1.see S1.le).mono ?_
      rintro e w2 ⟨v2, rfl, o2, hb2⟩
      have S2 := S1.next hb2
      have c2 := S2.cell
      have t2 := o2.see
      clear S1 c1 hb2 o2
      go_wp2_with fail
      refine (toInts_any o _ gs hg _ S2.gat S2.le).mono ?_
      rintro e w3 ⟨v3, rfl, o3, hb3⟩
      have S3 := S2.next hb3
      have c3 := S3.cell
      have t3 := t2.next hb3
      clear S2 c2 t2 hb3
      go_wp2_with fail
      have hzl := own_le us gs r
      generalize hzs : ownS us gs r = zs at hzl
      have HS := Lib.hid hzs
      clear hzs
      refine (sOwnOf_any w3.heap.size _ _ us gs r _ t3 o3.see (Nat.le_refl _)).mono ?_
      rintro e w4 ⟨v4, rfl, o4, hb4⟩
      rw [HS.out] at o4
      have S4 := S3.next hb4
      have c4 := S4.cell
      have r4 := o4.see
      clear S3 c3 t3 o3 o4 hb4
      obtain ⟨A4, q4, rfl⟩ := r4.shape
      have z4 : o < w4.heap.size := S4.lt
      generalize hn4 : w4.heap.size = n4 at r4 z4
      go_wp2_with fail
      refine (toOrder_any o _ us hl _ S4.see S4.le).mono ?_
      rintro e w5 ⟨v5, rfl, y5, hb5⟩
      have S5 := S4.next hb5
      have c5 := S5.cell
      have t5 := y5.see
      have r5 := r4.below (hb5.mono (Nat.le_of_eq hn4.symm))
      rw [hn4] at y5
      have z5 : n4 ≤ w5.heap.size := by have := hb5.size; omega
      have HY := Lib.hid y5.lt
      obtain ⟨A5, q5, rfl⟩ := t5.shape
      clear S4 c4 hb5 hn4 r4
      have bb : Below w5.heap.size w5 (w5.alloc (.cells #[.slice A5 us.length q5] 26)) := (Below.refl _ _).alloc (Nat.le_refl _) _
      have S6 := S5.next bb
      have c6 := S6.cell
      have t6 := t5.next bb
      have r6 := r5.below (bb.mono z5)
      have y6 := own_later y5 bb
      have x6 : (w5.alloc (.cells #[.slice A5 us.length q5] 26)).cell? ⟨w5.heap.size, 0, none⟩ = some (.slice A5 us.length q5) := cell_of_row _ _ 0 _ _ (0, 0) (heap_alloc_new _ _)
      have g6 : w5.heap.size < (w5.alloc (.cells #[.slice A5 us.length q5] 26)).heap.size := by simp
      clear S5 c5 t5 bb r5 y5
      go_wp2_with fail
      generalize w5.alloc _ = W6 at S6 c6 t6 x6 g6 r6 y6 ⊢
      generalize w5.heap.size = o' at x6 g6 z5 HY ⊢
      generalize hn6 : W6.heap.size = n6 at g6
      refine (toInts_any o _ gs hg _ S6.gat S6.le).mono ?_
      rintro e w7 ⟨v7, rfl, n7, hb7⟩
      have L7 : Lw w o (.slice A us.length c) (.slice A' gs.length c') us gs o' (.slice A5 us.length q5) v7 w7 := ⟨S6.next hb7, (hb7.cell (p := ⟨o', 0, none⟩) (by simp; omega)).trans x6, by have := hb7.size; omega, t6.next hb7, n7.see⟩
      have x7 := L7.box
      have r7 := r6.below (hb7.mono (by omega))
      have y7 := own_later y6 hb7
      have z7 : n6 ≤ w7.heap.size := by have := hb7.size; omega
      rw [hn6] at n7
      have HN := Lib.hid n7.lt
      obtain ⟨A7, q7, rfl⟩ := L7.gat.shape
      clear S6 c6 t6 x6 r6 y6 hb7 hn6
      generalize hn7 : w7.heap.size = m7 at z7 HN
      go_wp2_with fail
      refine (iOwnOf_any w7.heap.size _ _ us gs r _ L7.see L7.gat (Nat.le_refl _)).mono ?_
      rintro e w8 ⟨v8, rfl, p8, hb8⟩
      rw [HS.out, hn7] at p8
      have L8 := L7.next hb8
      have r8 := r7.below (hb8.mono (by omega))
      have y8 := own_later y7 hb8
      have n8 := own_later n7 hb8
      have z8 : m7 ≤ w8.heap.size := by have := hb8.size; omega
      obtain ⟨A8, q8, rfl⟩ := p8.see.shape
      clear L7 x7 r7 y7 n7 hb8 hn7
      go_wp2_with fail
      refine (eq_ints w8.heap.size _ _ _ _ p8.see (r8.more (by omega))).mono ?_
      rintro e wx ⟨rfl, hbx⟩
      have Lx := L8.next hbx
      have rx := r8.below (hbx.mono (by omega))
      have yx := own_later y8 hbx
      have nx := own_later n8 hbx
      have px := own_later p8 hbx
      have zx : m7 ≤ wx.heap.size := by have := hbx.size; omega
      have xx := Lx.box
      have cx := Lx.st.cell
      clear L8 r8 y8 n8 p8 hbx z8
      go_wp2_with fail
      go_region_held3 (fun w' => w'.cell? ⟨o', 0, none⟩ = some (.slice A5 us.length q5) ∧ w'.cell? ⟨o, 0, none⟩ = some (.slice A us.length c) ∧ Below wx.heap.size wx w')
        (first | exact ⟨xx, cx, (Below.refl _ _).drew⟩ | exact held_on xx cx hb9 (Below.refl _ _).drew | exact held_on xx cx hb10 k9)
        (first | (go_at_call 23; refine (toOrder_any o _ us hl wx.drew (Lx.st.see.keep fun _ _ => rfl) Lx.st.le).mono ?_; rintro e w9 ⟨v9, rfl, o9, hb9⟩) | (go_at_call 25; have k9 := below_then (Below.refl wx.heap.size wx).drew hb9 (Nat.le_refl _); refine (eq_copy _ _ _ us _ (Nat.le_refl _) (Lx.see.next k9) o9.see).mono ?_; rintro e w10 ⟨rfl, hb10⟩))
      have bb := below_then (below_then (Below.refl wx.heap.size wx).drew hb9 (Nat.le_refl _)) hb10 (Nat.le_refl _)
      have L10 := Lx.next bb
      have r10 := rx.below (bb.mono (by omega))
      have y10 := own_later yx bb
      have n10 := own_later nx bb
      have p10 := own_later px bb
      have z10 : m7 ≤ w10.heap.size := by have := bb.size; omega
      clear Lx rx yx nx px xx cx hb9 hb10 bb zx
      go_wp2_with fail
      refine (toInts_any o _ gs hg _ L10.st.gat L10.st.le).mono ?_
      rintro e w11 ⟨v11, rfl, o11, bb⟩
      have L11 := L10.next bb
      have r11 := r10.below (bb.mono (by omega))
      have y11 := own_later y10 bb
      have n11 := own_later n10 bb
      have p11 := own_later p10 bb
      have z11 : m7 ≤ w11.heap.size := by have := bb.size; omega
      clear L10 r10 y10 n10 p10 bb z10
      go_wp2_with fail
      refine (eq_ints w11.heap.size _ _ gs _ L11.gat o11.see).mono ?_
      rintro e w12 ⟨rfl, bb⟩
      have L12 := L11.next bb
      have r12 := r11.below (bb.mono (by omega))
      have y12 := own_later y11 bb
      have n12 := own_later n11 bb
      have p12 := own_later p11 bb
      have z12 : m7 ≤ w12.heap.size := by have := bb.size; omega
      have x12 := L12.box
      have S12 := L12.st
      clear L11 r11 y11 n11 p11 bb z11 o11 L12
      go_wp2_with fail
      refine (markOrd_any n4 2 _ us 1 _ y12 (by omega)).mono ?_
      rintro e w13 ⟨rfl, -, hg13⟩
      have S13 := S12.grown (Nat.le_of_eq HO.out) hg13 (fun g hg => by have := (HY.out g hg).1; omega)
      have r13 := r12.grown hg13 (by omega) (fun g hg => (HY.out g hg).1)
      have n13 := n12.apart hg13 (fun g hg => by have := (HY.out g hg).2; omega)
      have p13 := p12.apart hg13 (fun g hg => by have := (HY.out g hg).2; omega)
      have z13 : m7 ≤ w13.heap.size := by have := hg13.size; omega
      clear S12 r12 y12 n12 p12 z12 x12 hg13
      go_wp2_with fail
      refine (markInts_any n6 2 _ gs (1 + us.length) _ n13 (by omega)).mono ?_
      rintro e w14 ⟨rfl, -, hg14⟩
      have S14 := S13.grown (Nat.le_of_eq HO.out) hg14 (fun g hg => by have := (HN.out g hg).1; omega)
      have r14 := r13.grown hg14 (by omega) (fun g hg => by have := (HN.out g hg).1; omega)
      have p14 := p13.apart hg14 (fun g hg => by have := (HN.out g hg).2; omega)
      have z14 : m7 ≤ w14.heap.size := by have := hg14.size; omega
      clear S13 r13 n13 p13 z13 hg14
      obtain ⟨kz, HK⟩ : ∃ z : Int, Hid (((1 + us.length + gs.length : Nat) : Int) = z) := ⟨_, Lib.hid rfl⟩
      have hkz : ¬ kz < 0 := by have := HK.out; omega
      rw [HK.out]
      go_wp2_with fail
      refine (eq_ints w14.heap.size _ _ _ _ p14.see (r14.more (by omega))).mono ?_
      rintro e w15 ⟨rfl, bb⟩
      have S15 := S14.next bb
      have r15 := r14.below (bb.mono (by omega))
      have p15 := own_later p14 bb
      have z15 : m7 ≤ w15.heap.size := by have := bb.size; omega
      clear S14 r14 p14 z14 bb
      go_wp2_with fail
      refine (markInts_any m7 2 _ zs 1 _ p15 (by omega)).mono ?_
      rintro e w16 ⟨rfl, p16, hg16⟩
      have S16 := S15.grown (Nat.le_of_eq HO.out) hg16 (fun g hg => by have := (p15.lt g hg).1; omega)
      have r16 := r15.grown hg16 (by omega) (fun g hg => by have := (p15.lt g hg).1; omega)
      have s16 := p16.see
      have z16 : m7 ≤ w16.heap.size := by have := hg16.size; omega
      clear S15 r15 p15 p16 z15 hg16
      have HH := Lib.hid (fun (W : World) B h => heldInts_any B (.slice A8 zs.length q8) 1 zs.length W h (by omega))
      obtain ⟨mz, HM⟩ : ∃ z : Int, Hid (((1 + zs.length : Nat) : Int) = z) := ⟨_, Lib.hid rfl⟩
      have hmz : ¬ mz < 0 := by have := HM.out; omega
      have hmm : (mz != mz) = false := by simp
      rw [HM.out] at HH ⊢
      go_wp2_with fail
      refine (HH.out _ _ s16).mono ?_
      rintro e w' ⟨rfl, rfl⟩
      have c16 := S16.cell
      go_wp2_with fail
      refine (toOrder_any o _ us hl _ S16.see S16.le).mono ?_
      rintro e w17 ⟨v17, rfl, o17, bb⟩
      have S17 := S16.next bb
      have r17 := r16.below (bb.mono (by omega))
      have s17 := s16.next bb
      have t17 := o17.see
      have z17 : m7 ≤ w17.heap.size := by have := bb.size; omega
      clear S16 r16 s16 o17 c16 z16 bb
      go_wp2_with fail
      refine (toInts_any o _ gs hg _ S17.gat S17.le).mono ?_
      rintro e w18 ⟨v18, rfl, o18, bb⟩
      have S18 := S17.next bb
      have r18 := r17.below (bb.mono (by omega))
      have s18 := s17.next bb
      have t18 := t17.next bb
      have z18 : m7 ≤ w18.heap.size := by have := bb.size; omega
      clear S17 r17 s17 t17 z17 bb
      go_wp2_with fail
      refine (iOwnOf_any w18.heap.size _ _ us gs r _ t18 o18.see (Nat.le_refl _)).mono ?_
      rintro e w19 ⟨v19, rfl, o19, bb⟩
      rw [HS.out] at o19
      have S19 := S18.next bb
      have r19 := r18.below (bb.mono (by omega))
      have s19 := s18.next bb
      have t19 := o19.see
      obtain ⟨A19, q19, rfl⟩ := t19.shape
      have z19 : m7 ≤ w19.heap.size := by have := bb.size; omega
      clear S18 r18 s18 t18 o18 o19 z18 bb
      go_wp2_with fail
      refine (eq_ints w19.heap.size _ _ _ _ t19 (r19.more (by omega))).mono ?_
      rintro e w20 ⟨rfl, bb⟩
      have S20 := S19.next bb
      have s20 := s19.next bb
      clear S19 r19 s19 t19 z19 bb
      go_wp2_with fail
      refine (HH.out _ _ s20).mono ?_
      rintro e w' ⟨rfl, rfl⟩
      go_wp2_with fail
      go_ret
      exact ⟨rfl, S20.old⟩
    · have HZ : Hid (szB 1048576 us.length = -1) := Lib.hid (by simp [szB]; omega)
      go_enter Try.func7, Try.ntmps7
      go_wp2_with fail
      refine (szOrder_any _ _ _ _ hm (by decide) (by decide) _).mono ?_
      rintro e w1 ⟨rfl, hb1⟩
      rw [HZ.out]
      go_wp2_with fail
      go_ret
      exact ⟨rfl, (S0.next hb1).old⟩
  · have hg' : (1048576 : Int) < gs.length := by omega
    go_enter Try.func7, Try.ntmps7
    go_wp2_with fail
    go_ret
    exact ⟨rfl, S0.old⟩

end Go.Proofs.Ytkobngclcnfojaa
