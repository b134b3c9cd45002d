/- The draws of orders that may be bent: what is drawn is some list of at most six that can be read. -/
import Derived.Test.YtkobngclcnfojaaDrawB
namespace Go.Proofs.Ytkobngclcnfojaa
open Go.RowKit
set_option linter.unusedVariables false

/-- The row of v, if it has one, lies at B or later. -/
def From (B : Nat) (v : Value) : Prop := ∀ p n c, v = .slice (some p) n c → B ≤ p.block
theorem OwnI.from_ {w : World} {B : Nat} {e : TypeId} {v : Value} {zs : List Int} (h : OwnI w B e v zs) : From B v := by
  rintro p n c rfl
  obtain ⟨hl, h⟩ := h
  rcases h with ⟨h, hn⟩ | ⟨g, cap, cur, h, hb, -⟩
  · cases h
  · injection h with h; injection h with h; subst h; exact hb
theorem SeeI.past {w w' : World} {B g : Nat} {v : Value} {zs : List Int} (h : SeeI w w.heap.size v zs) (hf : From B v) (hB : g < B) (hg : w.grownBy w' (some g)) : SeeI w' w'.heap.size v zs := by
  obtain ⟨h0, A, c, rfl, h1⟩ := h
  refine ⟨h0, A, c, rfl, fun k hk' => ?_⟩
  obtain ⟨q, o, rfl, hq, hc⟩ := h1 k hk'
  have := hf _ _ _ rfl
  have hs := hg.size
  exact ⟨q, o, rfl, by omega, (World.cell?_of_block (hg.block q hq (fun e => by injection e; subst_vars; simp at this; omega))).trans hc⟩
theorem SeeI.set {w : World} {B q o n c : Nat} {us : List Int} (h : SeeI w B (.slice (some ⟨q, o, none⟩) n c) us) {k : Nat} (hk : k < us.length) (x : Int) : SeeI (w.setCell ⟨q, o + k, none⟩ (.int .i64 x)) B (.slice (some ⟨q, o, none⟩) n c) (us.set k x) := by
  obtain ⟨h0, A, c', he, h1⟩ := h
  injection he with hA hn hc
  subst hA hn hc
  refine ⟨by simpa using h0, _, _, by rw [List.length_set], fun j hj => ?_⟩
  rw [List.length_set] at hj
  obtain ⟨q', o', e, hq, hcl⟩ := h1 j hj
  injection e with e; injection e with e1 e2; subst e1 e2
  refine ⟨_, _, rfl, hq, ?_⟩
  by_cases e : j = k
  · subst e
    rw [World.cell?_setCell_same w _ _ (by rw [hcl])]
    simp [hj]
  · rw [World.cell?_setCell_other w _ _ _ (fun h => by injection h; omega), hcl]
    simp [List.getD, show ¬ k = j from fun h => e h.symm]
theorem OwnI.row {w : World} {B : Nat} {e : TypeId} {v : Value} {us : List Int} (h : OwnI w B e v us) (hn : 0 < us.length) : ∃ q c, v = .slice (some ⟨q, 0, none⟩) us.length c ∧ us.length ≤ c ∧ B ≤ q ∧ q < w.heap.size ∧ ∀ k, w.frozen? ⟨q, k, none⟩ = false := by
  obtain ⟨hl, h⟩ := h
  rcases h with ⟨h, hn'⟩ | ⟨g, cap, cur, h, hb, hg, hnc, -⟩
  · omega
  · exact ⟨g, cap, h, hnc, hb, (Array.getElem?_eq_some_iff.1 hg).1, fun k => frozen_row hg⟩
theorem SeeI.tail {w : World} {B q n c : Nat} {us : List Int} (h : SeeI w B (.slice (some ⟨q, 0, none⟩) n c) us) (hn : 0 < us.length) : SeeI w B (.slice (some ⟨q, 1, none⟩) (n - 1) (c - 1)) (us.drop 1) := by
  obtain ⟨h0, A, c', he, h1⟩ := h
  injection he with hA hn hc
  subst hA hn hc
  refine ⟨by simp; omega, _, _, by rw [List.length_drop], fun j hj => ?_⟩
  simp at hj
  obtain ⟨q', o', e, hq, hcl⟩ := h1 (j + 1) (by omega)
  injection e with e; injection e with e1 e2; subst e1 e2
  refine ⟨_, _, rfl, hq, ?_⟩
  rw [show 1 + j = 0 + (j + 1) from by omega, hcl]
  simp [List.getD]

def DrawnO (w : World) (g : Nat) (e : Ending) (w' : World) : Prop :=
  ∃ v us, e = .returned (.agg #[v]) ∧ us.length ≤ 6 ∧ SeeI w' w'.heap.size v us ∧ From w.heap.size v ∧ Cur w' g ∧ w.grownBy w' (some g)

theorem SeeI.away {w : World} {B q o n c : Nat} {us : List Int} (h : SeeI w B (.slice (some ⟨q, o, none⟩) n c) us) {p : Addr} (hp : p.block ≠ q) (u : Value) : SeeI (w.setCell p u) B (.slice (some ⟨q, o, none⟩) n c) us := by
  obtain ⟨h0, A, c', he, h1⟩ := h
  injection he with hA hn hc
  subst hA hn hc
  refine ⟨h0, _, _, rfl, fun j hj => ?_⟩
  obtain ⟨q', o', e, hq, hcl⟩ := h1 j hj
  injection e with e; injection e with e1 e2; subst e1 e2
  exact ⟨_, _, rfl, hq, (World.cell?_setCell_other w _ _ _ (fun h => hp (by rw [h]))).trans hcl⟩
theorem drawn_end {w W' : World} {g B : Nat} {v u : Value} {us : List Int} (hlt : g < w.heap.size) (hB : w.heap.size < B) (hf : From B v) (hs : SeeI W' W'.heap.size v us) (hl : us.length ≤ 6) (k : Cur W' g) (q : w.grownBy W' (some g)) :
    DrawnO w g (.returned (.agg #[v])) (W'.setCell ⟨w.heap.size, 0, none⟩ u) := by
  refine ⟨v, us, rfl, hl, ?_, fun p n c h => by have := hf p n c h; omega, k.far (p := ⟨w.heap.size, 0, none⟩) hlt u, ⟨q.os, q.tape, q.output, by simpa using q.size, fun i hi hne => (Below.heap_setCell W' _ _ i (by simp; omega)).trans (q.block i hi hne)⟩⟩
  obtain ⟨h0, A, c, rfl, h1⟩ := hs
  refine ⟨h0, A, c, rfl, fun k hk' => ?_⟩
  obtain ⟨b, o, rfl, hq, hc⟩ := h1 k hk'
  have := hf _ _ _ rfl
  exact ⟨b, o, rfl, by simpa using hq, (World.cell?_setCell_other W' _ _ _ (fun e => by injection e; simp at this; omega)).trans hc⟩

theorem DrawnO.alloc {w w' : World} {g : Nat} {e : Ending} (h : DrawnO w g e w') (o : Obj) : DrawnO w g e (w'.alloc o) := by
  obtain ⟨v, us, he, hl, hs, hf, hk, hq⟩ := h
  exact ⟨v, us, he, hl, (hs.alloc (Nat.le_refl _) o).more (by simp), hf, hk.alloc o, grown_trans hq (grown_of_below ((Below.refl _ _).alloc (Nat.le_refl _) _) _)⟩
theorem far_cell {W w' : World} {g : Nat} (q : W.grownBy w' (some g)) {b o : Nat} (h1 : b < W.heap.size) (h2 : g < b) : w'.cell? ⟨b, o, none⟩ = W.cell? ⟨b, o, none⟩ := World.cell?_of_block (q.block b h1 (fun e => by injection e; omega))
theorem far_frozen {W w' : World} {g : Nat} (q : W.grownBy w' (some g)) {b o : Nat} (h1 : b < W.heap.size) (h2 : g < b) : w'.frozen? ⟨b, o, none⟩ = W.frozen? ⟨b, o, none⟩ := World.frozen?_of_block (q.block b h1 (fun e => by injection e; omega))

set_option maxHeartbeats 4000000 in
theorem l2DrawAny_any (g : Nat) (w : World) (hc : Cur w g) : Calls Try.prog 47 #[.pointer (some ⟨g, 0, none⟩)] w (DrawnO w g) := by
  have hlt := hc.lt
  have r0 : (w.alloc (.cells #[.slice none 0 0] 26)).cell? ⟨w.heap.size, 0, none⟩ = some (.slice none 0 0) := cell_of_row _ _ 0 _ _ (0, 0) (heap_alloc_new _ _)
  have z0 : (w.alloc (.cells #[.slice none 0 0] 26)).frozen? ⟨w.heap.size, 0, none⟩ = false := frozen_row (heap_alloc_new _ _)
  have g0 : w.heap.size < (w.alloc (.cells #[.slice none 0 0] 26)).heap.size := by simp
  have k0 := hc.alloc (.cells #[.slice none 0 0] 26)
  have q0 : w.grownBy (w.alloc (.cells #[.slice none 0 0] 26)) (some g) := grown_of_below ((Below.refl _ _).alloc (Nat.le_refl _) _) _
  go_enter Try.func47, Try.ntmps47
  go_wp2_with fail
  generalize w.alloc _ = W at r0 z0 g0 k0 q0 ⊢
  refine (l2Draw_any g _ k0).mono ?_
  rintro e w1 ⟨v, us, rfl, hus, ho, k1, q1⟩
  obtain ⟨A, c, rfl⟩ := ho.see.shape
  have r1 := (World.cell?_of_block (a := ⟨w.heap.size, 0, none⟩) (q1.block w.heap.size g0 (fun e => by injection e; omega))).trans r0
  have z1 : w1.frozen? ⟨w.heap.size, 0, none⟩ = false := (World.frozen?_of_block (q1.block w.heap.size g0 (fun e => by injection e; omega))).trans z0
  have q1' := grown_trans q0 q1
  have s1 := q1.size
  have g1 : w.heap.size < w1.heap.size := by omega
  have e1 : ¬ w1.heap.size = w.heap.size := by omega
  have e1' : ¬ w.heap.size = w1.heap.size := by omega
  clear q1 r0 z0 k0 q0
  have hf := ho.from_
  have R := ho.row
  have hs1 := ho.see
  clear ho
  have r2 := (World.cell?_alloc_lt w1 (.cells #[.slice A us.length c] 26) ⟨w.heap.size, 0, none⟩ (by simp; omega)).trans r1
  have z2 : (w1.alloc (.cells #[.slice A us.length c] 26)).frozen? ⟨w.heap.size, 0, none⟩ = false := (World.frozen?_of_block (Below.heap_alloc w1 _ w.heap.size (by omega))).trans z1
  have o2 : (w1.alloc (.cells #[.slice A us.length c] 26)).cell? ⟨w1.heap.size, 0, none⟩ = some (.slice A us.length c) := cell_of_row _ _ 0 _ _ (0, 0) (heap_alloc_new _ _)
  have f2 : (w1.alloc (.cells #[.slice A us.length c] 26)).frozen? ⟨w1.heap.size, 0, none⟩ = false := frozen_row (heap_alloc_new _ _)
  have k2 := k1.alloc (.cells #[.slice A us.length c] 26)
  have q2 := grown_trans q1' (grown_of_below ((Below.refl w1.heap.size w1).alloc (Nat.le_refl _) (.cells #[.slice A us.length c] 26)) (some g))
  have s2 := (hs1.alloc (Nat.le_refl _) (.cells #[.slice A us.length c] 26)).more (show w1.heap.size ≤ (w1.alloc (.cells #[.slice A us.length c] 26)).heap.size by simp)
  have g2 : w1.heap.size < (w1.alloc (.cells #[.slice A us.length c] 26)).heap.size := by simp
  have y2 : ∀ q k, q < w1.heap.size → (w1.alloc (.cells #[.slice A us.length c] 26)).frozen? ⟨q, k, none⟩ = w1.frozen? ⟨q, k, none⟩ := fun q k h => World.frozen?_of_block (Below.heap_alloc w1 _ q h)
  rcases Nat.eq_zero_or_pos us.length with hn | hn
  · obtain rfl : us = [] := List.eq_nil_of_length_eq_zero hn
    go_wp2_with fail
    exact bodyPost_ret (v := .agg #[.slice A 0 c]) (by simp [results, Try.results47, go_sem, r1, g1]) rfl ((drawn_end hlt g0 hf hs1 hus k1 q1').alloc _)
  · obtain ⟨q, c', he, hcc, hq, hqs, hfz⟩ := R hn
    injection he with he _ hec
    subst he hec
    go_wp2_with fail
    generalize w1.alloc _ = W2 at r2 z2 o2 f2 k2 q2 s2 g2 y2 ⊢
    have y2' : ∀ k, W2.frozen? ⟨q, k, none⟩ = false := fun k => (y2 q k hqs).trans (hfz k)
    clear y2 hfz r1 z1 k1 q1' R hs1
    refine (l1Once_any g _ (by decide) (by decide) _ k2).mono ?_
    rintro e w3 ⟨b, rfl, k3, q3⟩
    have r3 := (far_cell q3 (b := w.heap.size) (o := 0) (by omega) (by omega)).trans r2
    have z3 := (far_frozen q3 (b := w.heap.size) (o := 0) (by omega) (by omega)).trans z2
    have o3 := (far_cell q3 (b := w1.heap.size) (o := 0) (by omega) (by omega)).trans o2
    have f3 := (far_frozen q3 (b := w1.heap.size) (o := 0) (by omega) (by omega)).trans f2
    have y3 : ∀ k, w3.frozen? ⟨q, k, none⟩ = false := fun k => (far_frozen q3 (b := q) (o := k) (by omega) (by omega)).trans (y2' k)
    have q3' := grown_trans q2 q3
    have s3 := s2.past hf (by omega) q3
    have g3 : w1.heap.size < w3.heap.size := by have := q3.size; omega
    clear r2 z2 o2 f2 y2' q2 q3 s2 g2 k2
    cases b with
    | false =>
      go_wp2_with fail
      exact bodyPost_ret (v := .agg #[.slice (some ⟨q, 0, none⟩) us.length c]) (by simp [results, Try.results47, go_sem, r3]) rfl (drawn_end hlt g0 hf s3 hus k3 q3')
    | true =>
      go_wp2_with fail
      refine (l1Below_any g _ (by decide) (by decide) _ k3).mono ?_
      rintro e w4 ⟨x, rfl, hx0, hx1, k4, q4⟩
      have r4 := (far_cell q4 (b := w.heap.size) (o := 0) (by omega) (by omega)).trans r3
      have z4 := (far_frozen q4 (b := w.heap.size) (o := 0) (by omega) (by omega)).trans z3
      have o4 := (far_cell q4 (b := w1.heap.size) (o := 0) (by omega) (by omega)).trans o3
      have f4 := (far_frozen q4 (b := w1.heap.size) (o := 0) (by omega) (by omega)).trans f3
      have y4 : ∀ k, w4.frozen? ⟨q, k, none⟩ = false := fun k => (far_frozen q4 (b := q) (o := k) (by omega) (by omega)).trans (y3 k)
      have q4' := grown_trans q3' q4
      have s4 := s3.past hf (by omega) q4
      have g4 : w1.heap.size < w4.heap.size := by have := q4.size; omega
      clear r3 z3 o3 f3 y3 q3' q4 s3 g3 k3
      have h6 : us.length ≤ 6 := hus
      have hx : x = 0 ∨ x = 1 ∨ x = 2 := by omega
      rcases hx with rfl | rfl | rfl
      · go_wp2_with fail
        go_region_held3 (fun w' => w'.cell? ⟨w1.heap.size, 0, none⟩ = some (.slice (some ⟨q, 0, none⟩) us.length c))
          (first | exact o4 | exact o5 | exact o6 | exact (World.cell?_setCell_other _ _ _ _ (fun e => by injection e; omega)).trans o6)
          (first | (go_at_call 50; refine (l1Below_any g _ (by omega) (by omega) _ (show Cur w4.drew g from k4)).mono ?_; rintro e w5 ⟨x, rfl, hx0, hx1, k5, q5⟩; replace q5 := grown_trans (grown_of_below (Below.refl w4.heap.size w4).drew (some g)) q5; obtain ⟨i, rfl⟩ := Int.eq_ofNat_of_zero_le hx0; have hi : i < us.length := (by omega); have hi' : (i : Int) < us.length := (by omega); have o5 := (far_cell q5 (b := w1.heap.size) (o := 0) g4 (by omega)).trans o4) | (go_at_call 60; refine (l1DrawSet_any g _ k5).mono ?_; rintro e w6 ⟨y, rfl, k6, q6⟩; have o6 := (far_cell q6 (b := w1.heap.size) (o := 0) (Nat.lt_of_lt_of_le g4 q5.size) (by omega)).trans o5; have s6 := (s4.past hf (by omega) q5).past hf (by omega) q6; have y6 := (far_frozen q6 (b := q) (o := i) (Nat.lt_of_lt_of_le (Nat.lt_trans hqs g4) q5.size) (by omega)).trans ((far_frozen q5 (b := q) (o := i) (Nat.lt_trans hqs g4) (by omega)).trans (y4 i)); obtain ⟨q', o', u, he', hq', hu, hcu⟩ := s6.at_ hi; injection he' with he'; injection he' with he1 he2; subst he1 he2; rw [Nat.zero_add] at hcu; clear hq'))
        have g6 : w1.heap.size < w6.heap.size := by have := q5.size; have := q6.size; omega
        have r6 := (far_cell q6 (b := w.heap.size) (o := 0) (Nat.lt_trans g1 (Nat.lt_of_lt_of_le g4 q5.size)) (by omega)).trans ((far_cell q5 (b := w.heap.size) (o := 0) (by omega) (by omega)).trans r4)
        have z6 := (far_frozen q6 (b := w.heap.size) (o := 0) (Nat.lt_trans g1 (Nat.lt_of_lt_of_le g4 q5.size)) (by omega)).trans ((far_frozen q5 (b := w.heap.size) (o := 0) (by omega) (by omega)).trans z4)
        have q6' := grown_trans (grown_trans q4' q5) q6
        clear r4 z4 o4 f4 y4 q4' s4 g4 k4 q5 q6 o5 k5
        have r7 : (w6.setCell ⟨q, i, none⟩ (.int .i64 y)).cell? ⟨w.heap.size, 0, none⟩ = _ := (World.cell?_setCell_other w6 _ _ _ (fun e => by injection e; omega)).trans r6
        have o7 : (w6.setCell ⟨q, i, none⟩ (.int .i64 y)).cell? ⟨w1.heap.size, 0, none⟩ = _ := (World.cell?_setCell_other w6 _ _ _ (fun e => by injection e; omega)).trans o6
        have z7 : (w6.setCell ⟨q, i, none⟩ (.int .i64 y)).frozen? ⟨w.heap.size, 0, none⟩ = false := (World.frozen?_of_block (Below.heap_setCell w6 _ _ w.heap.size (by simp; omega))).trans z6
        have k7 := k6.far (p := ⟨q, i, none⟩) (by simp; omega) (.int .i64 y)
        have s7 := s6.set hi y
        rw [Nat.zero_add] at s7
        have q7 : w.grownBy (w6.setCell ⟨q, i, none⟩ (.int .i64 y)) (some g) := ⟨q6'.os, q6'.tape, q6'.output, by simpa using q6'.size, fun j hj hne => (Below.heap_setCell w6 _ _ j (by simp; omega)).trans (q6'.block j hj hne)⟩
        have g7 : (w6.setCell ⟨q, i, none⟩ (.int .i64 y)).heap.size = w6.heap.size := by simp
        rw [← g7] at s7
        have l7 : (us.set i y).length ≤ 6 := by simpa using hus
        generalize w6.setCell _ _ = W7 at r7 o7 z7 k7 s7 q7 g7 ⊢
        clear r6 z6 o6 q6' s6 g6 k6 hcu hu y6
        go_wp2_with fail
        exact bodyPost_ret (v := .agg #[.slice (some ⟨q, 0, none⟩) us.length c]) (by simp [results, Try.results47, go_sem, r7]) rfl (drawn_end hlt g0 hf s7 l7 k7 q7)
      · by_cases hc1 : c = 1
        · subst hc1
          have e0 : us.length = 1 := by omega
          have s5 : SeeI w4 w4.heap.size (.slice (some ⟨q, 0, none⟩) 0 0) [] := ⟨by simp, _, _, rfl, fun k hk => by simp at hk⟩
          have r7 : (w4.setCell ⟨w1.heap.size, 0, none⟩ (.slice (some ⟨q, 0, none⟩) 0 0)).cell? ⟨w.heap.size, 0, none⟩ = _ := (World.cell?_setCell_other w4 _ _ _ (fun e => by injection e; omega)).trans r4
          have k7 := k4.far (p := ⟨w1.heap.size, 0, none⟩) (by simp; omega) (.slice (some ⟨q, 0, none⟩) 0 0)
          have s7 := s5.away (p := ⟨w1.heap.size, 0, none⟩) (by simp; omega) (.slice (some ⟨q, 0, none⟩) 0 0)
          have q7 : w.grownBy (w4.setCell ⟨w1.heap.size, 0, none⟩ (.slice (some ⟨q, 0, none⟩) 0 0)) (some g) := ⟨q4'.os, q4'.tape, q4'.output, by simpa using q4'.size, fun j hj hne => (Below.heap_setCell w4 _ _ j (by simp; omega)).trans (q4'.block j hj hne)⟩
          have g7 : (w4.setCell ⟨w1.heap.size, 0, none⟩ (.slice (some ⟨q, 0, none⟩) 0 0)).heap.size = w4.heap.size := by simp
          rw [← g7] at s7
          clear g7 s5
          go_wp2_with fail
          generalize w4.setCell ⟨w1.heap.size, 0, none⟩ _ = W7 at r7 k7 s7 q7 ⊢
          exact bodyPost_ret (v := .agg #[.slice (some ⟨q, 0, none⟩) 0 0]) (by simp [results, Try.results47, go_sem, r7]) rfl (drawn_end (us := []) hlt g0 (fun p n c h => by injection h with h; injection h with h; subst h; exact hq) s7 (by simp) k7 q7)
        · have hc2 : 1 ≤ c := by omega
          have s5 := s4.tail hn
          have r7 : (w4.setCell ⟨w1.heap.size, 0, none⟩ (.slice (some ⟨q, 1, none⟩) (us.length - 1) (c - 1))).cell? ⟨w.heap.size, 0, none⟩ = _ := (World.cell?_setCell_other w4 _ _ _ (fun e => by injection e; omega)).trans r4
          have k7 := k4.far (p := ⟨w1.heap.size, 0, none⟩) (by simp; omega) (.slice (some ⟨q, 1, none⟩) (us.length - 1) (c - 1))
          have s7 := s5.away (p := ⟨w1.heap.size, 0, none⟩) (by simp; omega) (.slice (some ⟨q, 1, none⟩) (us.length - 1) (c - 1))
          have q7 : w.grownBy (w4.setCell ⟨w1.heap.size, 0, none⟩ (.slice (some ⟨q, 1, none⟩) (us.length - 1) (c - 1))) (some g) := ⟨q4'.os, q4'.tape, q4'.output, by simpa using q4'.size, fun j hj hne => (Below.heap_setCell w4 _ _ j (by simp; omega)).trans (q4'.block j hj hne)⟩
          have g7 : (w4.setCell ⟨w1.heap.size, 0, none⟩ (.slice (some ⟨q, 1, none⟩) (us.length - 1) (c - 1))).heap.size = w4.heap.size := by simp
          rw [← g7] at s7
          clear g7 s5
          go_wp2_with fail
          generalize w4.setCell ⟨w1.heap.size, 0, none⟩ _ = W7 at r7 k7 s7 q7 ⊢
          exact bodyPost_ret (v := .agg #[.slice (some ⟨q, 1, none⟩) (us.length - 1) (c - 1)]) (by simp [results, Try.results47, go_sem, r7]) rfl (drawn_end (us := (us.drop 1)) hlt g0 (fun p n c h => by injection h with h; injection h with h; subst h; exact hq) s7 (by simp; omega) k7 q7)
      · go_wp2_with fail
        refine (l1Below_any g _ (by omega) (by omega) _ k4).mono ?_
        rintro e w5 ⟨x, rfl, hx0, hx1, k5, q5⟩
        obtain ⟨i, rfl⟩ := Int.eq_ofNat_of_zero_le hx0
        have hi : i < us.length := by omega
        have hi' : (i : Int) < us.length := by omega
        have r5 := (far_cell q5 (b := w.heap.size) (o := 0) (by omega) (by omega)).trans r4
        have z5 := (far_frozen q5 (b := w.heap.size) (o := 0) (by omega) (by omega)).trans z4
        have o5 := (far_cell q5 (b := w1.heap.size) (o := 0) (by omega) (by omega)).trans o4
        have y5 : w5.frozen? ⟨q, i, none⟩ = false := (far_frozen q5 (b := q) (o := i) (by omega) (by omega)).trans (y4 i)
        have q5' := grown_trans q4' q5
        have s5 := s4.past hf (by omega) q5
        have g5 : w1.heap.size < w5.heap.size := by have := q5.size; omega
        clear r4 z4 o4 f4 y4 q4' q5 s4 g4 k4
        obtain ⟨q', o', u, he', hq', hu, hcu⟩ := s5.at_ hi
        injection he' with he'
        injection he' with he1 he2
        subst he1 he2
        rw [Nat.zero_add] at hcu
        have hcu5 := hcu
        have hcu5' : w5.drew.cell? ⟨q, i, none⟩ = some (.int .i64 u) := hcu
        clear hcu hq'
        go_wp2_with fail
        have o5' : w5.drew.cell? ⟨w1.heap.size, 0, none⟩ = some (.slice (some ⟨q, 0, none⟩) us.length c) := o5
        go_region_with
          (first | (go_at_call 50; refine (l1Below_any g _ (by omega) (by omega) _ (show Cur w5.drew g from k5)).mono ?_; rintro e w6 ⟨x, rfl, hx2, hx3, k6, q6⟩; replace q6 := grown_trans (grown_of_below (Below.refl w5.heap.size w5).drew (some g)) q6; have o6 := (far_cell q6 (b := w1.heap.size) (o := 0) g5 (by omega)).trans o5; have hcu := (far_cell q6 (b := q) (o := i) (Nat.lt_trans hqs g5) (by omega)).trans hcu5; have y6 := (far_frozen q6 (b := q) (o := i) (Nat.lt_trans hqs g5) (by omega)).trans y5) | (go_at_call 61; refine (l1Bit_any _ hx2 (by omega) _).mono ?_; rintro e _ ⟨rfl, rfl⟩))
        all_goals (
          have g6 : w1.heap.size < w6.heap.size := by have := q6.size; omega
          have r6 := (far_cell q6 (b := w.heap.size) (o := 0) (Nat.lt_trans g1 g5) (by omega)).trans r5
          have z6 := (far_frozen q6 (b := w.heap.size) (o := 0) (Nat.lt_trans g1 g5) (by omega)).trans z5
          have q6' := grown_trans q5' q6
          have s6 := s5.past hf (by omega) q6
          generalize bits _ _ u _ = y
          clear r5 z5 o5 q5' s5 k5 q6
          have r7 : (w6.setCell ⟨q, i, none⟩ (.int .i64 y)).cell? ⟨w.heap.size, 0, none⟩ = _ := (World.cell?_setCell_other w6 _ _ _ (fun e => by injection e; omega)).trans r6
          have o7 : (w6.setCell ⟨q, i, none⟩ (.int .i64 y)).cell? ⟨w1.heap.size, 0, none⟩ = _ := (World.cell?_setCell_other w6 _ _ _ (fun e => by injection e; omega)).trans o6
          have z7 : (w6.setCell ⟨q, i, none⟩ (.int .i64 y)).frozen? ⟨w.heap.size, 0, none⟩ = false := (World.frozen?_of_block (Below.heap_setCell w6 _ _ w.heap.size (by simp; omega))).trans z6
          have k7 := k6.far (p := ⟨q, i, none⟩) (by simp; omega) (.int .i64 y)
          have s7 := s6.set hi y
          rw [Nat.zero_add] at s7
          have q7 : w.grownBy (w6.setCell ⟨q, i, none⟩ (.int .i64 y)) (some g) := ⟨q6'.os, q6'.tape, q6'.output, by simpa using q6'.size, fun j hj hne => (Below.heap_setCell w6 _ _ j (by simp; omega)).trans (q6'.block j hj hne)⟩
          have g7 : (w6.setCell ⟨q, i, none⟩ (.int .i64 y)).heap.size = w6.heap.size := by simp
          rw [← g7] at s7
          have l7 : (us.set i y).length ≤ 6 := by simpa using hus
          generalize w6.setCell _ _ = W7 at r7 o7 z7 k7 s7 q7 g7 ⊢
          clear r6 z6 o6 q6' s6 g6 k6 hcu hu y6
          go_wp2_with fail
          exact bodyPost_ret (v := .agg #[.slice (some ⟨q, 0, none⟩) us.length c]) (by simp [results, Try.results47, go_sem, r7]) rfl (drawn_end hlt g0 hf s7 l7 k7 q7))

end Go.Proofs.Ytkobngclcnfojaa
