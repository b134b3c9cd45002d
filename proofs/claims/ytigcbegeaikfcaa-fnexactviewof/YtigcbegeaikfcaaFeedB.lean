/- Layer 10 (feeds): the laws' own helpers on halls: their size, a copy, whether two are equal; the walk of FnExactHallOk. No conditions but those typed. -/
import Derived.Test.YtigcbegeaikfcaaFeedA
import Derived.Test.YtigcbegeaikfcaaGateL
import Derived.Test.YtigcbegeaikfcaaSltO
import Derived.Deep.RegionHeld3
namespace Go.Proofs.Ytigcbegeaikfcaa
open Go.RowKit
set_option linter.unusedVariables false

/-- What is small enough. -/
structure FitH (us gs : List Int) (ss : List (List Int)) : Prop where
  u : us.length ≤ 1048576
  g : gs.length ≤ 1048576
  s : ss.length ≤ 1048576
  e : ∀ s ∈ ss, s.length ≤ 1048576
def SzH (us gs : List Int) (ss : List (List Int)) (left : Int) (w : World) (e : Ending) (w' : World) : Prop :=
  ∃ z : Int, e = .returned (.int .i64 z) ∧ z ≤ left ∧ (z < 0 ∨ FitH us gs ss) ∧ Below w.heap.size w w'

set_option maxHeartbeats 1000000 in
theorem szHall_any (B : Nat) (v u s : Value) (us gs : List Int) (ss : List (List Int)) (left : Int) (h0 : 0 ≤ left) (h9 : left ≤ 1048576) (w : World) (h1 : SeeI w B v us) (h2 : SeeI w B u gs) (h3 : SeeSS w B s ss) (hB : B ≤ w.heap.size) :
    Calls Try.prog 7 #[.agg #[v, u, s], .int .i64 left] w (SzH us gs ss left w) := by
  have S0 := Hg.box h1 h2 h3 hB 27
  have hm := h1.1
  have hm2 := h2.1
  obtain ⟨A, c, rfl⟩ := h1.shape
  obtain ⟨A', c', rfl⟩ := h2.shape
  obtain ⟨A2, c2, rfl⟩ := h3.shape
  clear h1 h2 h3
  have HZ := Lib.hid (szB_fits (left := left) (n := us.length) h0 (by omega))
  go_enter Try.func7, Try.ntmps7
  have p0 := S0.c0
  have p1 := S0.c1
  have p2 := S0.c2
  go_wp2_with fail
  generalize w.alloc _ = W at S0 p0 p1 p2 ⊢
  generalize w.heap.size = o at S0 p0 p1 p2 ⊢
  refine (szOrder_any _ _ _ _ hm h0 h9 _).mono ?_
  rintro e w1 ⟨rfl, b1⟩
  have S1 := S0.next b1
  clear S0 p0 p1 p2 b1
  have p0 := S1.c0
  have p1 := S1.c1
  have p2 := S1.c2
  generalize szB left us.length = z1 at *
  rcases HZ.out with ⟨rfl, _⟩ | ⟨k1, k2, k3⟩
  · go_wp2_with fail
    go_ret
    exact ⟨-1, rfl, by omega, .inl (by omega), S1.old⟩
  clear HZ
  have HY := Lib.hid (szB_fits (left := z1) (n := gs.length) k1 (by omega))
  have n1 : ¬ z1 < 0 := by omega
  go_wp2_with fail
  refine (szInts_any _ _ _ _ hm2 k1 (by omega) _).mono ?_
  rintro e w2 ⟨rfl, rfl⟩
  generalize szB z1 gs.length = z2 at *
  rcases HY.out with ⟨rfl, _⟩ | ⟨k4, k5, k6⟩
  · go_wp2_with fail
    go_ret
    exact ⟨-1, rfl, by omega, .inl (by omega), S1.old⟩
  clear HY
  have HX := Lib.hid (szL_fits (ls := lensSS ss) (left := z2) k4)
  have n2 : ¬ z2 < 0 := by omega
  go_wp2_with fail
  refine (szSlots_any o _ ss z2 k4 (by omega) _ S1.slo).mono ?_
  rintro e w3 ⟨rfl, rfl⟩
  generalize szL z2 (lensSS ss) = z3 at *
  rcases HX.out with rfl | ⟨k7, k8, k9, k10⟩
  · go_wp2_with fail
    go_ret
    exact ⟨-1, rfl, by omega, .inl (by omega), S1.old⟩
  have n3 : ¬ z3 < 0 := by omega
  have HF : Hid (FitH us gs ss) := Lib.hid ⟨by omega, by omega, by simp [lensSS] at k9; omega, fun s hs => by have := k10 s.length (List.mem_map.2 ⟨s, hs, rfl⟩); omega⟩
  go_wp2_with fail
  go_ret
  exact ⟨z3, rfl, by omega, .inr HF.out, S1.old⟩

/-- A hall that a call made: three rows, no two one. -/
structure OwnH (w : World) (B : Nat) (v u s : Value) (vs : List Value) (us gs : List Int) (ss : List (List Int)) : Prop where
  o1 : OwnI w B 2 v us
  o2 : OwnI w B 2 u gs
  o3 : OwnSS w B s vs ss
  a12 : apartV v u
  a13 : ∀ q, rowsSS vs q → ¬ v.ownBlock = some q
  a23 : ∀ q, rowsSS vs q → ¬ u.ownBlock = some q
  b13 : apartV v s
  b23 : apartV u s
theorem OwnH.see {w : World} {B : Nat} {v u s : Value} {vs : List Value} {us gs : List Int} {ss : List (List Int)} (h : OwnH w B v u s vs us gs ss) : SeeI w w.heap.size v us ∧ SeeI w w.heap.size u gs ∧ SeeSS w w.heap.size s ss := ⟨h.o1.see, h.o2.see, h.o3.see⟩
theorem OwnH.next {w w' : World} {B : Nat} {v u s : Value} {vs : List Value} {us gs : List Int} {ss : List (List Int)} (h : OwnH w B v u s vs us gs ss) (b : Below w.heap.size w w') : OwnH w' B v u s vs us gs ss :=
  ⟨own_later h.o1 b, own_later h.o2 b, h.o3.later b, h.a12, h.a13, h.a23, h.b13, h.b23⟩
def HallOut (w : World) (us gs : List Int) (ss : List (List Int)) (e : Ending) (w' : World) : Prop :=
  ∃ v u s vs, e = .returned (.agg #[v, u, s]) ∧ OwnH w' w.heap.size v u s vs us gs ss ∧ Below w.heap.size w w'
theorem cells3 {w : World} {g : Nat} {a b c : Value} {T : TypeId} (h : w.heap[g]? = some (.cells #[a, b, c] T (0, 0))) :
    w.cell? ⟨g, 0, none⟩ = some a ∧ w.cell? ⟨g, 1, none⟩ = some b ∧ w.cell? ⟨g, 2, none⟩ = some c :=
  ⟨by rw [cell_of_row _ _ 0 _ _ (0, 0) h]; rfl, by rw [cell_of_row _ _ 1 _ _ (0, 0) h]; rfl, by rw [cell_of_row _ _ 2 _ _ (0, 0) h]; rfl⟩
theorem ss_far {W : World} {B : Nat} {v : Value} {us : List Value} {ss : List (List Int)} (h : OwnSS W B v us ss) {p : Addr} (hp : p.block < B) (u : Value) : OwnSS (W.setCell p u) B v us ss :=
  ⟨own_far h.row hp u, h.len, fun k x s hu hs => own_far (h.inn k x s hu hs) hp u, h.ap, h.out⟩

set_option maxHeartbeats 2000000 in
theorem toHall_any (B : Nat) (v u s : Value) (us gs : List Int) (ss : List (List Int)) (w : World) (h1 : SeeI w B v us) (h2 : SeeI w B u gs) (h3 : SeeSS w B s ss) (hB : B ≤ w.heap.size) (F : FitH us gs ss) :
    Calls Try.prog 9 #[.agg #[v, u, s]] w (HallOut w us gs ss) := by
  obtain ⟨A1, c1, rfl⟩ := h1.shape
  obtain ⟨A2, c2, rfl⟩ := h2.shape
  obtain ⟨A3, c3, rfl⟩ := h3.shape
  have H0 : Hid (∃ W, W = ((w.alloc (.cells #[.slice A1 us.length c1, .slice A2 gs.length c2, .slice A3 ss.length c3] 27)).alloc
      (.cells #[.slice none 0 0, .slice none 0 0, .slice none 0 0] 32)).alloc (.cells #[.slice none 0 0, .slice none 0 0, .slice none 0 0] 32) ∧
      (W.heap[w.heap.size]? = some (.cells #[.slice A1 us.length c1, .slice A2 gs.length c2, .slice A3 ss.length c3] 27 (0, 0)) ∧
      W.heap[w.heap.size + 1]? = some (.cells #[.slice none 0 0, .slice none 0 0, .slice none 0 0] 32 (0, 0)) ∧
      W.heap[w.heap.size + 1 + 1]? = some (.cells #[.slice none 0 0, .slice none 0 0, .slice none 0 0] 32 (0, 0))) ∧ Below w.heap.size w W ∧ W.heap.size = w.heap.size + 3) :=
    Lib.hid ⟨_, rfl, ⟨alloc_old (alloc_old (heap_alloc_new _ _) _) _, alloc_old (by have := heap_alloc_new (w.alloc (.cells #[.slice A1 us.length c1, .slice A2 gs.length c2, .slice A3 ss.length c3] 27)) (.cells #[.slice none 0 0, .slice none 0 0, .slice none 0 0] 32); rwa [World.size_alloc] at this) _,
      by have := heap_alloc_new ((w.alloc (.cells #[.slice A1 us.length c1, .slice A2 gs.length c2, .slice A3 ss.length c3] 27)).alloc (.cells #[.slice none 0 0, .slice none 0 0, .slice none 0 0] 32)) (.cells #[.slice none 0 0, .slice none 0 0, .slice none 0 0] 32); rwa [World.size_alloc, World.size_alloc] at this⟩,
      (((Below.refl _ _).alloc (Nat.le_refl _) _).alloc (by simp) _).alloc (by simp; omega) _, by simp⟩
  go_enter Try.func9, Try.ntmps9
  go_wp2_with fail
  obtain ⟨W, hW, h, bW, hsz⟩ := H0.out
  rw [← hW]
  clear hW H0
  have HN := Lib.hid hsz
  clear hsz
  have k1 := h1.below (bW.mono hB)
  refine (toOrder_any B _ us F.u _ k1 (by have := HN.out; omega)).mono ?_
  rintro e w1 ⟨u1, rfl, o1, b1⟩
  have l1 := o1.lt
  replace h := three_later h b1
  replace bW := below_then bW b1 (Nat.le_refl _)
  have m1 : Hid (w.heap.size + 3 ≤ w1.heap.size) := Lib.hid (by have := b1.size; have := HN.out; omega)
  rw [HN.out] at o1 l1
  obtain ⟨p0, p1, p2⟩ := cells3 h.1
  obtain ⟨q0, q1, q2⟩ := cells3 h.2.2
  have f1 : w1.frozen? ⟨w.heap.size + 1 + 1, 0, none⟩ = false := frozen_row h.2.2
  have o1' := own_far o1 (p := ⟨w.heap.size + 1 + 1, 0, none⟩) (by simp) u1
  have z1 : (w1.setCell ⟨w.heap.size + 1 + 1, 0, none⟩ u1).heap.size = w1.heap.size := by simp [World.setCell]
  replace h := three_set (k := 0) (u := u1) h
  simp only [List.setIfInBounds_toArray, List.set_cons_zero] at h
  replace bW := bW.setCell (show w.heap.size ≤ (⟨w.heap.size + 1 + 1, 0, none⟩ : Addr).block by simp; omega) u1
  obtain ⟨A4, c4, rfl⟩ := o1.see.shape
  clear o1 k1 b1
  go_wp2_with fail
  clear p0 p1 p2 q0 q1 q2 f1
  generalize w1.setCell _ _ = W1 at *
  have k2 := h2.below (bW.mono hB)
  refine (toInts_any B _ gs F.g _ k2 (by have := m1.out; omega)).mono ?_
  rintro e w2 ⟨u2, rfl, o2, b2⟩
  have l2 := o2.lt
  replace h := three_later h b2
  replace o1' := own_later o1' b2
  replace bW := below_then bW b2 (Nat.le_refl _)
  have m2 : Hid (w1.heap.size ≤ w2.heap.size) := Lib.hid (by have := b2.size; omega)
  rw [z1] at o2 l2
  obtain ⟨p0, p1, p2⟩ := cells3 h.1
  obtain ⟨q0, q1, q2⟩ := cells3 h.2.2
  have f1 : w2.frozen? ⟨w.heap.size + 1 + 1, 1, none⟩ = false := frozen_row h.2.2
  replace o1' := own_far o1' (p := ⟨w.heap.size + 1 + 1, 1, none⟩) (by simp) u2
  have o2' := own_far o2 (p := ⟨w.heap.size + 1 + 1, 1, none⟩) (by have := m1.out; simp; omega) u2
  have z2 : (w2.setCell ⟨w.heap.size + 1 + 1, 1, none⟩ u2).heap.size = w2.heap.size := by simp [World.setCell]
  replace h := three_set (k := 1) (u := u2) h
  simp only [List.setIfInBounds_toArray, List.set_cons_succ, List.set_cons_zero] at h
  replace bW := bW.setCell (show w.heap.size ≤ (⟨w.heap.size + 1 + 1, 1, none⟩ : Addr).block by simp; omega) u2
  obtain ⟨A5, c5, rfl⟩ := o2.see.shape
  clear o2 k2 b2
  go_wp2_with fail
  clear p0 p1 p2 q0 q1 q2 f1
  generalize w2.setCell _ _ = W2 at *
  have k3 := h3.below (bW.mono hB)
  refine (toSlots_any B _ ss F.s F.e _ k3 (by have := m1.out; have := m2.out; omega)).mono ?_
  rintro e w3 ⟨u3, vs, rfl, o3, b3⟩
  replace h := three_later h b3
  replace o1' := own_later o1' b3
  replace o2' := own_later o2' b3
  replace bW := below_then bW b3 (Nat.le_refl _)
  have m3 : Hid (w2.heap.size ≤ w3.heap.size) := Lib.hid (by have := b3.size; omega)
  rw [z2] at o3
  have l3 := o3.blocks
  have l3r := World.ownsRow.lt o3.row
  obtain ⟨p0, p1, p2⟩ := cells3 h.1
  obtain ⟨q0, q1, q2⟩ := cells3 h.2.2
  have f1 : w3.frozen? ⟨w.heap.size + 1 + 1, 2, none⟩ = false := frozen_row h.2.2
  replace o1' := own_far o1' (p := ⟨w.heap.size + 1 + 1, 2, none⟩) (by simp) u3
  replace o2' := own_far o2' (p := ⟨w.heap.size + 1 + 1, 2, none⟩) (by have := m1.out; simp; omega) u3
  have o3' := ss_far o3 (p := ⟨w.heap.size + 1 + 1, 2, none⟩) (by have := m1.out; have := m2.out; simp; omega) u3
  replace h := three_set (k := 2) (u := u3) h
  simp only [List.setIfInBounds_toArray, List.set_cons_succ, List.set_cons_zero] at h
  replace bW := bW.setCell (show w.heap.size ≤ (⟨w.heap.size + 1 + 1, 2, none⟩ : Addr).block by simp; omega) u3
  obtain ⟨A6, c6, rfl⟩ := o3.see.shape
  clear o3 k3 b3
  have f0 := frozen_row (k := 0) h.2.1
  have f2 := frozen_row (k := 1) h.2.1
  have f3 := frozen_row (k := 2) h.2.1
  obtain ⟨r0, r1, r2⟩ := cells3 h.2.1
  obtain ⟨s0, s1, s2⟩ := cells3 h.2.2
  have R1 := heap_set (heap_set (heap_set h.2.1 (k := 0) (.slice A4 us.length c4)) (k := 1) (.slice A5 gs.length c5)) (k := 2) (.slice A6 ss.length c6)
  simp only [List.setIfInBounds_toArray, List.set_cons_succ, List.set_cons_zero] at R1
  obtain ⟨y0, y1, y2⟩ := cells3 R1
  have H12 : Hid (apartV (.slice A4 us.length c4) (.slice A5 gs.length c5)) := Lib.hid (fun g e f => by have := (l1 g e).2; have := (l2 g f).1; omega)
  have H13 : Hid (∀ q, rowsSS vs q → ¬ (Value.slice A4 us.length c4).ownBlock = some q) := Lib.hid (fun q hq e => by have := (l3 q hq).1; have := (l1 q e).2; have := m2.out; omega)
  have H23 : Hid (∀ q, rowsSS vs q → ¬ (Value.slice A5 gs.length c5).ownBlock = some q) := Lib.hid (fun q hq e => by have := (l3 q hq).1; have := (l2 q e).2; omega)
  have HB13 : Hid (apartV (.slice A4 us.length c4) (.slice A6 ss.length c6)) := Lib.hid (fun q e f => by have := (l3r q f).1; have := (l1 q e).2; have := m2.out; omega)
  have HB23 : Hid (apartV (.slice A5 gs.length c5) (.slice A6 ss.length c6)) := Lib.hid (fun q e f => by have := (l3r q f).1; have := (l2 q e).2; omega)
  have O1 := Lib.hid (own_less (own_far (own_far (own_far o1' (p := ⟨w.heap.size + 1, 0, none⟩) (by simp) (.slice A4 us.length c4)) (p := ⟨w.heap.size + 1, 1, none⟩) (by simp) (.slice A5 gs.length c5)) (p := ⟨w.heap.size + 1, 2, none⟩) (by simp) (.slice A6 ss.length c6)) (show w.heap.size ≤ w.heap.size + 3 by omega))
  have O2 := Lib.hid (own_less (own_far (own_far (own_far o2' (p := ⟨w.heap.size + 1, 0, none⟩) (by have := m1.out; simp; omega) (.slice A4 us.length c4)) (p := ⟨w.heap.size + 1, 1, none⟩) (by have := m1.out; simp; omega) (.slice A5 gs.length c5)) (p := ⟨w.heap.size + 1, 2, none⟩) (by have := m1.out; simp; omega) (.slice A6 ss.length c6)) (show w.heap.size ≤ w1.heap.size by have := m1.out; omega))
  have O3 := Lib.hid ((ss_far (ss_far (ss_far o3' (p := ⟨w.heap.size + 1, 0, none⟩) (by have := m1.out; have := m2.out; simp; omega) (.slice A4 us.length c4)) (p := ⟨w.heap.size + 1, 1, none⟩) (by have := m1.out; have := m2.out; simp; omega) (.slice A5 gs.length c5)) (p := ⟨w.heap.size + 1, 2, none⟩) (by have := m1.out; have := m2.out; simp; omega) (.slice A6 ss.length c6)).less (show w.heap.size ≤ w2.heap.size by have := m1.out; have := m2.out; omega))
  have BB := Lib.hid (((bW.setCell (p := ⟨w.heap.size + 1, 0, none⟩) (by simp) (.slice A4 us.length c4)).setCell (p := ⟨w.heap.size + 1, 1, none⟩) (by simp) (.slice A5 gs.length c5)).setCell (p := ⟨w.heap.size + 1, 2, none⟩) (by simp) (.slice A6 ss.length c6))
  clear o1' o2' o3' h bW h1 h2 h3 l1 l2 l3 l3r R1
  go_wp2_with fail
  refine bodyPost_ret (v := .agg #[.slice A4 us.length c4, .slice A5 gs.length c5, .slice A6 ss.length c6]) (by simp [results, Try.results9, go_sem, y0, y1, y2]) rfl ⟨_, _, _, vs, rfl, ⟨O1.out, O2.out, O3.out, H12.out, H13.out, H23.out, HB13.out, HB23.out⟩, BB.out⟩

set_option maxHeartbeats 1000000 in
theorem eqHall_same (B : Nat) (v u s v' u' s' : Value) (us gs : List Int) (ss : List (List Int)) (w : World) (hB : B ≤ w.heap.size)
    (h1 : SeeI w B v us) (h2 : SeeI w B u gs) (h3 : SeeSS w B s ss) (k1 : SeeI w B v' us) (k2 : SeeI w B u' gs) (k3 : SeeSS w B s' ss) :
    Calls Try.prog 11 #[.agg #[v, u, s], .agg #[v', u', s']] w (BoolOf w true) := by
  have S0 := Hg.box h1 h2 h3 hB 32
  have b0 := below_new w (.cells #[v, u, s] 32)
  have hz : (w.alloc (.cells #[v, u, s] 32)).heap.size = w.heap.size + 1 := by simp
  have T0 := Hg.box (k1.below (b0.mono hB)) (k2.below (b0.mono hB)) (k3.below (b0.mono hB)) (Nat.le_trans hB b0.size) 32
  have S1 := S0.next (below_new _ (.cells #[v', u', s'] 32))
  rw [hz] at T0
  obtain ⟨A, c, rfl⟩ := h1.shape
  obtain ⟨A', c', rfl⟩ := h2.shape
  obtain ⟨A2, c2, rfl⟩ := h3.shape
  obtain ⟨A3, c3, rfl⟩ := k1.shape
  obtain ⟨A4, c4, rfl⟩ := k2.shape
  obtain ⟨A5, c5, rfl⟩ := k3.shape
  clear h1 h2 h3 k1 k2 k3 S0 b0
  go_enter Try.func11, Try.ntmps11
  have p0 := S1.c0
  have p1 := S1.c1
  have p2 := S1.c2
  have q0 := T0.c0
  have q1 := T0.c1
  have q2 := T0.c2
  go_wp2_with fail
  generalize World.alloc _ (.cells #[.slice A3 us.length c3, .slice A4 gs.length c4, .slice A5 ss.length c5] _) = W at S1 T0 p0 p1 p2 q0 q1 q2 ⊢
  refine (eq_copy W.heap.size _ _ us W (Nat.le_refl _) (S1.see.more S1.le) (T0.see.more T0.le)).mono ?_
  rintro e w1 ⟨rfl, b1⟩
  replace S1 := S1.next b1
  replace T0 := T0.next b1
  clear p0 p1 p2 q0 q1 q2 b1
  have p1 := S1.c1
  have p2 := S1.c2
  have q1 := T0.c1
  have q2 := T0.c2
  go_wp2_with fail
  refine (eq_ints w1.heap.size _ _ gs _ (S1.gat.more S1.le) (T0.gat.more T0.le)).mono ?_
  rintro e w2 ⟨rfl, b2⟩
  replace S1 := S1.next b2
  replace T0 := T0.next b2
  clear p1 p2 q1 q2 b2
  have p2 := S1.c2
  have q2 := T0.c2
  go_wp2_with fail
  refine (eqSlots_same w2.heap.size _ _ ss _ (S1.slo.more S1.le) (T0.slo.more T0.le)).mono ?_
  rintro e w3 ⟨rfl, n, rfl⟩
  go_wp2_with fail
  go_ret
  exact ⟨rfl, below_drewN S1.old n⟩

theorem hold6 {w0 w1 W W' : World} {o o' : Nat} {v u s v' u' s' : Value} {us gs us' gs' : List Int} {ss ss' : List (List Int)} (h : Hg w0 o v u s us gs ss W) (h' : Hg w1 o' v' u' s' us' gs' ss' W) (k : Below W.heap.size W W') :
    (W'.cell? ⟨o, 0, none⟩ = some v ∧ W'.cell? ⟨o, 1, none⟩ = some u ∧ W'.cell? ⟨o, 2, none⟩ = some s) ∧ (W'.cell? ⟨o', 0, none⟩ = some v' ∧ W'.cell? ⟨o', 1, none⟩ = some u' ∧ W'.cell? ⟨o', 2, none⟩ = some s') ∧ Below W.heap.size W W' :=
  ⟨⟨(h.next k).c0, (h.next k).c1, (h.next k).c2⟩, ⟨(h'.next k).c0, (h'.next k).c1, (h'.next k).c2⟩, k⟩

set_option maxHeartbeats 4000000 in
theorem hallOk_law (v u s : Value) (us gs : List Int) (ss : List (List Int)) (w : World) (h1 : SeeI w w.heap.size v us) (h2 : SeeI w w.heap.size u gs) (h3 : SeeSS w w.heap.size s ss) :
    Calls Try.prog 3 #[.agg #[v, u, s]] w (BoolOf w true) := by
  have S0 := Hg.box h1 h2 h3 (Nat.le_refl _) 27
  obtain ⟨A, c, rfl⟩ := h1.shape
  obtain ⟨A', c', rfl⟩ := h2.shape
  obtain ⟨A2, c2, rfl⟩ := h3.shape
  clear h1 h2 h3
  go_enter Try.func3, Try.ntmps3
  have p0 := S0.c0
  have p1 := S0.c1
  have p2 := S0.c2
  go_wp2_with fail
  generalize w.alloc _ = W at S0 p0 p1 p2 ⊢
  generalize w.heap.size = o at S0 p0 p1 p2 ⊢
  refine (szHall_any o _ _ _ us gs ss 1048576 (by decide) (by decide) _ S0.see S0.gat S0.slo S0.le).mono ?_
  rintro e w1 ⟨z, rfl, -, hz, b1⟩
  replace S0 := S0.next b1
  clear p0 p1 p2 b1
  by_cases hn : z < 0
  · go_wp2_with fail
    go_ret
    exact ⟨rfl, S0.old⟩
  have F : FitH us gs ss := by rcases hz with q | q; exact absurd q hn; exact q
  clear hz
  have p0 := S0.c0
  have p1 := S0.c1
  have p2 := S0.c2
  go_wp2_with fail
  clear p0 p1 p2 hn
  refine (toHall_any o _ _ _ us gs ss _ S0.see S0.gat S0.slo S0.le F).mono ?_
  rintro e w2 ⟨v2, u2, s2, vs2, rfl, o2, b2⟩
  replace S0 := S0.next b2
  obtain ⟨k1, k2, k3⟩ := o2.see
  clear o2 b2
  go_wp2_with fail
  refine (sHallOk_any w2.heap.size _ _ _ us gs ss _ k1 k2 k3 (Nat.le_refl _)).mono ?_
  rintro e w3 ⟨rfl, b3⟩
  replace S0 := S0.next b3
  clear k1 k2 k3 b3
  have p0 := S0.c0
  have p1 := S0.c1
  have p2 := S0.c2
  go_wp2_with fail
  clear p0 p1 p2
  refine (toHall_any o _ _ _ us gs ss _ S0.see S0.gat S0.slo S0.le F).mono ?_
  rintro e w4 ⟨v4, u4, s4, vs4, rfl, o4, b4⟩
  replace S0 := S0.next b4
  obtain ⟨k1, k2, k3⟩ := o4.see
  have T0 := Hg.box k1 k2 k3 (Nat.le_refl _) 32
  replace S0 := S0.next (below_new w4 (.cells #[v4, u4, s4] 32))
  obtain ⟨B1, e1, rfl⟩ := k1.shape
  obtain ⟨B2, e2, rfl⟩ := k2.shape
  obtain ⟨B3, e3, rfl⟩ := k3.shape
  clear o4 b4 k1 k2 k3
  have p0 := T0.c0
  have p1 := T0.c1
  have p2 := T0.c2
  go_wp2_with fail
  generalize w4.alloc _ = W4 at *
  generalize w4.heap.size = M at *
  refine (iHallOk_any M _ _ _ us gs ss _ T0.see T0.gat T0.slo T0.le).mono ?_
  rintro e w6 ⟨rfl, b6⟩
  replace S0 := S0.next b6
  replace T0 := T0.next b6
  clear p0 p1 p2 b6
  generalize hallB us gs ss = bo at *
  have hbb : (bo != bo) = false := by simp
  have k0 : Below w6.heap.size w6 w6.drew := (Below.refl _ _).drew
  go_wp2_with fail
  go_region_held3 (fun w' => (w'.cell? ⟨M, 0, none⟩ = some (.slice B1 us.length e1) ∧ w'.cell? ⟨M, 1, none⟩ = some (.slice B2 gs.length e2) ∧ w'.cell? ⟨M, 2, none⟩ = some (.slice B3 ss.length e3)) ∧
      (w'.cell? ⟨o, 0, none⟩ = some (.slice A us.length c) ∧ w'.cell? ⟨o, 1, none⟩ = some (.slice A' gs.length c') ∧ w'.cell? ⟨o, 2, none⟩ = some (.slice A2 ss.length c2)) ∧ Below w6.heap.size w6 w')
    (first | exact hold6 T0 S0 k0 | exact hold6 T0 S0 k7 | exact hold6 T0 S0 k8)
    (first | (go_at_call 9; refine (toHall_any o _ _ _ us gs ss _ (S0.next k0).see (S0.next k0).gat (S0.next k0).slo (S0.next k0).le F).mono ?_; rintro e w7 ⟨v7, u7, s7, vs7, rfl, o7, b7⟩; have k7 := below_then k0 b7 (Nat.le_refl _)) |
      (go_at_call 11; refine (eqHall_same w7.heap.size _ _ _ _ _ _ us gs ss _ (Nat.le_refl _) ((T0.next k7).see.more (T0.next k7).le) ((T0.next k7).gat.more (T0.next k7).le) ((T0.next k7).slo.more (T0.next k7).le) o7.see.1 o7.see.2.1 o7.see.2.2).mono ?_; rintro e w8 ⟨rfl, b8⟩; have k8 := below_then k7 b8 (Nat.le_refl _)))
  go_wp2_with fail
  go_ret
  exact ⟨rfl, (S0.next k8).old⟩

end Go.Proofs.Ytigcbegeaikfcaa
