/- The laws' own helpers on Cores: their size, a copy, whether two are equal, marks in them. No conditions but those typed. -/
import Derived.Test.YtigcbegeaikfcaaGreatDoorLawA
import Derived.Test.YtigcbegeaikfcaaGreatDoorBoxL
import Derived.Test.YtigcbegeaikfcaaGreatDoorLowT
import Derived.Deep.Cut
namespace Go.Proofs.YtigcbegeaikfcaaGreatDoor
open Go.RowKit
set_option linter.unusedVariables false

theorem cells5 {w : World} {g : Nat} {a b c d e : Value} {T : TypeId} (h : w.heap[g]? = some (.cells #[a, b, c, d, e] T (0, 0))) :
    w.cell? ⟨g, 0, none⟩ = some a ∧ w.cell? ⟨g, 1, none⟩ = some b ∧ w.cell? ⟨g, 2, none⟩ = some c ∧ w.cell? ⟨g, 3, none⟩ = some d ∧ w.cell? ⟨g, 4, none⟩ = some e :=
  ⟨by rw [cell_of_row _ _ 0 _ _ (0, 0) h]; rfl, by rw [cell_of_row _ _ 1 _ _ (0, 0) h]; rfl, by rw [cell_of_row _ _ 2 _ _ (0, 0) h]; rfl, by rw [cell_of_row _ _ 3 _ _ (0, 0) h]; rfl, by rw [cell_of_row _ _ 4 _ _ (0, 0) h]; rfl⟩
theorem heap_lt {w : World} {g : Nat} {o : Obj} (h : w.heap[g]? = some o) : g < w.heap.size := (Array.getElem?_eq_some_iff.1 h).1
theorem row_later {w w' : World} {g : Nat} {o : Obj} (h : w.heap[g]? = some o) (b : Below w.heap.size w w') : w'.heap[g]? = some o := (b.block g (heap_lt h)).trans h
theorem alloc_old {w : World} {g : Nat} {o : Obj} (h : w.heap[g]? = some o) (u : Obj) : (w.alloc u).heap[g]? = some o :=
  row_later h ((Below.refl _ _).alloc (Nat.le_refl _) _)
theorem below_new (w : World) (o : Obj) : Below w.heap.size w (w.alloc o) := (Below.refl _ _).alloc (Nat.le_refl _) _

theorem hold10 {W w' : World} {n m : Nat} {a0 a1 a2 a3 a4 b0 b1 b2 b3 b4 : Value} {t u : TypeId} (R : W.heap[n]? = some (.cells #[a0, a1, a2, a3, a4] t (0, 0))) (S : W.heap[m]? = some (.cells #[b0, b1, b2, b3, b4] u (0, 0))) (k : Below W.heap.size W w') :
    (w'.cell? ⟨n, 0, none⟩ = some a0 ∧ w'.cell? ⟨n, 1, none⟩ = some a1 ∧ w'.cell? ⟨n, 2, none⟩ = some a2 ∧ w'.cell? ⟨n, 3, none⟩ = some a3 ∧ w'.cell? ⟨n, 4, none⟩ = some a4) ∧
    (w'.cell? ⟨m, 0, none⟩ = some b0 ∧ w'.cell? ⟨m, 1, none⟩ = some b1 ∧ w'.cell? ⟨m, 2, none⟩ = some b2 ∧ w'.cell? ⟨m, 3, none⟩ = some b3 ∧ w'.cell? ⟨m, 4, none⟩ = some b4) ∧ Below W.heap.size W w' :=
  ⟨cells5 (row_later R k), cells5 (row_later S k), k⟩

/-- How much room is left behind a core's three rows; -1: there was not enough. -/
def szC (left : Int) (zs : List Int) (bs : List Bx) (rs : List Int) : Int :=
  if szB left zs.length < 0 then -1 else if szL (szB left zs.length) (nmLens bs) < 0 then -1 else szB (szL (szB left zs.length) (nmLens bs)) rs.length
theorem szB_fits {left n : Int} (h0 : 0 ≤ left) (hn : 0 ≤ n) : (szB left n = -1 ∧ left < n) ∨ (0 ≤ szB left n ∧ szB left n ≤ left ∧ n ≤ left) := by
  unfold szB
  by_cases h : left < n
  · left; exact ⟨by rw [if_pos h], h⟩
  · right; rw [if_neg h]; omega
theorem szC_fits {left : Int} {zs : List Int} {bs : List Bx} {rs : List Int} (h0 : 0 ≤ left) (h1 : left ≤ 1048576) : szC left zs bs rs = -1 ∨
    (0 ≤ szC left zs bs rs ∧ szC left zs bs rs ≤ left ∧ (zs.length : Int) ≤ left ∧ (rs.length : Int) ≤ left ∧ (bs.length : Int) ≤ left ∧ shortB bs) := by
  unfold szC
  rcases szB_fits (left := left) (n := zs.length) h0 (by omega) with ⟨h, _⟩ | ⟨h, h2, h3⟩
  · left; rw [if_pos (by omega)]
  · rw [if_neg (by omega)]
    rcases szL_fits (ls := nmLens bs) h with k | ⟨k, k2, k3, k4⟩
    · left; rw [if_pos (by omega)]
    · rw [if_neg (by omega)]
      have hb := sz_boxes (bs := bs) (left := szB left zs.length) k h (by omega)
      have hl : (nmLens bs).length = bs.length := by simp [nmLens]
      rcases szB_fits (left := szL (szB left zs.length) (nmLens bs)) (n := rs.length) k (by omega) with ⟨m, _⟩ | ⟨m, m2, m3⟩
      · exact .inl m
      · exact .inr ⟨m, by omega, by omega, by omega, by omega, hb.2⟩

set_option maxHeartbeats 1000000 in
theorem szCore_any (B : Nat) (x y : Int) (v1 v2 v3 : Value) (zs : List Int) (bs : List Bx) (rs : List Int) (left : Int) (h0 : 0 ≤ left) (h1 : left ≤ 1048576) (w : World)
    (s1 : SeeI w B v1 zs) (s2 : SeeBx w B v2 bs) (s3 : SeeI w B v3 rs) (hB : B ≤ w.heap.size) (hF : fitB bs) :
    Calls Tryz.prog 26 #[.agg #[.int .i64 x, v1, v2, v3, .int .i64 y], .int .i64 left] w fun e w' => e = .returned (.int .i64 (szC left zs bs rs)) ∧ Below w.heap.size w w' := by
  have m1 := s1.1
  have m3 := s3.1
  obtain ⟨A1, c1, rfl⟩ := s1.shape
  obtain ⟨A2, c2, rfl⟩ := s2.shape
  obtain ⟨A3, c3, rfl⟩ := s3.shape
  have B0 := below_new w (.cells #[.int .i64 x, .slice A1 zs.length c1, .slice A2 bs.length c2, .slice A3 rs.length c3, .int .i64 y] 58)
  have R0 := heap_alloc_new w (.cells #[.int .i64 x, .slice A1 zs.length c1, .slice A2 bs.length c2, .slice A3 rs.length c3, .int .i64 y] 58)
  have t2 := s2.alloc hB (.cells #[.int .i64 x, .slice A1 zs.length c1, .slice A2 bs.length c2, .slice A3 rs.length c3, .int .i64 y] 58)
  have HB2 : B ≤ (w.alloc (.cells #[.int .i64 x, .slice A1 zs.length c1, .slice A2 bs.length c2, .slice A3 rs.length c3, .int .i64 y] 58)).heap.size := by simp; omega
  obtain ⟨p0, p1, p2, p3, p4⟩ := cells5 R0
  have HE : Hid (szC left zs bs rs = if szB left zs.length < 0 then -1 else if szL (szB left zs.length) (nmLens bs) < 0 then -1 else szB (szL (szB left zs.length) (nmLens bs)) rs.length) := Lib.hid rfl
  have f1 := szB_fits (left := left) (n := zs.length) h0 (by omega)
  have f2 := fun h => szL_fits (ls := nmLens bs) (left := szB left zs.length) h
  have f3 := fun h => szB_fits (left := szL (szB left zs.length) (nmLens bs)) (n := rs.length) h (by omega)
  go_enter Tryz.func26, Tryz.ntmps26
  go_wp2_with fail
  generalize w.alloc _ = W at *
  refine (szInts_any _ _ _ _ m1 h0 h1 _).mono ?_
  rintro e w1 ⟨rfl, rfl⟩
  have C2 := Lib.hid (fun k0 k1 => szBoxes_any B _ bs (szB left zs.length) k0 k1 W t2 HB2 hF)
  have C3 := Lib.hid (fun k0 k1 W => szInts_any A3 rs.length c3 (szL (szB left zs.length) (nmLens bs)) m3 k0 k1 W)
  generalize szL (szB left zs.length) (nmLens bs) = l2 at *
  generalize szB left zs.length = l1 at *
  generalize szB l2 rs.length = l3 at *
  clear s1 s2 s3 t2
  rcases f1 with ⟨q1, -⟩ | ⟨q1, q2, q3⟩
  · have q1' : l1 < 0 := by omega
    go_wp2_with fail
    go_ret
    exact ⟨ret_int (by rw [HE.out, if_pos (by omega)]), B0⟩
  · have q1' : ¬ l1 < 0 := by omega
    have hz := heap_lt R0
    go_wp2_with fail
    refine (C2.out q1 (by omega)).mono ?_
    rintro e w2 ⟨rfl, b2⟩
    obtain ⟨r0, r1, r2, r3, r4⟩ := cells5 (row_later R0 b2)
    have B2 := below_then B0 b2 (Nat.le_refl _)
    clear p0 p1 p2 p3 p4 R0 b2
    rcases f2 q1 with k1 | ⟨k1, k2, k3, k4⟩
    · have k1' : l2 < 0 := by omega
      go_wp2_with fail
      go_ret
      exact ⟨ret_int (by rw [HE.out, if_neg (by omega), if_pos (by omega)]), B2⟩
    · have k1' : ¬ l2 < 0 := by omega
      go_wp2_with fail
      refine (C3.out k1 (by omega) _).mono ?_
      rintro e w3 ⟨rfl, rfl⟩
      rcases f3 k1 with ⟨d1, -⟩ | ⟨d1, -, -⟩
      · have d1' : l3 < 0 := by omega
        go_wp2_with fail
        go_ret
        exact ⟨ret_int (by rw [HE.out, if_neg (by omega), if_neg (by omega), d1]), B2⟩
      · have d1' : ¬ l3 < 0 := by omega
        go_wp2_with fail
        go_ret
        exact ⟨ret_int (by rw [HE.out, if_neg (by omega), if_neg (by omega)]), B2⟩

/-- Two rows are not one. -/
def apartV (a b : Value) : Prop := ∀ g, a.ownBlock = some g → b.ownBlock = some g → False
theorem apart_lt {w : World} {B : Nat} {e : TypeId} {a b : Value} {n m : Nat} {xs ys : List Value} {k : Nat} (ha : ∀ g, a.ownBlock = some g → g < B) (hb : ∀ g, b.ownBlock = some g → B ≤ g ∧ g < w.heap.size) : apartV a b :=
  fun g h1 h2 => by have := ha g h1; have := (hb g h2).1; omega

def set5 (W : World) (N : Nat) (x0 x1 x2 x3 x4 : Value) : World := ((((W.setCell ⟨N, 0, none⟩ x0).setCell ⟨N, 1, none⟩ x1).setCell ⟨N, 2, none⟩ x2).setCell ⟨N, 3, none⟩ x3).setCell ⟨N, 4, none⟩ x4
theorem set5_blk {W : World} {N : Nat} {t : TypeId} {y0 y1 y2 y3 y4 : Value} (h : W.heap[N]? = some (.cells #[y0, y1, y2, y3, y4] t (0, 0))) (x0 x1 x2 x3 x4 : Value) : (set5 W N x0 x1 x2 x3 x4).heap[N]? = some (.cells #[x0, x1, x2, x3, x4] t (0, 0)) := by
  unfold set5
  rw [heap_set (heap_set (heap_set (heap_set (heap_set h x0) x1) x2) x3) x4]
  simp
theorem set5_below {w W : World} {B N : Nat} (h : Below B w W) (hN : B ≤ N) (x0 x1 x2 x3 x4 : Value) : Below B w (set5 W N x0 x1 x2 x3 x4) :=
  ((((h.setCell hN _).setCell hN _).setCell hN _).setCell hN _).setCell hN _
theorem set5_own {W : World} {N B k : Nat} {e : TypeId} {v : Value} {n : Nat} {xs : List Value} (h : W.ownsRow B e k v n xs) (hN : N < B) (x0 x1 x2 x3 x4 : Value) : (set5 W N x0 x1 x2 x3 x4).ownsRow B e k v n xs :=
  ownsRow_setCell_below (ownsRow_setCell_below (ownsRow_setCell_below (ownsRow_setCell_below (ownsRow_setCell_below h hN _) hN _) hN _) hN _) hN _
theorem own_far {W : World} {B k n : Nat} {e : TypeId} {v : Value} {xs : List Value} (h : W.ownsRow B e k v n xs) {p : Addr} (hp : p.block < B) (u : Value) : (W.setCell p u).ownsRow B e k v n xs := ownsRow_setCell_below h hp u
theorem own_later {w w' : World} {B k n : Nat} {e : TypeId} {v : Value} {xs : List Value} (h : w.ownsRow B e k v n xs) (hb : Below w.heap.size w w') : w'.ownsRow B e k v n xs := by
  obtain ⟨hl, h⟩ := h
  rcases h with h | ⟨g, cap, cur, h1, h2, h3, h4⟩
  · exact ⟨hl, .inl h⟩
  · exact ⟨hl, .inr ⟨g, cap, cur, h1, h2, row_later h3 hb, h4⟩⟩
theorem own_less {w : World} {B B' k n : Nat} {e : TypeId} {v : Value} {xs : List Value} (h : w.ownsRow B e k v n xs) (hB : B' ≤ B) : w.ownsRow B' e k v n xs := by
  obtain ⟨hl, h⟩ := h
  rcases h with h | ⟨g, cap, cur, h1, h2, h3⟩
  · exact ⟨hl, .inl h⟩
  · exact ⟨hl, .inr ⟨g, cap, cur, h1, Nat.le_trans hB h2, h3⟩⟩
theorem OwnBx.row0 {w : World} {B : Nat} {e : TypeId} {v : Value} {bs : List Bx} (h : OwnBx w B e v bs) : w.ownsRow B e 2 v bs.length (bs.map boxV).flatten := by have := h.1; rwa [List.length_map] at this
theorem OwnBx.of_row0 {w : World} {B : Nat} {e : TypeId} {v : Value} {bs : List Bx} (h : w.ownsRow B e 2 v bs.length (bs.map boxV).flatten) : OwnBx w B e v bs := ⟨by rw [List.length_map]; exact h, boxes_two bs⟩

/-- Three blocks of five cells, one behind the other, behind a store into the third. -/
theorem three_set {W : World} {N : Nat} {c0 c1 c2 : Array Value} {t0 t1 t2 : TypeId} {k : Nat} {u : Value} (h : W.heap[N]? = some (.cells c0 t0 (0, 0)) ∧ W.heap[N + 1]? = some (.cells c1 t1 (0, 0)) ∧ W.heap[N + 1 + 1]? = some (.cells c2 t2 (0, 0))) :
    (W.setCell ⟨N + 1 + 1, k, none⟩ u).heap[N]? = some (.cells c0 t0 (0, 0)) ∧ (W.setCell ⟨N + 1 + 1, k, none⟩ u).heap[N + 1]? = some (.cells c1 t1 (0, 0)) ∧ (W.setCell ⟨N + 1 + 1, k, none⟩ u).heap[N + 1 + 1]? = some (.cells (c2.setIfInBounds k u) t2 (0, 0)) :=
  ⟨by rw [Below.heap_setCell _ _ _ _ (by show N ≠ N + 1 + 1; omega)]; exact h.1, by rw [Below.heap_setCell _ _ _ _ (by show N + 1 ≠ N + 1 + 1; omega)]; exact h.2.1, heap_set h.2.2 _⟩
theorem three_later {W W' : World} {N : Nat} {o0 o1 o2 : Obj} (h : W.heap[N]? = some o0 ∧ W.heap[N + 1]? = some o1 ∧ W.heap[N + 1 + 1]? = some o2) (b : Below W.heap.size W W') :
    W'.heap[N]? = some o0 ∧ W'.heap[N + 1]? = some o1 ∧ W'.heap[N + 1 + 1]? = some o2 := ⟨row_later h.1 b, row_later h.2.1 b, row_later h.2.2 b⟩

set_option maxHeartbeats 2000000 in
theorem toCore_any (B : Nat) (x y : Int) (v1 v2 v3 : Value) (zs : List Int) (bs : List Bx) (rs : List Int) (w : World)
    (s1 : SeeI w B v1 zs) (s2 : SeeBx w B v2 bs) (s3 : SeeI w B v3 rs) (hB : B ≤ w.heap.size) (hz : zs.length ≤ 1048576) (hb : bs.length ≤ 1048576) (hr : rs.length ≤ 1048576) :
    Calls Tryz.prog 29 #[.agg #[.int .i64 x, v1, v2, v3, .int .i64 y]] w fun e w' =>
      ∃ u1 u2 u3, e = .returned (.agg #[.int .i64 x, u1, u2, u3, .int .i64 y]) ∧ OwnI w' w.heap.size 2 u1 zs ∧ OwnBx w' w.heap.size 92 u2 bs ∧ OwnI w' w.heap.size 2 u3 rs ∧
        apartV u1 u2 ∧ apartV u1 u3 ∧ apartV u2 u3 ∧ Below w.heap.size w w' := by
  obtain ⟨A1, c1, rfl⟩ := s1.shape
  obtain ⟨A2, c2, rfl⟩ := s2.shape
  obtain ⟨A3, c3, rfl⟩ := s3.shape
  have H0 : Hid (∃ W, W = ((w.alloc (.cells #[.int .i64 x, .slice A1 zs.length c1, .slice A2 bs.length c2, .slice A3 rs.length c3, .int .i64 y] 58)).alloc
      (.cells #[.int .i64 0, .slice none 0 0, .slice none 0 0, .slice none 0 0, .int .i64 0] 27)).alloc (.cells #[.int .i64 x, .slice none 0 0, .slice none 0 0, .slice none 0 0, .int .i64 0] 27) ∧
      (W.heap[w.heap.size]? = some (.cells #[.int .i64 x, .slice A1 zs.length c1, .slice A2 bs.length c2, .slice A3 rs.length c3, .int .i64 y] 58 (0, 0)) ∧
      W.heap[w.heap.size + 1]? = some (.cells #[.int .i64 0, .slice none 0 0, .slice none 0 0, .slice none 0 0, .int .i64 0] 27 (0, 0)) ∧
      W.heap[w.heap.size + 1 + 1]? = some (.cells #[.int .i64 x, .slice none 0 0, .slice none 0 0, .slice none 0 0, .int .i64 0] 27 (0, 0))) ∧ Below w.heap.size w W ∧ W.heap.size = w.heap.size + 3) :=
    Lib.hid ⟨_, rfl, ⟨alloc_old (alloc_old (heap_alloc_new _ _) _) _, alloc_old (by have := heap_alloc_new (w.alloc (.cells #[.int .i64 x, .slice A1 zs.length c1, .slice A2 bs.length c2, .slice A3 rs.length c3, .int .i64 y] 58)) (.cells #[.int .i64 0, .slice none 0 0, .slice none 0 0, .slice none 0 0, .int .i64 0] 27); rwa [World.size_alloc] at this) _,
      by have := heap_alloc_new ((w.alloc (.cells #[.int .i64 x, .slice A1 zs.length c1, .slice A2 bs.length c2, .slice A3 rs.length c3, .int .i64 y] 58)).alloc (.cells #[.int .i64 0, .slice none 0 0, .slice none 0 0, .slice none 0 0, .int .i64 0] 27)) (.cells #[.int .i64 x, .slice none 0 0, .slice none 0 0, .slice none 0 0, .int .i64 0] 27); rwa [World.size_alloc, World.size_alloc] at this⟩,
      (((Below.refl _ _).alloc (Nat.le_refl _) _).alloc (by simp) _).alloc (by simp; omega) _, by simp⟩
  go_enter Tryz.func29, Tryz.ntmps29
  go_wp2_with fail
  obtain ⟨W, hW, h3, bW, hsz⟩ := H0.out
  rw [← hW]
  clear hW H0
  have HN := Lib.hid hsz
  clear hsz
  have k1 := s1.below (bW.mono hB)
  refine (toInts_any B _ zs hz _ k1 (by have := HN.out; omega)).mono ?_
  rintro e w1 ⟨u1, rfl, o1, b1⟩
  have l1 := o1.lt
  replace h3 := three_later h3 b1
  replace bW := below_then bW b1 (Nat.le_refl _)
  have m1 : Hid (w.heap.size + 3 ≤ w1.heap.size) := Lib.hid (by have := b1.size; have := HN.out; omega)
  rw [HN.out] at o1
  obtain ⟨p0, p1, p2, p3, p4⟩ := cells5 h3.1
  obtain ⟨q0, q1, q2, q3, q4⟩ := cells5 h3.2.2
  have f1 : w1.frozen? ⟨w.heap.size + 1 + 1, 1, none⟩ = false := frozen_row h3.2.2
  have o1' := own_far o1 (p := ⟨w.heap.size + 1 + 1, 1, none⟩) (by simp) u1
  have z1 : (w1.setCell ⟨w.heap.size + 1 + 1, 1, none⟩ u1).heap.size = w1.heap.size := by simp [World.setCell]
  replace h3 := three_set (k := 1) (u := u1) h3
  simp only [List.setIfInBounds_toArray, List.set_cons_succ, List.set_cons_zero] at h3
  replace bW := bW.setCell (show w.heap.size ≤ (⟨w.heap.size + 1 + 1, 1, none⟩ : Addr).block by simp; omega) u1
  obtain ⟨A4, c4, rfl⟩ := o1.see.shape
  clear o1 k1 b1
  go_wp2_with fail
  clear p0 p1 p2 p3 p4 q0 q1 q2 q3 q4 f1
  generalize w1.setCell _ _ = W1 at *
  have k2 := s2.below (bW.mono hB)
  refine (toBoxes_any B _ bs hb _ k2 (by have := m1.out; omega)).mono ?_
  rintro e w2 ⟨u2, rfl, o2, b2⟩
  have l2 := o2.lt
  replace h3 := three_later h3 b2
  replace o1' := own_later o1' b2
  replace bW := below_then bW b2 (Nat.le_refl _)
  have m2 : Hid (w1.heap.size ≤ w2.heap.size) := Lib.hid (by have := b2.size; omega)
  rw [z1] at o2 l2
  obtain ⟨p0, p1, p2, p3, p4⟩ := cells5 h3.1
  obtain ⟨q0, q1, q2, q3, q4⟩ := cells5 h3.2.2
  have f1 : w2.frozen? ⟨w.heap.size + 1 + 1, 2, none⟩ = false := frozen_row h3.2.2
  replace o1' := own_far o1' (p := ⟨w.heap.size + 1 + 1, 2, none⟩) (by simp) u2
  have o2' := own_far o2.row0 (p := ⟨w.heap.size + 1 + 1, 2, none⟩) (by have := m1.out; simp; omega) u2
  have z2 : (w2.setCell ⟨w.heap.size + 1 + 1, 2, none⟩ u2).heap.size = w2.heap.size := by simp [World.setCell]
  replace h3 := three_set (k := 2) (u := u2) h3
  simp only [List.setIfInBounds_toArray, List.set_cons_succ, List.set_cons_zero] at h3
  replace bW := bW.setCell (show w.heap.size ≤ (⟨w.heap.size + 1 + 1, 2, none⟩ : Addr).block by simp; omega) u2
  obtain ⟨A5, c5, rfl⟩ := o2.see.shape
  clear o2 k2 b2
  go_wp2_with fail
  clear p0 p1 p2 p3 p4 q0 q1 q2 q3 q4 f1
  generalize w2.setCell _ _ = W2 at *
  have k3 := s3.below (bW.mono hB)
  refine (toInts_any B _ rs hr _ k3 (by have := m1.out; have := m2.out; omega)).mono ?_
  rintro e w3 ⟨u3, rfl, o3, b3⟩
  have l3 := o3.lt
  replace h3 := three_later h3 b3
  replace o1' := own_later o1' b3
  replace o2' := own_later o2' b3
  replace bW := below_then bW b3 (Nat.le_refl _)
  rw [z2] at o3 l3
  have a12 := apart_lt (w := w3) (e := 2) (n := 0) (m := 0) (xs := []) (ys := []) (k := 0) (fun g h => (l1 g h).2) (fun g h => ⟨(l2 g h).1, (by have := (l2 g h).2; have := b3.size; omega : g < w3.heap.size)⟩)
  have a13 := apart_lt (w := w3) (e := 2) (n := 0) (m := 0) (xs := []) (ys := []) (k := 0) (fun g h => (l1 g h).2) (fun g h => ⟨Nat.le_trans m2.out (l3 g h).1, (l3 g h).2⟩)
  have a23 := apart_lt (w := w3) (e := 2) (n := 0) (m := 0) (xs := []) (ys := []) (k := 0) (fun g h => (l2 g h).2) (fun g h => l3 g h)
  obtain ⟨p0, p1, p2, p3, p4⟩ := cells5 h3.1
  obtain ⟨q0, q1, q2, q3, q4⟩ := cells5 h3.2.2
  have g3 : w3.frozen? ⟨w.heap.size + 1 + 1, 3, none⟩ = false := frozen_row h3.2.2
  have g4 : w3.frozen? ⟨w.heap.size + 1 + 1, 4, none⟩ = false := frozen_row h3.2.2
  have o3' := own_far (own_far o3 (p := ⟨w.heap.size + 1 + 1, 3, none⟩) (by have := m1.out; have := m2.out; simp; omega) u3) (p := ⟨w.heap.size + 1 + 1, 4, none⟩) (by have := m1.out; have := m2.out; simp; omega) (.int .i64 y)
  replace o1' := own_far (own_far o1' (p := ⟨w.heap.size + 1 + 1, 3, none⟩) (by simp) u3) (p := ⟨w.heap.size + 1 + 1, 4, none⟩) (by simp) (.int .i64 y)
  replace o2' := own_far (own_far o2' (p := ⟨w.heap.size + 1 + 1, 3, none⟩) (by have := m1.out; simp; omega) u3) (p := ⟨w.heap.size + 1 + 1, 4, none⟩) (by have := m1.out; simp; omega) (.int .i64 y)
  replace h3 := three_set (k := 4) (u := .int .i64 y) (three_set (k := 3) (u := u3) h3)
  simp only [List.setIfInBounds_toArray, List.set_cons_succ, List.set_cons_zero] at h3
  replace bW := (bW.setCell (show w.heap.size ≤ (⟨w.heap.size + 1 + 1, 3, none⟩ : Addr).block by simp; omega) u3).setCell (show w.heap.size ≤ (⟨w.heap.size + 1 + 1, 4, none⟩ : Addr).block by simp; omega) (.int .i64 y)
  obtain ⟨A6, c6, rfl⟩ := o3.see.shape
  clear o3 k3 b3
  go_upto_region 7 with fail
  clear p0 p1 p2 p3 p4 q0 q1 q2 q3 q4 g3 g4
  generalize (w3.setCell _ _).setCell _ _ = W3 at *
  obtain ⟨p0, p1, p2, p3, p4⟩ := cells5 h3.2.2
  have f0 := frozen_row (k := 0) h3.2.1
  have f1 := frozen_row (k := 1) h3.2.1
  have f2 := frozen_row (k := 2) h3.2.1
  have f3 := frozen_row (k := 3) h3.2.1
  have f4 := frozen_row (k := 4) h3.2.1
  obtain ⟨q0, q1, q2, q3, q4⟩ := cells5 h3.2.1
  have ZB := Lib.hid (set5_blk h3.2.1 (.int .i64 x) (.slice A4 zs.length c4) (.slice A5 bs.length c5) (.slice A6 rs.length c6) (.int .i64 y))
  have BB := Lib.hid (set5_below bW (show w.heap.size ≤ w.heap.size + 1 by omega) (.int .i64 x) (.slice A4 zs.length c4) (.slice A5 bs.length c5) (.slice A6 rs.length c6) (.int .i64 y))
  have O1 := Lib.hid (set5_own o1' (show w.heap.size + 1 < w.heap.size + 3 by omega) (.int .i64 x) (.slice A4 zs.length c4) (.slice A5 bs.length c5) (.slice A6 rs.length c6) (.int .i64 y))
  have O2 := Lib.hid (set5_own o2' (show w.heap.size + 1 < w1.heap.size by have := m1.out; omega) (.int .i64 x) (.slice A4 zs.length c4) (.slice A5 bs.length c5) (.slice A6 rs.length c6) (.int .i64 y))
  have O3 := Lib.hid (set5_own o3' (show w.heap.size + 1 < w2.heap.size by have := m1.out; have := m2.out; omega) (.int .i64 x) (.slice A4 zs.length c4) (.slice A5 bs.length c5) (.slice A6 rs.length c6) (.int .i64 y))
  unfold set5 at ZB BB O1 O2 O3
  clear o1' o2' o3' h3 bW s1 s2 s3
  go_wp2_with fail
  generalize World.setCell _ _ _ = W6 at *
  obtain ⟨y0, y1, y2, y3, y4⟩ := cells5 ZB.out
  refine bodyPost_ret (v := .agg #[.int .i64 x, .slice A4 zs.length c4, .slice A5 bs.length c5, .slice A6 rs.length c6, .int .i64 y]) (by simp [results, Tryz.results29, go_sem, y0, y1, y2, y3, y4]) rfl ⟨_, _, _, rfl, own_less O1.out (by omega), .of_row0 (own_less O2.out (by have := m1.out; omega)), own_less O3.out (by have := m1.out; have := m2.out; omega), a12, a13, a23, BB.out⟩

set_option maxHeartbeats 1000000 in
theorem eqCore_same (B : Nat) (x y : Int) (v1 v2 v3 u1 u2 u3 : Value) (zs : List Int) (bs : List Bx) (rs : List Int) (w : World) (hB : B ≤ w.heap.size)
    (s1 : SeeI w B v1 zs) (s2 : SeeBx w B v2 bs) (s3 : SeeI w B v3 rs) (t1 : SeeI w B u1 zs) (t2 : SeeBx w B u2 bs) (t3 : SeeI w B u3 rs) :
    Calls Tryz.prog 33 #[.agg #[.int .i64 x, v1, v2, v3, .int .i64 y], .agg #[.int .i64 x, u1, u2, u3, .int .i64 y]] w fun e w' => e = .returned (.bool true) ∧ Below w.heap.size w w' := by
  obtain ⟨A1, c1, rfl⟩ := s1.shape
  obtain ⟨A2, c2, rfl⟩ := s2.shape
  obtain ⟨A3, c3, rfl⟩ := s3.shape
  obtain ⟨A4, c4, rfl⟩ := t1.shape
  obtain ⟨A5, c5, rfl⟩ := t2.shape
  obtain ⟨A6, c6, rfl⟩ := t3.shape
  have H0 : Hid (∃ W, W = (w.alloc (.cells #[.int .i64 x, .slice A1 zs.length c1, .slice A2 bs.length c2, .slice A3 rs.length c3, .int .i64 y] 27)).alloc (.cells #[.int .i64 x, .slice A4 zs.length c4, .slice A5 bs.length c5, .slice A6 rs.length c6, .int .i64 y] 27) ∧
      W.heap[w.heap.size]? = some (.cells #[.int .i64 x, .slice A1 zs.length c1, .slice A2 bs.length c2, .slice A3 rs.length c3, .int .i64 y] 27 (0, 0)) ∧
      W.heap[w.heap.size + 1]? = some (.cells #[.int .i64 x, .slice A4 zs.length c4, .slice A5 bs.length c5, .slice A6 rs.length c6, .int .i64 y] 27 (0, 0)) ∧ Below w.heap.size w W) :=
    Lib.hid ⟨_, rfl, alloc_old (heap_alloc_new _ _) _, by have := heap_alloc_new (w.alloc (.cells #[.int .i64 x, .slice A1 zs.length c1, .slice A2 bs.length c2, .slice A3 rs.length c3, .int .i64 y] 27)) (.cells #[.int .i64 x, .slice A4 zs.length c4, .slice A5 bs.length c5, .slice A6 rs.length c6, .int .i64 y] 27); rwa [World.size_alloc] at this,
      ((Below.refl _ _).alloc (Nat.le_refl _) _).alloc (by simp) _⟩
  have hxx : (x != x) = false := by simp
  have hyy : (y != y) = false := by simp
  go_enter Tryz.func33, Tryz.ntmps33
  go_wp2_with fail
  obtain ⟨W, hW, h1, h2, bW⟩ := H0.out
  rw [← hW]
  clear hW H0
  replace s1 := s1.below (bW.mono hB)
  replace s2 := s2.below (bW.mono hB)
  replace s3 := s3.below (bW.mono hB)
  replace t1 := t1.below (bW.mono hB)
  replace t2 := t2.below (bW.mono hB)
  replace t3 := t3.below (bW.mono hB)
  have hBW := Nat.le_trans hB bW.size
  refine (eqInts_any B _ _ zs zs _ s1 t1).mono ?_
  rintro e w' ⟨rfl, n, rfl⟩
  rw [eqI_same]
  have C2 := Lib.hid (eqBoxes_any B _ _ bs bs (W.drewN n) hBW (s2.below (below_drewN (Below.refl _ _) n)) (t2.below (below_drewN (Below.refl _ _) n)))
  have B2 := below_drewN bW n
  have k1 : (W.drewN n).heap[w.heap.size]? = _ := h1
  have k2 : (W.drewN n).heap[w.heap.size + 1]? = _ := h2
  replace s3 := s3.drewN n
  replace t3 := t3.drewN n
  have hBW1 : B ≤ (W.drewN n).heap.size := hBW
  generalize W.drewN n = W1 at *
  obtain ⟨p0, p1, p2, p3, p4⟩ := cells5 k1
  obtain ⟨q0, q1, q2, q3, q4⟩ := cells5 k2
  clear h1 h2 s1 t1 s2 t2
  go_wp2_with fail
  refine C2.out.mono ?_
  rintro e w2 ⟨rfl, b2⟩
  rw [eqBx_same]
  clear C2 p0 p1 p2 p3 p4 q0 q1 q2 q3 q4
  obtain ⟨p0, p1, p2, p3, p4⟩ := cells5 (row_later k1 b2)
  obtain ⟨q0, q1, q2, q3, q4⟩ := cells5 (row_later k2 b2)
  have C3 := Lib.hid (eqInts_any w2.heap.size _ _ rs rs w2 ((s3.more (by omega)).below b2 |>.more b2.size) ((t3.more (by omega)).below b2 |>.more b2.size))
  replace B2 := below_then B2 b2 (Nat.le_refl _)
  clear k1 k2 s3 t3 b2
  go_wp2_with fail
  refine C3.out.mono ?_
  rintro e w3 ⟨rfl, m, rfl⟩
  rw [eqI_same]
  go_wp2_with fail
  go_ret
  exact ⟨rfl, below_drewN B2 m⟩

/-- Nothing is turned but in the blocks of S. -/
structure Only (S : Nat → Prop) (w w' : World) : Prop where
  os : w'.os = w.os
  tape : w'.tape = w.tape
  output : w'.output = w.output
  size : w.heap.size ≤ w'.heap.size
  block : ∀ k, k < w.heap.size → ¬ S k → w'.heap[k]? = w.heap[k]?
theorem Only.refl (S : Nat → Prop) (w : World) : Only S w w := ⟨rfl, rfl, rfl, Nat.le_refl _, fun _ _ _ => rfl⟩
theorem Only.trans {S : Nat → Prop} {a b c : World} (h : Only S a b) (k : Only S b c) : Only S a c :=
  ⟨k.os.trans h.os, k.tape.trans h.tape, k.output.trans h.output, Nat.le_trans h.size k.size, fun i hi hn => (k.block i (Nat.lt_of_lt_of_le hi h.size) hn).trans (h.block i hi hn)⟩
theorem Only.of_grown {S : Nat → Prop} {w w' : World} {row : Option Nat} (h : w.grownBy w' row) (hr : ∀ g, row = some g → S g) : Only S w w' :=
  ⟨h.os, h.tape, h.output, h.size, fun k hk hn => h.block k hk (fun e => hn (hr k e.symm))⟩
theorem Only.of_below {S : Nat → Prop} {w w' : World} (h : Below w.heap.size w w') : Only S w w' := ⟨h.os, h.tape, h.output, h.size, fun k hk _ => h.block k hk⟩
theorem Only.below {S : Nat → Prop} {B : Nat} {w w' : World} (h : Only S w w') (hB : B ≤ w.heap.size) (hS : ∀ k, S k → B ≤ k) : Below B w w' :=
  ⟨h.os, h.tape, h.output, h.size, fun k hk => h.block k (by omega) (fun hs => by have := hS k hs; omega)⟩
theorem Only.more {S T : Nat → Prop} {w w' : World} (h : Only S w w') (hS : ∀ k, S k → T k) : Only T w w' := ⟨h.os, h.tape, h.output, h.size, fun k hk hn => h.block k hk (fun q => hn (hS k q))⟩
theorem own_only {S : Nat → Prop} {w w' : World} {B k n : Nat} {e : TypeId} {v : Value} {xs : List Value} (h : w.ownsRow B e k v n xs) (hg : Only S w w') (hr : ∀ g, v.ownBlock = some g → ¬ S g) : w'.ownsRow B e k v n xs := by
  have hlt := World.ownsRow.lt h
  obtain ⟨hl, h⟩ := h
  rcases h with h | ⟨b, cap, cur, rfl, hb', hg', h⟩
  · exact ⟨hl, .inl h⟩
  · exact ⟨hl, .inr ⟨b, cap, cur, rfl, hb', by rw [hg.block b (hlt b rfl).2 (hr b rfl)]; exact hg', h⟩⟩

/-- Marked boxes. -/
def mkB (s j : Nat) : Bx := (mkT (s + j * 2), ((s + j * 2 + 1 : Nat) : Int))
def mkBs (s n : Nat) : List Bx := (List.range n).map fun j => mkB s j
theorem mkBs_length (s n : Nat) : (mkBs s n).length = n := by simp [mkBs]
theorem mkBs_at {s n k : Nat} (h : k < n) : (mkBs s n)[k]? = some (mkB s k) := by simp [mkBs, h]
theorem mkBs_succ (s k : Nat) : mkBs s (k + 1) = mkBs s k ++ [mkB s k] := by simp [mkBs, List.range_succ]

set_option maxHeartbeats 4000000 in
theorem markBoxes_any (B : Nat) (v : Value) (xs : List Bx) (s : Nat) (w : World) (h : OwnBx w B 92 v xs) (h1 : 1 ≤ s) (hs : s + xs.length * 2 ≤ 4194304) :
    Calls Tryz.prog 82 #[v, .int .i64 s] w fun r w' => r = .returned (.int .i64 ((s + xs.length * 2 : Nat) : Int)) ∧ OwnBx w' B 92 v (mkBs s xs.length) ∧ w.grownBy w' v.ownBlock := by
  obtain ⟨hl, h⟩ := h.row0
  rcases h with ⟨rfl, hn⟩ | ⟨g, cap, cur, rfl, hB, hg, hnc, hcm, hcs, ht⟩
  · obtain rfl : xs = [] := List.eq_nil_of_length_eq_zero hn
    go_enter Tryz.func82, Tryz.ntmps82
    go_wp2
    go_loop [1, 5] (fun i j => i = .int .i64 s ∧ j = .int .i64 0) (fun _ _ => 0)
    case atStart => exact ⟨rfl, rfl⟩
    case round =>
      obtain ⟨rfl, rfl⟩ := hrel
      go_wp2
      go_ret
      exact ⟨rfl, OwnN.nil _ _ _ _, World.grownBy.refl _ _⟩
  · generalize hzn : xs.length = n at *
    have Hc := Lib.hid hcs
    have hcn : n * 2 ≤ cur.size := by omega
    unfold maxLen at hcm
    clear hl ht hcs hzn
    have Hg := Lib.hid hg
    clear hg
    go_enter Tryz.func82, Tryz.ntmps82
    go_wp2_with fail
    go_loopw [1, 5] (fun m i wr => ∃ (k : Nat) (cur' : Array Value), k ≤ n ∧ i = .int .i64 k ∧ m = .int .i64 ((s + k * 2 : Nat) : Int) ∧ wr.heap[g]? = some (.cells cur' 92 (0, 0)) ∧ cur'.size = cur.size ∧
      cur'.toList.take (k * 2) = ((mkBs s k).map boxV).flatten ∧ w.grownBy wr (some g)) (fun _ i _ => n - (intOf i).toNat)
    case atStart => exact ⟨0, cur, Nat.zero_le _, rfl, rfl, Hg.out, rfl, by simp [mkBs], World.grownBy.refl _ _⟩
    case round =>
      obtain ⟨k, cur', hk, rfl, rfl, hh, hsz, htk, hgr⟩ := hrel
      have HH := Lib.hid hh
      have HZ := Lib.hid hsz
      have HT := Lib.hid htk
      clear hh hsz htk
      by_cases hlt : k < n
      · have hk' : k * 2 + 1 < cur'.size := by have := HZ.out; omega
        go_wp2_with fail
        refine (markText_any (s + k * 2) (by omega) (by omega) _).mono ?_
        rintro e w2 ⟨rfl, b2⟩
        generalize htx : mkT (s + k * 2) = tx
        have HTX := Lib.hid htx
        clear htx
        have HH3 : Hid (w2.heap[g]? = some (.cells cur' 92 (0, 0))) := Lib.hid ((b2.block g (heap_lt HH.out)).trans HH.out)
        have hc0 : w2.cell? ⟨g, k * 2, none⟩ = some (cur'[k * 2]'(by omega)) := by rw [cell_of_row w2 g (k * 2) cur' _ (0, 0) HH3.out]; exact Array.getElem?_eq_getElem (by omega)
        have hc1 : w2.cell? ⟨g, k * 2 + 1, none⟩ = some (cur'[k * 2 + 1]'(by omega)) := by rw [cell_of_row w2 g (k * 2 + 1) cur' _ (0, 0) HH3.out]; exact Array.getElem?_eq_getElem (by omega)
        have hf0 : w2.frozen? ⟨g, k * 2, none⟩ = false := frozen_row HH3.out
        have hf1 : w2.frozen? ⟨g, k * 2 + 1, none⟩ = false := frozen_row HH3.out
        have HG3 : Hid (w.grownBy w2 (some g)) := Lib.hid ⟨b2.os.trans hgr.os, b2.tape.trans hgr.tape, b2.output.trans hgr.output, Nat.le_trans hgr.size b2.size, fun j hj hne => (b2.block j (Nat.lt_of_lt_of_le hj hgr.size)).trans (hgr.block j hj hne)⟩
        clear b2 hgr
        go_wp2
        go_roundw
        case rel => exact ⟨k + 1, _, by omega, by go_num, by go_num, heap_set (heap_set HH3.out _) _, by simp only [Array.size_setIfInBounds]; exact HZ.out, by rw [mkBs_succ, List.map_append, List.flatten_append, ← HT.out]; rw [show ((List.map boxV [mkB s k]).flatten) = [str tx, .int .i64 ((s + k * 2 + 1 : Nat) : Int)] by simp [mkB, HTX.out]]; exact take_two rfl hk', grown_set (grown_set HG3.out _) _⟩
        case measure => simp [intOf]; omega
      · obtain rfl : n = k := by omega
        go_wp2
        go_ret
        refine ⟨by go_num, ⟨⟨by rw [flat_len (boxes_two _), List.length_map, mkBs_length], .inr ⟨g, cap, cur', by rw [List.length_map, mkBs_length], hB, HH.out, by rw [List.length_map, mkBs_length]; exact hnc, by unfold maxLen; exact hcm, by rw [HZ.out]; exact Hc.out, ?_⟩⟩, boxes_two _⟩, hgr⟩
        rw [List.length_map, mkBs_length]
        exact HT.out

set_option maxHeartbeats 4000000 in
theorem heldBoxes_any (B : Nat) (v : Value) (n s : Nat) (w : World) (h : SeeBx w B v (mkBs s n)) (hB : B ≤ w.heap.size) (h1 : 1 ≤ s) (hs : s + n * 2 ≤ 4194304) :
    Calls Tryz.prog 128 #[v, .int .i64 s] w fun r w' => r = .returned (.int .i64 ((s + n * 2 : Nat) : Int)) ∧ Below w.heap.size w w' := by
  obtain ⟨A, c, e⟩ := h.shape
  rw [mkBs_length] at e
  subst e
  go_enter Tryz.func128, Tryz.ntmps128
  go_wp2_with fail
  go_loopw [1, 5] (fun m i wr => ∃ k : Nat, k ≤ n ∧ i = .int .i64 k ∧ m = .int .i64 ((s + k * 2 : Nat) : Int) ∧ Below w.heap.size w wr) (fun _ i _ => n - (intOf i).toNat)
  case atStart => exact ⟨0, Nat.zero_le _, rfl, rfl, Below.refl _ _⟩
  case round =>
    obtain ⟨k, hk, rfl, rfl, hbw⟩ := hrel
    by_cases hlt : k < n
    · have H := Lib.hid h
      obtain ⟨g, o, rfl, -, hc0, hc1⟩ := (h.below (hbw.mono hB)).at_ (mkBs_at hlt)
      have hc2 := Lib.hid (fun W (b : Below wr.heap.size wr W) => ((h.below (hbw.mono hB)).below (b.mono (Nat.le_trans hB hbw.size))).at_ (mkBs_at hlt))
      unfold mkB at hc0 hc1
      dsimp only at hc0 hc1
      have T1 := Lib.hid (fun W => markText_any (s + k * 2) (by omega) (by omega) W)
      generalize mkT (s + k * 2) = tx at T1 hc0
      have hcl := later_cell hc0
      have hcv := later_cell hc1
      have hf : (!(tx == tx)) = false := by simp
      have hq0 : (((s + k * 2 + 1 : Nat) : Int) != ((s : Int) + (k : Int) * 2 + 1)) = false := by simp
      clear hc0 h hc2 hc1
      go_wp2_with fail
      refine region_later (by kernel_rfl) (by kernel_rfl) ?_
      repeat (go_big_quiet_step (first | (go_at_call 83; exact later_call (T1.out _))))
      refine wpQuiet_nil ?_
      rintro w2 ⟨i2, rfl⟩
      have hv2 := hcv i2
      have hbk := i2.old
      clear hcl hcv
      go_wp2_with fail
      go_roundw
      case rel => exact ⟨k + 1, by omega, by go_num, by go_num, below_then hbw hbk (Nat.le_refl _)⟩
      case measure => simp [intOf]; omega
    · obtain rfl : n = k := by omega
      go_wp2_with fail
      go_ret
      exact ⟨by go_num, hbw⟩

/-- Three rows that a call made, no two of them one. -/
structure OwnC (w : World) (B : Nat) (u1 u2 u3 : Value) (zs : List Int) (bs : List Bx) (rs : List Int) : Prop where
  o1 : OwnI w B 2 u1 zs
  o2 : OwnBx w B 92 u2 bs
  o3 : OwnI w B 2 u3 rs
  a12 : apartV u1 u2
  a13 : apartV u1 u3
  a23 : apartV u2 u3

/-- Its blocks. -/
def rowsC (u1 u2 u3 : Value) (g : Nat) : Prop := u1.ownBlock = some g ∨ u2.ownBlock = some g ∨ u3.ownBlock = some g
theorem OwnC.later {w w' : World} {B : Nat} {u1 u2 u3 : Value} {zs : List Int} {bs : List Bx} {rs : List Int} (h : OwnC w B u1 u2 u3 zs bs rs) (b : Below w.heap.size w w') : OwnC w' B u1 u2 u3 zs bs rs :=
  ⟨h.o1.later b, h.o2.later b, h.o3.later b, h.a12, h.a13, h.a23⟩
theorem OwnC.less {w : World} {B B' : Nat} {u1 u2 u3 : Value} {zs : List Int} {bs : List Bx} {rs : List Int} (h : OwnC w B u1 u2 u3 zs bs rs) (b : B' ≤ B) : OwnC w B' u1 u2 u3 zs bs rs :=
  ⟨h.o1.less b, OwnN.less h.o2 b, h.o3.less b, h.a12, h.a13, h.a23⟩
theorem OwnC.only {S : Nat → Prop} {w w' : World} {B : Nat} {u1 u2 u3 : Value} {zs : List Int} {bs : List Bx} {rs : List Int} (h : OwnC w B u1 u2 u3 zs bs rs) (b : Only S w w') (hS : ∀ g, rowsC u1 u2 u3 g → ¬ S g) : OwnC w' B u1 u2 u3 zs bs rs :=
  ⟨own_only h.o1 b fun g hg => hS g (.inl hg), .of_row0 (own_only h.o2.row0 b fun g hg => hS g (.inr (.inl hg))), own_only h.o3 b fun g hg => hS g (.inr (.inr hg)), h.a12, h.a13, h.a23⟩
theorem OwnC.lt {w : World} {B : Nat} {u1 u2 u3 : Value} {zs : List Int} {bs : List Bx} {rs : List Int} (h : OwnC w B u1 u2 u3 zs bs rs) : ∀ g, rowsC u1 u2 u3 g → B ≤ g ∧ g < w.heap.size := fun g hg => by
  rcases hg with q | q | q
  · exact h.o1.lt g q
  · exact OwnN.lt h.o2 g q
  · exact h.o3.lt g q
/-- How many marks there are in a core. -/
def nC (zs : List Int) (bs : List Bx) (rs : List Int) : Nat := zs.length + bs.length * 2 + rs.length

set_option maxHeartbeats 2000000 in
theorem markCore_any (B : Nat) (x y : Int) (u1 u2 u3 : Value) (zs : List Int) (bs : List Bx) (rs : List Int) (s : Nat) (w : World) (h : OwnC w B u1 u2 u3 zs bs rs) (h1 : 1 ≤ s) (hs : s + nC zs bs rs ≤ 4194304) :
    Calls Tryz.prog 36 #[.agg #[.int .i64 x, u1, u2, u3, .int .i64 y], .int .i64 s] w fun r w' => r = .returned (.int .i64 ((s + nC zs bs rs : Nat) : Int)) ∧
      OwnC w' B u1 u2 u3 (marks s zs.length) (mkBs (s + zs.length) bs.length) (marks (s + zs.length + bs.length * 2) rs.length) ∧ Only (rowsC u1 u2 u3) w w' := by
  unfold nC at hs
  have HN : Hid (s + zs.length + bs.length * 2 + rs.length = s + nC zs bs rs) := Lib.hid (by unfold nC; omega)
  have B0 : Only (rowsC u1 u2 u3) w (w.alloc (.cells #[.int .i64 x, u1, u2, u3, .int .i64 y] 27)) := Only.of_below (below_new _ _)
  have R0 := heap_alloc_new w (.cells #[.int .i64 x, u1, u2, u3, .int .i64 y] 27)
  have h0 := h.later (below_new w (.cells #[.int .i64 x, u1, u2, u3, .int .i64 y] 27))
  have hw : ∀ g, rowsC u1 u2 u3 g → g < w.heap.size := fun g hg => (h.lt g hg).2
  obtain ⟨A1, c1, rfl⟩ := h.o1.see.shape
  obtain ⟨A2, c2, rfl⟩ := h.o2.see.shape
  obtain ⟨A3, c3, rfl⟩ := h.o3.see.shape
  clear h
  go_enter Tryz.func36, Tryz.ntmps36
  go_wp2_with fail
  generalize w.alloc _ = W at *
  refine (markInts_any B _ _ zs s _ h0.o1 (by omega)).mono ?_
  rintro e w1 ⟨rfl, m1, g1⟩
  have n1 := Only.of_grown (S := rowsC (.slice A1 zs.length c1) (.slice A2 bs.length c2) (.slice A3 rs.length c3)) g1 (fun g hg => .inl hg)
  have q2 := OwnBx.of_row0 (own_only (S := fun g => Value.ownBlock (.slice A1 zs.length c1) = some g) h0.o2.row0 (Only.of_grown g1 fun g hg => hg) (fun g hg k => h0.a12 g k hg))
  have q3 : OwnI w1 B 2 (.slice A3 rs.length c3) rs := own_only (S := fun g => Value.ownBlock (.slice A1 zs.length c1) = some g) h0.o3 (Only.of_grown g1 fun g hg => hg) (fun g hg k => h0.a13 g k hg)
  have R1 : w1.heap[w.heap.size]? = _ := (n1.block _ (heap_lt R0) (fun q => Nat.lt_irrefl _ (hw _ q))).trans R0
  replace B0 := B0.trans n1
  obtain ⟨p0, p1, p2, p3, p4⟩ := cells5 R1
  clear n1 g1 R0
  go_wp2_with fail
  refine (markBoxes_any B _ bs (s + zs.length) _ q2 (by omega) (by omega)).mono ?_
  rintro e w2 ⟨rfl, m2, g2⟩
  have n2 := Only.of_grown (S := rowsC (.slice A1 zs.length c1) (.slice A2 bs.length c2) (.slice A3 rs.length c3)) g2 (fun g hg => .inr (.inl hg))
  replace m1 : OwnI w2 B 2 (.slice A1 zs.length c1) (marks s zs.length) := own_only (S := fun g => Value.ownBlock (.slice A2 bs.length c2) = some g) m1 (Only.of_grown g2 fun g hg => hg) (fun g hg k => h0.a12 g hg k)
  replace q3 : OwnI w2 B 2 (.slice A3 rs.length c3) rs := own_only (S := fun g => Value.ownBlock (.slice A2 bs.length c2) = some g) q3 (Only.of_grown g2 fun g hg => hg) (fun g hg k => h0.a23 g k hg)
  have R2 : w2.heap[w.heap.size]? = _ := (n2.block _ (heap_lt R1) (fun q => Nat.lt_irrefl _ (hw _ q))).trans R1
  replace B0 := B0.trans n2
  clear p0 p1 p2 p3 p4 q2 n2 g2 R1
  obtain ⟨p0, p1, p2, p3, p4⟩ := cells5 R2
  go_wp2_with fail
  refine (markInts_any B _ _ rs (s + zs.length + bs.length * 2) _ q3 (by omega)).mono ?_
  rintro e w3 ⟨rfl, m3, g3⟩
  have n3 := Only.of_grown (S := rowsC (.slice A1 zs.length c1) (.slice A2 bs.length c2) (.slice A3 rs.length c3)) g3 (fun g hg => .inr (.inr hg))
  replace m1 : OwnI w3 B 2 (.slice A1 zs.length c1) (marks s zs.length) := own_only (S := fun g => Value.ownBlock (.slice A3 rs.length c3) = some g) m1 (Only.of_grown g3 fun g hg => hg) (fun g hg k => h0.a13 g hg k)
  replace m2 := OwnBx.of_row0 (by have := own_only (S := fun g => Value.ownBlock (.slice A3 rs.length c3) = some g) m2.row0 (Only.of_grown g3 fun g hg => hg) (fun g hg k => h0.a23 g hg k); exact this)
  replace B0 := B0.trans n3
  go_wp2_with fail
  go_ret
  exact ⟨ret_num (by have := HN.out; omega), ⟨m1, m2, m3, h0.a12, h0.a13, h0.a23⟩, B0⟩

set_option maxHeartbeats 2000000 in
theorem heldCore_any (B : Nat) (x y : Int) (u1 u2 u3 : Value) (n1 n2 n3 s : Nat) (w : World) (s1 : SeeI w B u1 (marks s n1)) (s2 : SeeBx w B u2 (mkBs (s + n1) n2)) (s3 : SeeI w B u3 (marks (s + n1 + n2 * 2) n3)) (hB : B ≤ w.heap.size) (h1 : 1 ≤ s) (hs : s + n1 + n2 * 2 + n3 ≤ 4194304) :
    Calls Tryz.prog 84 #[.agg #[.int .i64 x, u1, u2, u3, .int .i64 y], .int .i64 s] w fun r w' => r = .returned (.int .i64 ((s + n1 + n2 * 2 + n3 : Nat) : Int)) ∧ Below w.heap.size w w' := by
  obtain ⟨A1, c1, e1⟩ := s1.shape
  obtain ⟨A2, c2, e2⟩ := s2.shape
  obtain ⟨A3, c3, e3⟩ := s3.shape
  rw [marks_length] at e1 e3
  rw [mkBs_length] at e2
  subst e1 e2 e3
  have B0 := below_new w (.cells #[.int .i64 x, .slice A1 n1 c1, .slice A2 n2 c2, .slice A3 n3 c3, .int .i64 y] 27)
  have R0 := heap_alloc_new w (.cells #[.int .i64 x, .slice A1 n1 c1, .slice A2 n2 c2, .slice A3 n3 c3, .int .i64 y] 27)
  go_enter Tryz.func84, Tryz.ntmps84
  go_wp2_with fail
  generalize w.alloc _ = W at *
  replace s1 := s1.below (B0.mono hB)
  replace s2 := s2.below (B0.mono hB)
  replace s3 := s3.below (B0.mono hB)
  have hBW := Nat.le_trans hB B0.size
  refine (heldInts_any B _ s n1 _ s1 (by omega)).mono ?_
  rintro e w' ⟨rfl, rfl⟩
  obtain ⟨p0, p1, p2, p3, p4⟩ := cells5 R0
  have C2 := Lib.hid (heldBoxes_any B _ n2 (s + n1) _ s2 hBW (by omega) (by omega))
  have q1 : ¬ (s : Int) + (n1 : Int) < 0 := by omega
  clear s1 s2
  go_wp2_with fail
  refine C2.out.mono ?_
  rintro e w2 ⟨rfl, b2⟩
  have s3' := s3.below (b2.mono hBW)
  have R2 := row_later R0 b2
  replace B0 := below_then B0 b2 (Nat.le_refl _)
  clear p0 p1 p2 p3 p4 C2 b2 R0 s3
  obtain ⟨p0, p1, p2, p3, p4⟩ := cells5 R2
  have q2 : ¬ (s : Int) + (n1 : Int) + (n2 : Int) * 2 < 0 := by omega
  have C3 := Lib.hid (heldInts_any B _ (s + n1 + n2 * 2) n3 _ s3' (by omega))
  clear s3'
  go_wp2_with fail
  refine C3.out.mono ?_
  rintro e w3 ⟨rfl, rfl⟩
  have q3 : ¬ (s : Int) + (n1 : Int) + (n2 : Int) * 2 + (n3 : Int) < 0 := by omega
  go_wp2_with fail
  go_ret
  exact ⟨rfl, B0⟩

end Go.Proofs.YtigcbegeaikfcaaGreatDoor
