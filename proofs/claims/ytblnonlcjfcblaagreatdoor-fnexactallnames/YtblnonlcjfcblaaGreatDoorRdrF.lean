/- Layer 7 (plays): the program's playRead: a list is read to its end; its names and gates in order, each once. Condition: the listed variables hold what the program's text lays (Vars). -/
import Derived.Test.YtblnonlcjfcblaaGreatDoorRdrE
import Derived.Test.YtblnonlcjfcblaaGreatDoorRiseI
namespace Go.Proofs.YtblnonlcjfcblaaGreatDoor
open Go.RowKit Go.Sort
set_option linter.unusedVariables false

def RisS (B : Nat) (w : World) (v : Value) (xs : List Txt) (e : Ending) (w' : World) : Prop := ∃ v', e = .returned v' ∧ OwnV w' B 9 v' (xs.map str) ∧ w.grownBy w' v.ownBlock

set_option maxHeartbeats 1000000 in
theorem sortS_any (B g c : Nat) (xs : List Txt) (w : World) (h : OwnV w B 9 (.slice (some ⟨g, 0, none⟩) xs.length c) (xs.map str)) (hn : xs.length ≤ 4194304) :
    Calls Tryz.prog 115 #[.slice (some ⟨g, 0, none⟩) xs.length c] w fun e w' => e = .returned (.tuple #[]) ∧ OwnV w' B 9 (.slice (some ⟨g, 0, none⟩) xs.length c) ((xs.mergeSort fun x y => decide (x ≤ y)).map str) ∧ w.grownBy w' (some g) := by
  cases hx : xs with
  | nil =>
    subst hx
    exact (Tryz.slices_Sort_string_none (some ⟨g, 0, none⟩) c w).mono fun e w' ⟨he, hw⟩ => ⟨he, by rw [hw, List.mergeSort_nil]; exact h, by rw [hw]; exact World.grownBy.refl _ _⟩
  | cons x0 r =>
    rw [← hx]
    clear hx
    have hl := h
    obtain ⟨_, hl⟩ := hl
    rcases hl with ⟨q, _⟩ | ⟨g2, c2, cur, q, hb, hg, h1, h2, h3, h4⟩
    · cases q
    injection q with q1 q2 q3
    injection q1 with q1
    injection q1 with q1
    subst q1 q3
    rw [List.length_map] at h1 h4
    refine (Tryz.slices_Sort_string g 0 c xs w (holds_of_block hg (by simpa using h4)) (Array.getElem?_eq_some_iff.1 hg).1 (by omega)).mono ?_
    rintro e w' ⟨rfl, n, os, rfl⟩
    refine ⟨rfl, ?_, grownBy_sorted _⟩
    have := ownsRow_sorted (w := w) (n := n) (os := os) (ss := xs) (ts := xs.mergeSort fun x y => decide (x ≤ y)) (by simp) hb hg h1 h2 h3
    unfold OwnV
    rw [List.length_map, List.length_mergeSort]
    exact this

set_option maxHeartbeats 1000000 in
theorem compactS_any (B g n c : Nat) (xs : List Txt) (hxn : xs.length = n) (w : World) (h : OwnV w B 9 (.slice (some ⟨g, 0, none⟩) n c) (xs.map str)) (hn : xs.length ≤ 4194304) :
    Calls Tryz.prog 116 #[.slice (some ⟨g, 0, none⟩) n c] w fun e w' => e = .returned (.slice (some ⟨g, 0, none⟩) (Lib.compact xs).length c) ∧ OwnV w' B 9 (.slice (some ⟨g, 0, none⟩) (Lib.compact xs).length c) ((Lib.compact xs).map str) ∧ w.grownBy w' (some g) := by
  subst hxn
  have hl := h
  obtain ⟨_, hl⟩ := hl
  rcases hl with ⟨q, _⟩ | ⟨g2, c2, cur, q, hb, hg, h1, h2, h3, h4⟩
  · cases q
  injection q with q1 q2 q3
  injection q1 with q1
  injection q1 with q1
  subst q1 q3
  rw [List.length_map] at h1 h4
  have hcl := Lib.compact_length_le xs
  refine (Tryz.slices_Compact_string g 0 c xs w (holds_of_block hg (by simpa using h4)) (by omega) h1).mono ?_
  rintro e w' ⟨rfl, q, rfl⟩
  have hg0 := grownBy_sorted (w := w) (g := g) (n := q) (os := #[]) (Lib.compact xs ++ List.replicate (xs.length - (Lib.compact xs).length) []).toArray
  rw [grow_empty] at hg0
  refine ⟨rfl, ?_, hg0⟩
  have := ownsRow_sorted (w := w) (n := q) (os := #[]) (ss := xs) (ts := Lib.compact xs ++ List.replicate (xs.length - (Lib.compact xs).length) []) (by simp; omega) hb hg h1 h2 h3
  rw [grow_empty] at this
  have h5 := row_cut this (j := (Lib.compact xs).length) hcl
  rw [List.map_append, List.take_left' (by rw [List.length_map])] at h5
  unfold OwnV
  rw [List.length_map]
  exact h5

set_option maxHeartbeats 1000000 in
theorem risingS_any (B : Nat) (v : Value) (xs : List Txt) (w : World) (h : OwnV w B 9 v (xs.map str)) (hn : xs.length ≤ 4194304) :
    Calls Tryz.prog 78 #[v] w (RisS B w v (putAll xs)) := by
  have HSP := Lib.hid (sort_put xs)
  rcases h.2 with ⟨hv, h0⟩ | ⟨g, c, cur, hv, _⟩
  · subst hv
    have hgs : xs = [] := List.eq_nil_of_length_eq_zero (by simpa using h0)
    subst hgs
    exact (rising_none w).mono fun e w' ⟨he, hw⟩ => ⟨_, he, by rw [hw]; exact OwnV.nil _ _ _, by rw [hw]; exact World.grownBy.refl _ _⟩
  · rw [List.length_map] at hv
    subst hv
    have HS1 := Lib.hid (sortS_any B g c xs w h hn)
    clear h
    generalize putAll xs = R at HSP ⊢
    go_enter Tryz.func78, Tryz.ntmps78
    go_wp2_with fail
    refine HS1.out.mono ?_
    rintro e w4 ⟨rfl, o4, b4⟩
    have HS2 := Lib.hid (compactS_any B g xs.length c (xs.mergeSort fun x y => decide (x ≤ y)) (by simp) w4 o4 (by simp; omega))
    rw [HSP.out] at HS2
    go_wp2_with fail
    refine HS2.out.mono ?_
    rintro e w5 ⟨rfl, o5, b5⟩
    go_wp2_with fail
    go_ret
    exact ⟨_, rfl, o5, grown_on b4 b5⟩

abbrev rd0 : Array Value := #[.slice none 0 0, .int .i64 0, .slice none 0 0, .slice none 0 0, .slice none 0 0, .int .i64 0]
/-- What playRead hands back. -/
def PlayOut (w : World) (ss : List Txt) (e : Ending) (w' : World) : Prop :=
  Below w.heap.size w w' ∧ ∃ (As : Option Addr) (ns cs : Nat) (a : Int) (vn vg : Value) (Ao : Option Addr) (no co : Nat) (d : Int), e = .returned (.tuple #[.agg #[.slice As ns cs, .int .i64 a, vn, vg, .slice Ao no co, .int .i64 d], .bool (playB ss)]) ∧ OwnV w' w.heap.size 9 vn ((namesP ss).map str) ∧ OwnI w' w.heap.size 2 vg (gatesP ss)

/-- Six cells of a block, stored one by one. -/
def set6 (W : World) (N : Nat) (x0 x1 x2 x3 x4 x5 : Value) : World := (((((W.setCell ⟨N, 0, none⟩ x0).setCell ⟨N, 1, none⟩ x1).setCell ⟨N, 2, none⟩ x2).setCell ⟨N, 3, none⟩ x3).setCell ⟨N, 4, none⟩ x4).setCell ⟨N, 5, none⟩ x5
theorem set6_blk {W : World} {N : Nat} {t : TypeId} {y0 y1 y2 y3 y4 y5 : Value} (h : W.heap[N]? = some (.cells #[y0, y1, y2, y3, y4, y5] t (0, 0))) (x0 x1 x2 x3 x4 x5 : Value) : (set6 W N x0 x1 x2 x3 x4 x5).heap[N]? = some (.cells #[x0, x1, x2, x3, x4, x5] t (0, 0)) := by
  unfold set6
  rw [heap_set (heap_set (heap_set (heap_set (heap_set (heap_set h x0) x1) x2) x3) x4) x5]
  simp
theorem set6_below {w W : World} {N : Nat} (h : Below N w W) (x0 x1 x2 x3 x4 x5 : Value) : Below N w (set6 W N x0 x1 x2 x3 x4 x5) :=
  (((((h.setCell (Nat.le_refl _) _).setCell (Nat.le_refl _) _).setCell (Nat.le_refl _) _).setCell (Nat.le_refl _) _).setCell (Nat.le_refl _) _).setCell (Nat.le_refl _) _
theorem set6_own {W : World} {N B : Nat} {e : TypeId} {v : Value} {n : Nat} {xs : List Value} (h : W.ownsRow B e 1 v n xs) (hN : N < B) (x0 x1 x2 x3 x4 x5 : Value) : (set6 W N x0 x1 x2 x3 x4 x5).ownsRow B e 1 v n xs :=
  ownsRow_setCell_below (ownsRow_setCell_below (ownsRow_setCell_below (ownsRow_setCell_below (ownsRow_setCell_below (ownsRow_setCell_below h hN _) hN _) hN _) hN _) hN _) hN _
theorem rd_cells {W : World} {N : Nat} {t : TypeId} {x0 x1 x2 x3 x4 x5 : Value} (h : W.heap[N]? = some (.cells #[x0, x1, x2, x3, x4, x5] t (0, 0))) : W.cell? ⟨N, 0, none⟩ = some x0 ∧ W.cell? ⟨N, 1, none⟩ = some x1 ∧ W.cell? ⟨N, 2, none⟩ = some x2 ∧ W.cell? ⟨N, 3, none⟩ = some x3 ∧ W.cell? ⟨N, 4, none⟩ = some x4 ∧ W.cell? ⟨N, 5, none⟩ = some x5 :=
  ⟨by rw [cell_of_row _ _ 0 _ _ (0, 0) h]; rfl, by rw [cell_of_row _ _ 1 _ _ (0, 0) h]; rfl, by rw [cell_of_row _ _ 2 _ _ (0, 0) h]; rfl, by rw [cell_of_row _ _ 3 _ _ (0, 0) h]; rfl, by rw [cell_of_row _ _ 4 _ _ (0, 0) h]; rfl, by rw [cell_of_row _ _ 5 _ _ (0, 0) h]; rfl⟩
theorem less_own {w : World} {B B' n : Nat} {e : TypeId} {v : Value} {xs : List Value} (h : w.ownsRow B e 1 v n xs) (hB : B' ≤ B) : w.ownsRow B' e 1 v n xs := by
  obtain ⟨hl, h⟩ := h
  rcases h with h | ⟨g, cap, cur, h1, h2, h3⟩
  · exact ⟨hl, .inl h⟩
  · exact ⟨hl, .inr ⟨g, cap, cur, h1, Nat.le_trans hB h2, h3⟩⟩
/-- At the head of playRead's loop. -/
structure PR (B N : Nat) (sv : Value) (ss : List Txt) (w : World) (k D : Nat) (a : List Txt) (gg : List Nat) (W : World) : Prop where
  zed : W.heap[N]? = some (.cells rd0 58 (0, 0))
  old : Below N w W
  deeds : Deeds ss 0 k D
  lin : Lin ss 0 k a gg
  hk : k ≤ ss.length
  rd : ∃ vn vg vo, Rd B (N + 1) sv ss W (k : Int) vn vg vo a (gg.map Int.ofNat) [] D
theorem PR.later {B N : Nat} {sv : Value} {ss : List Txt} {w : World} {k D : Nat} {a : List Txt} {gg : List Nat} {W W' : World} (h : PR B N sv ss w k D a gg W) (b : Below W.heap.size W W') (hN : N ≤ w.heap.size) : PR B N sv ss w k D a gg W' := by
  obtain ⟨vn, vg, vo, hr⟩ := h.rd
  have := hr.lt
  exact ⟨(b.block N (by omega)).trans h.zed, h.old.trans (b.mono (by omega)), h.deeds, h.lin, h.hk, vn, vg, vo, hr.later b⟩
/-- Behind the names and the gates have been put in order. -/
def Fin (N : Nat) (sv : Value) (ss : List Txt) (w : World) (k : Int) (D : Nat) (a : List Txt) (gg : List Nat) (W : World) : Prop :=
  Below N w W ∧ W.heap[N]? = some (.cells rd0 58 (0, 0)) ∧ ∃ vn vg Ao no co, W.heap[N + 1]? = some (.cells #[sv, .int .i64 k, vn, vg, .slice Ao no co, .int .i64 (D : Int)] 58 (0, 0)) ∧ OwnV W (N + 1 + 1) 9 vn ((putAll a).map str) ∧ OwnI W (N + 1 + 1) 2 vg (riseG gg)
theorem fin_mk {N : Nat} {sv : Value} {ss : List Txt} {w : World} {k : Int} {D : Nat} {a : List Txt} {gg : List Nat} {W : World} {vS vI vn vg : Value} {Ao : Option Addr} {no co : Nat} (bB : Below N w W) (hz : W.heap[N]? = some (.cells rd0 58 (0, 0)))
    (hb : W.heap[N + 1]? = some (.cells #[sv, .int .i64 k, vn, vg, .slice Ao no co, .int .i64 (D : Int)] 58 (0, 0))) (oS : OwnV W (N + 1 + 1) 9 vS ((putAll a).map str)) (oI : OwnI W (N + 1 + 1) 2 vI (riseG gg)) :
    Fin N sv ss w k D a gg ((W.setCell ⟨N + 1, 2, none⟩ vS).setCell ⟨N + 1, 3, none⟩ vI) := by
  refine ⟨(bB.setCell (by simp) _).setCell (by simp) _, ?_, vS, vI, Ao, no, co, ?_, (oS.far (by simp) _).far (by simp) _, ownsRow_setCell_below (ownsRow_setCell_below oI (by simp) _) (by simp) _⟩
  · rw [Below.heap_setCell _ _ _ _ (by simp), Below.heap_setCell _ _ _ _ (by simp)]; exact hz
  · rw [heap_set (heap_set hb vS) vI]; simp
/-- The reader's block and the result's, in the midst of putting in order. -/
structure Half (N : Nat) (sv : Value) (w : World) (k : Int) (D : Nat) (vn vg vo : Value) (W : World) : Prop where
  old : Below N w W
  zed : W.heap[N]? = some (.cells rd0 58 (0, 0))
  blk : W.heap[N + 1]? = some (.cells #[sv, .int .i64 k, vn, vg, vo, .int .i64 (D : Int)] 58 (0, 0))
theorem Half.lt {N : Nat} {sv : Value} {w : World} {k : Int} {D : Nat} {vn vg vo : Value} {W : World} (h : Half N sv w k D vn vg vo W) : N + 1 < W.heap.size := (Array.getElem?_eq_some_iff.1 h.blk).1
theorem Half.c2 {N : Nat} {sv : Value} {w : World} {k : Int} {D : Nat} {vn vg vo : Value} {W : World} (h : Half N sv w k D vn vg vo W) : W.cell? ⟨N + 1, 2, none⟩ = some vn := (rd_cells h.blk).2.2.1
theorem Half.c3 {N : Nat} {sv : Value} {w : World} {k : Int} {D : Nat} {vn vg vo : Value} {W : World} (h : Half N sv w k D vn vg vo W) : W.cell? ⟨N + 1, 3, none⟩ = some vg := (rd_cells h.blk).2.2.2.1
theorem Half.fz {N : Nat} {sv : Value} {w : World} {k : Int} {D : Nat} {vn vg vo : Value} {W : World} (h : Half N sv w k D vn vg vo W) (j : Nat) : W.frozen? ⟨N + 1, j, none⟩ = false := frozen_row h.blk
theorem Half.grown {N : Nat} {sv : Value} {w : World} {k : Int} {D : Nat} {vn vg vo : Value} {W W' : World} {row : Option Nat} (h : Half N sv w k D vn vg vo W) (hg : W.grownBy W' row) (hlow : ∀ j, row = some j → N + 1 + 1 ≤ j) : Half N sv w k D vn vg vo W' := by
  have hl := h.lt
  exact ⟨h.old.grown hg (by omega) (fun j hj => by have := hlow j hj; omega), (hg.block N (by omega) (fun q => by have := hlow N q.symm; omega)).trans h.zed, (hg.block (N + 1) hl (fun q => by have := hlow (N + 1) q.symm; omega)).trans h.blk⟩
def SPost (N : Nat) (sv : Value) (w : World) (k : Int) (D : Nat) (vn vg vo vx : Value) (xs : List Txt) (zs : List Int) (e : Ending) (W : World) : Prop :=
  ∃ A n c, e = .returned (.slice A n c) ∧ Half N sv w k D vn vg vo W ∧ OwnV W (N + 1 + 1) 9 (.slice A n c) (xs.map str) ∧ OwnI W (N + 1 + 1) 2 vx zs
def IPost (N : Nat) (sv : Value) (w : World) (k : Int) (D : Nat) (vn vg vo vx : Value) (xs : List Txt) (zs : List Int) (e : Ending) (W : World) : Prop :=
  ∃ A n c, e = .returned (.slice A n c) ∧ Half N sv w k D vn vg vo W ∧ OwnI W (N + 1 + 1) 2 (.slice A n c) zs ∧ OwnV W (N + 1 + 1) 9 vx (xs.map str)
theorem halfS (N : Nat) (sv : Value) (w : World) (k : Int) (D : Nat) (vn vg vo vx : Value) (a : List Txt) (zs : List Int) (W : World) (h : Half N sv w k D vn vg vo W) (hs : OwnV W (N + 1 + 1) 9 vn (a.map str)) (hi : OwnI W (N + 1 + 1) 2 vx zs) (hn : a.length ≤ 4194304) :
    Calls Tryz.prog 78 #[vn] W (SPost N sv w k D vn vg vo vx (putAll a) zs) := by
  refine (risingS_any (N + 1 + 1) vn a W hs hn).mono ?_
  rintro e W' ⟨v', rfl, o, g⟩
  obtain ⟨A, c, e⟩ := row_shape o
  subst e
  exact ⟨A, _, c, rfl, h.grown g (fun j hj => (hs.lt j hj).1), o, World.ownsRow.kept hi g (rows_apart hi hs (by decide))⟩
theorem halfI (N : Nat) (sv : Value) (w : World) (k : Int) (D : Nat) (vn vg vo vx : Value) (a : List Txt) (gg : List Nat) (W : World) (h : Half N sv w k D vn vg vo W) (h4 : ∀ x ∈ gg, x < 4) (hi : OwnI W (N + 1 + 1) 2 vg (gg.map Int.ofNat)) (hs : OwnV W (N + 1 + 1) 9 vx (a.map str)) (hn : gg.length ≤ 4194304) :
    Calls Tryz.prog 87 #[vg] W (IPost N sv w k D vn vg vo vx a (riseG gg)) := by
  refine (risingI_any (N + 1 + 1) vg gg W h4 hi h.lt hn).mono ?_
  rintro e W' ⟨v', rfl, o, g⟩
  obtain ⟨A, c, e⟩ := row_shape o
  subst e
  exact ⟨A, _, c, rfl, h.grown g (fun j hj => (hi.lt j hj).1), o, World.ownsRow.kept hs g (rows_apart hs hi (by decide))⟩
theorem no_play {ss : List Txt} {k D : Nat} (h : Deeds ss 0 k D) (hk : ¬ k = ss.length) (hn : ∀ e E, ¬ One ss k e E) : playB ss = false :=
  play_no fun D2 h2 => h.stuck h2 (end_head ss) hk (fun e E q => absurd q (hn e E))
theorem deep_play {ss : List Txt} {D : Nat} (h : Deeds ss 0 ss.length D) (hd : 5 < D) : playB ss = false :=
  play_no fun D2 h2 => by
    obtain ⟨_, e⟩ := h.det (end_head ss) _ _ h2 (end_head ss)
    omega

set_option maxRecDepth 100000 in
set_option maxHeartbeats 4000000 in
theorem playRead_any (B : Nat) (v : Value) (ss : List Txt) (w : World) (V : Vars w) (h : SeeV w B v (ss.map str)) (hB : B ≤ w.heap.size) (hS : shortS ss) (hn : ss.length ≤ 1048576) :
    Calls Tryz.prog 53 #[v] w (PlayOut w ss) := by
  obtain ⟨A, c, e⟩ := strs_shape h
  subst e
  have HV : Hid (∀ w', Below w.heap.size w w' → Vars w') := Lib.hid (fun w' b => V.below b)
  clear V
  by_cases hl : 100 < ss.length
  · have HP := Lib.hid (play_long hl)
    go_enter Tryz.func53, Tryz.ntmps53
    go_wp2_with fail
    refine bodyPost_ret (v := .tuple #[.agg rd0, .bool false]) (by simp [results, Tryz.results53, go_sem]) rfl ⟨((Below.refl _ w).alloc (Nat.le_refl _) _).alloc (by simp) _, ?_⟩
    rw [HP.out, names_no7 HP.out, gates_no7 HP.out]
    exact ⟨_, _, _, _, _, _, _, _, _, _, rfl, OwnV.nil _ _ _, OwnI.nil _ _ _⟩
  · have P0 : PR B w.heap.size (.slice A ss.length c) ss w 0 0 [] [] ((w.alloc (.cells rd0 58)).alloc (.cells #[.slice A ss.length c, .int .i64 0, .slice none 0 0, .slice none 0 0, .slice none 0 0, .int .i64 0] 58)) := by
      have b1 : Below w.heap.size w ((w.alloc (.cells rd0 58)).alloc (.cells #[.slice A ss.length c, .int .i64 0, .slice none 0 0, .slice none 0 0, .slice none 0 0, .int .i64 0] 58)) := ((Below.refl _ w).alloc (Nat.le_refl _) _).alloc (by simp) _
      refine ⟨?_, b1, .nil 0, .nil 0, Nat.zero_le _, _, _, _, ?_, by omega, h.below (b1.mono hB), OwnV.nil _ _ _, OwnI.nil _ _ _, OwnV.nil _ _ _⟩
      · rw [Below.heap_alloc _ _ _ (by simp)]
        exact heap_alloc_new _ _
      · have q := heap_alloc_new (w.alloc (.cells rd0 58)) (.cells #[.slice A ss.length c, .int .i64 0, .slice none 0 0, .slice none 0 0, .slice none 0 0, .int .i64 0] 58)
        rw [World.size_alloc] at q
        exact q
    go_enter Tryz.func53, Tryz.ntmps53
    go_wp2_with fail
    generalize World.alloc _ _ = W0 at P0 ⊢
    clear h
    go_loopw [11] (fun _ wr => ∃ k D a gg, PR B w.heap.size (.slice A ss.length c) ss w k D a gg wr) (fun _ wr => ss.length - atOf (w.heap.size + 1) wr)
    case atStart => exact ⟨_, _, _, _, P0⟩
    case round =>
      clear P0
      obtain ⟨k, D, a, gg, hP⟩ := hrel
      obtain ⟨vn, vg, vo, hR⟩ := hP.rd
      have hk := hP.hk
      have hal := lin_alen hP.lin
      have hgl := lin_glen hP.lin
      by_cases hlt : k < ss.length
      · have HD : Hid (decide (ss.length ≤ k) = false) := Lib.hid (by simp; omega)
        have HAE := Lib.hid (atEnd_any B _ _ ss wr k vn vg vo _ _ _ _ hR hn)
        have m0 : Hid (atOf (w.heap.size + 1) wr = k) := Lib.hid (atOf_eq hR.c1)
        rw [HD.out] at HAE
        have HP := Lib.hid hP
        clear hP hR
        go_wp2_with fail
        refine HAE.out.mono ?_
        rintro e w1 ⟨rfl, b1⟩
        have P1 := HP.out.later b1 (Nat.le_refl _)
        obtain ⟨vn1, vg1, vo1, R1⟩ := P1.rd
        have HT := Lib.hid (takesDeed_any B _ _ ss w1 k vn1 vg1 vo1 a (gg.map Int.ofNat) D (fun w' b => HV.out w' (P1.old.trans (b.mono (by omega)))) R1 hn hS hk (by omega) (by rw [List.length_map]; omega))
        have HP1 := Lib.hid P1
        have lt1 := R1.lt
        clear P1 R1 HP HAE
        go_wp2_with fail
        refine HT.out.mono ?_
        rintro e w2 (⟨rfl, b2, hno⟩ | ⟨rfl, b2, k2, D2, a2, g2, vn2, vg2, vo2, hO, hL2, R2⟩)
        · have HPN := Lib.hid (no_play HP1.out.deeds (by omega) hno)
          have zb := (b2.block w.heap.size (by omega)).trans HP1.out.zed
          have B2 := Lib.hid (HP1.out.old.trans (b2.mono (show w.heap.size ≤ w.heap.size + 1 by omega)))
          clear hno b2
          obtain ⟨z0, z1, z2, z3, z4, z5⟩ := rd_cells zb
          have f0 := frozen_row (k := 0) zb
          have f1 := frozen_row (k := 1) zb
          have f2 := frozen_row (k := 2) zb
          have f3 := frozen_row (k := 3) zb
          have f4 := frozen_row (k := 4) zb
          have f5 := frozen_row (k := 5) zb
          have ZB := Lib.hid (set6_blk zb (.slice none 0 0) (.int .i64 0) (.slice none 0 0) (.slice none 0 0) (.slice none 0 0) (.int .i64 0))
          have BB := Lib.hid (set6_below B2.out (.slice none 0 0) (.int .i64 0) (.slice none 0 0) (.slice none 0 0) (.slice none 0 0) (.int .i64 0))
          unfold set6 at ZB BB
          clear zb
          go_wp2_with fail
          generalize World.setCell _ _ _ = W6 at ZB BB ⊢
          obtain ⟨y0, y1, y2, y3, y4, y5⟩ := rd_cells ZB.out
          refine bodyPost_ret (v := .tuple #[.agg rd0, .bool false]) (by simp [results, Tryz.results53, go_sem, y0, y1, y2, y3, y4, y5]) rfl ⟨BB.out, ?_⟩
          rw [HPN.out, names_no7 HPN.out, gates_no7 HPN.out]
          exact ⟨_, _, _, _, _, _, _, _, _, _, rfl, OwnV.nil _ _ _, OwnI.nil _ _ _⟩
        · have HOL := hO.lt
          have S2 : Hid (PR B w.heap.size (.slice A ss.length c) ss w k2 (max D D2) (a ++ a2) (gg ++ g2) w2) := Lib.hid ⟨(b2.block w.heap.size (by omega)).trans HP1.out.zed, HP1.out.old.trans (b2.mono (by omega)), HP1.out.deeds.snoc hO, HP1.out.lin.trans hL2, HOL.2, vn2, vg2, vo2, by rw [List.map_append]; exact R2⟩
          have m1 : Hid (atOf (w.heap.size + 1) w2 = k2) := Lib.hid (atOf_eq R2.c1)
          clear R2 hO hL2 b2
          go_wp2_with fail
          go_roundw
          case rel => exact ⟨_, _, _, _, S2.out⟩
          case measure => simp only [m0.out, m1.out]; omega
      · obtain rfl : k = ss.length := by omega
        have HD : Hid (decide (ss.length ≤ ss.length) = true) := Lib.hid (by simp)
        have HAE := Lib.hid (atEnd_any B _ _ ss wr ss.length vn vg vo _ _ _ _ hR hn)
        rw [HD.out] at HAE
        have HP := Lib.hid hP
        clear hP hR
        go_wp2_with fail
        refine HAE.out.mono ?_
        rintro e w1 ⟨rfl, b1⟩
        have P1 := HP.out.later b1 (Nat.le_refl _)
        clear HP HAE b1
        obtain ⟨vn1, vg1, vo1, R1⟩ := P1.rd
        obtain ⟨An, cn, en⟩ := strs_shape R1.names.see
        subst en
        obtain ⟨Ag, cg, eg⟩ := R1.gates.see.shape
        subst eg
        obtain ⟨Ao, co, eo⟩ := row_shape R1.opens
        subst eo
        have h4 := Lib.hid (lin_gates P1.lin)
        have c2 := R1.c2
        have c3 := R1.c3
        have lt1 := R1.lt
        have HH : Half w.heap.size (.slice A ss.length c) w (ss.length : Int) D (.slice An a.length cn) (.slice Ag (gg.map Int.ofNat).length cg) (.slice Ao ((([] : List Bool).reverse.map Value.bool).length) co) w1.drew := ⟨P1.old.drew, P1.zed, R1.blk⟩
        have HNd : OwnV w1.drew (w.heap.size + 1 + 1) 9 (.slice An a.length cn) (a.map str) := R1.names
        have HGd : OwnI w1.drew (w.heap.size + 1 + 1) 2 (.slice Ag (gg.map Int.ofNat).length cg) (gg.map Int.ofNat) := R1.gates
        rw [List.length_map] at HH HGd c3
        have HCS := Lib.hid (halfS _ _ _ _ _ _ _ _ _ a _ w1.drew HH HNd HGd (by omega))
        have HCI := Lib.hid (halfI _ _ _ _ _ _ _ _ _ a gg w1.drew HH h4.out HGd HNd (by omega))
        have HPL := Lib.hid P1.lin
        have HPD := Lib.hid P1.deeds
        clear R1 P1 HH HNd HGd
        go_upto_region 7 with fail
        go_cut [16] from 16 (fun s wc => Fin w.heap.size (.slice A ss.length c) ss w (ss.length : Int) D a gg wc)
        case first =>
          go_region_law (first
            | (go_simp; refine (halfS _ _ _ _ _ _ _ _ _ a _ wI hI.out xI.out oI.out (by omega)).mono ?_; rintro e wU ⟨AU, NU, cU, rfl, hU, oU, xU⟩; have HF := Lib.hid (fin_mk (ss := ss) hU.old hU.zed hU.blk oU xU); have q2 := hU.c2; have q3 := hU.c3; have p2 := hU.fz 2; have p3 := hU.fz 3; clear hU oU xU; dsimp only)
            | (go_simp; refine (halfI _ _ _ _ _ _ _ _ _ (putAll a) gg wS hS.out h4.out xS.out oS.out (by omega)).mono ?_; rintro e wU ⟨AU, NU, cU, rfl, hU, oU, xU⟩; have HF := Lib.hid (fin_mk (ss := ss) hU.old hU.zed hU.blk xU oU); have q2 := hU.c2; have q3 := hU.c3; have p2 := hU.fz 2; have p3 := hU.fz 3; clear hU oU xU; dsimp only)
            | (go_simp; refine HCS.out.mono ?_; rintro e wS ⟨AS, NS, cS, rfl, hS, oS, xS⟩; have d2 := hS.c2; have d3 := hS.c3; have hS := Lib.hid hS; have oS := Lib.hid oS; have xS := Lib.hid xS; dsimp only)
            | (go_simp; refine HCI.out.mono ?_; rintro e wI ⟨AI, NI, cI, rfl, hI, oI, xI⟩; have d2 := hI.c2; have d3 := hI.c3; have hI := Lib.hid hI; have oI := Lib.hid oI; have xI := Lib.hid xI; dsimp only))
          all_goals (
            go_wp2_with fail
            go_meet
            case rel => exact HF.out)
        case rest =>
          obtain ⟨bF, zb, vn2, vg2, Ao2, no2, co2, rb, oN, oG⟩ := hcut
          have bF := Lib.hid bF
          obtain ⟨An2, cn2, en⟩ := strs_shape oN.see
          subst en
          obtain ⟨r0, r1, r2, r3, r4, r5⟩ := rd_cells rb
          clear c2 c3 HCS HCI
          by_cases hD : 5 < D
          · have HPN := Lib.hid (deep_play HPD.out hD)
            have hd5 : decide ((D : Int) ≤ 5) = false := by simp; omega
            have hd6 : (5 : Int) < (D : Int) := by omega
            obtain ⟨z0, z1, z2, z3, z4, z5⟩ := rd_cells zb
            have f0 := frozen_row (k := 0) zb
            have f1 := frozen_row (k := 1) zb
            have f2 := frozen_row (k := 2) zb
            have f3 := frozen_row (k := 3) zb
            have f4 := frozen_row (k := 4) zb
            have f5 := frozen_row (k := 5) zb
            have ZB := Lib.hid (set6_blk zb (.slice none 0 0) (.int .i64 0) (.slice none 0 0) (.slice none 0 0) (.slice none 0 0) (.int .i64 0))
            have BB := Lib.hid (set6_below bF.out (.slice none 0 0) (.int .i64 0) (.slice none 0 0) (.slice none 0 0) (.slice none 0 0) (.int .i64 0))
            unfold set6 at ZB BB
            clear zb rb oN oG
            go_wp2_with fail
            generalize World.setCell _ _ _ = W6 at ZB BB ⊢
            obtain ⟨y0, y1, y2, y3, y4, y5⟩ := rd_cells ZB.out
            refine bodyPost_ret (v := .tuple #[.agg rd0, .bool false]) (by simp [results, Tryz.results53, go_sem, y0, y1, y2, y3, y4, y5]) rfl ⟨BB.out, ?_⟩
            rw [HPN.out, names_no7 HPN.out, gates_no7 HPN.out]
            exact ⟨_, _, _, _, _, _, _, _, _, _, rfl, OwnV.nil _ _ _, OwnI.nil _ _ _⟩
          · have HPY := Lib.hid (play_yes (by omega) HPD.out (by omega) HPL.out)
            have hd6 : ¬ (5 : Int) < (D : Int) := by omega
            obtain ⟨m, HM⟩ : ∃ m, Hid ((putAll a).length = m) := ⟨_, Lib.hid rfl⟩
            rw [HM.out] at HPY r2 rb oN
            by_cases hm : m ≤ 12
            · have HPT : Hid (playB ss = true) := Lib.hid (by rw [HPY.out]; simp; omega)
              have HNN := Lib.hid (names_yes7 HPT.out HPL.out)
              have HGG := Lib.hid (gates_yes7 HPT.out HPL.out)
              have hm6 : ¬ (12 : Int) < (m : Int) := by omega
              obtain ⟨z0, z1, z2, z3, z4, z5⟩ := rd_cells zb
              have f0 := frozen_row (k := 0) zb
              have f1 := frozen_row (k := 1) zb
              have f2 := frozen_row (k := 2) zb
              have f3 := frozen_row (k := 3) zb
              have f4 := frozen_row (k := 4) zb
              have f5 := frozen_row (k := 5) zb
              have ZB := Lib.hid (set6_blk zb (.slice A ss.length c) (.int .i64 (ss.length : Int)) (.slice An2 m cn2) vg2 (.slice Ao2 no2 co2) (.int .i64 (D : Int)))
              have BB := Lib.hid (set6_below bF.out (.slice A ss.length c) (.int .i64 (ss.length : Int)) (.slice An2 m cn2) vg2 (.slice Ao2 no2 co2) (.int .i64 (D : Int)))
              have ON := Lib.hid (set6_own oN (show w.heap.size < w.heap.size + 1 + 1 by omega) (.slice A ss.length c) (.int .i64 (ss.length : Int)) (.slice An2 m cn2) vg2 (.slice Ao2 no2 co2) (.int .i64 (D : Int)))
              have OG := Lib.hid (set6_own oG (show w.heap.size < w.heap.size + 1 + 1 by omega) (.slice A ss.length c) (.int .i64 (ss.length : Int)) (.slice An2 m cn2) vg2 (.slice Ao2 no2 co2) (.int .i64 (D : Int)))
              unfold set6 at ZB BB ON OG
              obtain ⟨Ag2, cg2, eg⟩ := oG.see.shape
              subst eg
              clear zb rb oN oG
              go_wp2_with fail
              generalize World.setCell _ _ _ = W6 at ZB BB ON OG ⊢
              obtain ⟨y0, y1, y2, y3, y4, y5⟩ := rd_cells ZB.out
              refine bodyPost_ret (v := .tuple #[.agg #[.slice A ss.length c, .int .i64 (ss.length : Int), .slice An2 m cn2, .slice Ag2 (riseG gg).length cg2, .slice Ao2 no2 co2, .int .i64 (D : Int)], .bool true]) (by simp [results, Tryz.results53, go_sem, y0, y1, y2, y3, y4, y5]) rfl ⟨BB.out, ?_⟩
              rw [HPT.out, HNN.out, HGG.out]
              exact ⟨_, _, _, _, _, _, _, _, _, _, rfl, OwnV.less ON.out (by omega), less_own OG.out (by omega)⟩
            · have HPN : Hid (playB ss = false) := Lib.hid (by rw [HPY.out]; simp; omega)
              have hm6 : (12 : Int) < (m : Int) := by omega
              obtain ⟨z0, z1, z2, z3, z4, z5⟩ := rd_cells zb
              have f0 := frozen_row (k := 0) zb
              have f1 := frozen_row (k := 1) zb
              have f2 := frozen_row (k := 2) zb
              have f3 := frozen_row (k := 3) zb
              have f4 := frozen_row (k := 4) zb
              have f5 := frozen_row (k := 5) zb
              have ZB := Lib.hid (set6_blk zb (.slice none 0 0) (.int .i64 0) (.slice none 0 0) (.slice none 0 0) (.slice none 0 0) (.int .i64 0))
              have BB := Lib.hid (set6_below bF.out (.slice none 0 0) (.int .i64 0) (.slice none 0 0) (.slice none 0 0) (.slice none 0 0) (.int .i64 0))
              unfold set6 at ZB BB
              clear zb rb oN oG
              go_wp2_with fail
              generalize World.setCell _ _ _ = W6 at ZB BB ⊢
              obtain ⟨y0, y1, y2, y3, y4, y5⟩ := rd_cells ZB.out
              refine bodyPost_ret (v := .tuple #[.agg rd0, .bool false]) (by simp [results, Tryz.results53, go_sem, y0, y1, y2, y3, y4, y5]) rfl ⟨BB.out, ?_⟩
              rw [HPN.out, names_no7 HPN.out, gates_no7 HPN.out]
              exact ⟨_, _, _, _, _, _, _, _, _, _, rfl, OwnV.nil _ _ _, OwnI.nil _ _ _⟩

end Go.Proofs.YtblnonlcjfcblaaGreatDoor
