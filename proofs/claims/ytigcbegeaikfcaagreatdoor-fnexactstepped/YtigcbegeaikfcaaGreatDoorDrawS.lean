/- The draws of layer 6: sums. Only bounds are kept of what is drawn; the cursor goes on; nothing else that was there turns. -/
import Derived.Test.YtigcbegeaikfcaaGreatDoorWordD
import Derived.Test.YtigcbegeaikfcaaGreatDoorNamS
namespace Go.Proofs.YtigcbegeaikfcaaGreatDoor
open Go.RowKit
set_option linter.unusedVariables false

theorem grown_far {w wr w1 : World} {g : Nat} {row : Option Nat} (h : w.grownBy wr (some g)) (k : wr.grownBy w1 row) (hr : ∀ j, row = some j → w.heap.size ≤ j) : w.grownBy w1 (some g) :=
  ⟨k.os.trans h.os, k.tape.trans h.tape, k.output.trans h.output, Nat.le_trans h.size k.size, fun i hi hne => (k.block i (Nat.lt_of_lt_of_le hi h.size) (fun e => by have := hr i e.symm; omega)).trans (h.block i hi hne)⟩
theorem Cur.apart {wr w1 : World} {g : Nat} {row : Option Nat} (h : Cur wr g) (k : wr.grownBy w1 row) (hr : ∀ j, row = some j → g < j) : Cur w1 g := by
  have hlt := h.lt
  obtain ⟨A, n, c, i, x, hh, hs, hi⟩ := h
  refine ⟨A, n, c, i, x, (k.block g hlt (fun e => by have := hr g e.symm; omega)).trans hh, hs.keep fun p hp => ?_, hi⟩
  exact World.cell?_of_block (k.block p.block (by omega) (fun e => by have := hr p.block e.symm; omega))
theorem OwnV.one (w : World) (e : TypeId) (x : Value) : OwnV (w.alloc (.cells #[x] e)) w.heap.size e (.slice (some ⟨w.heap.size, 0, none⟩) 1 1) [x] :=
  ⟨rfl, .inr ⟨w.heap.size, 1, #[x], rfl, Nat.le_refl _, heap_alloc_new _ _, Nat.le_refl _, by unfold maxLen; omega, rfl, rfl⟩⟩
/-- No text is longer than m. -/
def upTo (m : Nat) (xs : List Txt) : Prop := ∀ s ∈ xs, s.length ≤ m
/-- Texts drawn. -/
def TxsOut (m : Nat) (w : World) (g : Nat) (e : Ending) (w' : World) : Prop := ∃ g' c, ∃ xs : List Txt, e = .returned (.slice (some ⟨g', 0, none⟩) xs.length c) ∧ OwnV w' w.heap.size 9 (.slice (some ⟨g', 0, none⟩) xs.length c) (xs.map str) ∧ xs.length ≤ m ∧ upTo 30 xs ∧ Cur w' g ∧ w.grownBy w' (some g)

set_option maxHeartbeats 4000000 in
theorem l6DrawSum_leaf (g : Nat) (d : Int) (w : World) (hc : Cur w g) (hd : d ≤ 0) : Calls Tryz.prog 178 #[.pointer (some ⟨g, 0, none⟩), .int .i64 d] w (TxsOut 1 w g) := by
  go_enter Tryz.func178, Tryz.ntmps178
  go_wp2_with fail
  refine (l1Once_any g _ (by decide) (by decide) _ hc).mono ?_
  rintro e w1 ⟨b, rfl, c1, g1⟩
  have h1 := g1.size
  cases b
  · go_wp2_with fail
    refine (l5DrawName_any g _ c1).mono ?_
    rintro e w2 ⟨t, rfl, ht, c2, g2⟩
    have h2 := g2.size
    replace g2 := grown_trans g1 g2
    go_wp2_with fail
    go_ret
    exact ⟨_, _, [t], rfl, (OwnV.one w2 9 (str t)).less (by omega), by simp, by intro s hs; simp at hs; subst hs; omega, c2.alloc _, grown_far g2 (World.grownBy_alloc w2 _ none) (by simp)⟩
  · go_wp2_with fail
    refine (l5Draw_any g _ c1).mono ?_
    rintro e w2 ⟨x, rfl, hx0, hx1, c2, g2⟩
    have h2 := g2.size
    replace g2 := grown_trans g1 g2
    go_wp2_with fail
    refine (l1Int_any _ (by omega) (by omega) _).mono ?_
    rintro e w3 ⟨rfl, b3⟩
    have hl := Lib.itoa_length_le x (by omega) (by omega)
    generalize Lib.itoa x = t at hl ⊢
    have h3 := b3.size
    have c3 := c2.later b3
    have g3 := grown_trans g2 (grown_of_below b3 _)
    go_wp2_with fail
    go_ret
    exact ⟨_, _, [t], rfl, (OwnV.one w3 9 (str t)).less (by omega), by simp, by intro s hs; simp at hs; subst hs; omega, c3.alloc _, grown_far g3 (World.grownBy_alloc w3 _ none) (by simp)⟩

/-- An append of texts that are read, under draws. -/
theorem draw_more {w W w1 : World} {g gv k c m : Nat} {v' : Value} {xs ys : List Txt} (hg : g < w.heap.size) (ho : OwnV W w.heap.size 9 (.slice (some ⟨gv, 0, none⟩) k c) (xs.map str)) (hc : Cur W g) (hw : w.grownBy W (some g)) (hm : ys.length = m)
    (h1 : w1.ownsRow w.heap.size 9 1 v' ((xs.map str).length + m) (xs.map str ++ ys.map str)) (hgr : W.grownBy w1 (some gv)) (hnil : v' = .slice none 0 0 ↔ Value.slice (some ⟨gv, 0, none⟩) k c = .slice none 0 0 ∧ m = 0) :
    ∃ g4 c4, v' = .slice (some ⟨g4, 0, none⟩) (xs ++ ys).length c4 ∧ OwnV w1 w.heap.size 9 (.slice (some ⟨g4, 0, none⟩) (xs ++ ys).length c4) ((xs ++ ys).map str) ∧ Cur w1 g ∧ w.grownBy w1 (some g) := by
  have hr : w.heap.size ≤ gv := (ho.lt gv rfl).1
  have hoo : OwnV w1 w.heap.size 9 v' ((xs ++ ys).map str) := by
    unfold OwnV
    rw [List.length_map, List.length_append, hm, List.map_append]
    rw [List.length_map] at h1
    exact h1
  obtain ⟨g4, c4, rfl⟩ := hoo.shape1 (fun q => by have := (hnil.1 q).1; cases this)
  rw [List.length_map] at hoo ⊢
  exact ⟨g4, c4, rfl, hoo, hc.apart hgr (fun j hj => by cases hj; omega), grown_far hw hgr (fun j hj => by cases hj; exact hr)⟩
theorem ret_len {g n m c : Nat} (h : n = m) : Ending.returned (.slice (some ⟨g, 0, none⟩) n c) = .returned (.slice (some ⟨g, 0, none⟩) m c) := by rw [h]
theorem upTo_app {m : Nat} {xs ys : List Txt} (h : upTo m xs) (k : upTo m ys) : upTo m (xs ++ ys) := fun s hs => by
  rcases List.mem_append.1 hs with q | q
  · exact h s q
  · exact k s q
theorem news_of {W : World} {B g n c : Nat} {ys : List Txt} (h : SeeV W B (.slice (some ⟨g, 0, none⟩) n c) (ys.map str)) : ∀ j u, (ys.map str)[j]? = some u → W.cell? ((⟨g, 0, none⟩ : Addr).add j) = some u := fun j u hu => by
  obtain ⟨g', o', e, _, hc⟩ := h.at_ hu
  cases e
  rw [add_at]
  exact hc

set_option maxHeartbeats 8000000 in
set_option maxRecDepth 100000 in
theorem l6DrawSum_more (n m : Nat) (hm : m ≤ 1000) (ih : ∀ (g : Nat) (w : World), Cur w g → Calls Tryz.prog 178 #[.pointer (some ⟨g, 0, none⟩), .int .i64 (n : Int)] w (TxsOut m w g)) (hn : n ≤ 100) (g : Nat) (w : World) (hc : Cur w g) :
    Calls Tryz.prog 178 #[.pointer (some ⟨g, 0, none⟩), .int .i64 ((n + 1 : Nat) : Int)] w (TxsOut (m + m + 1) w g) := by
  obtain ⟨i0, hi, hz0, hz1, hz2⟩ := info_parts Tryz.infoStr
  have hgw := hc.lt
  have hd : decide ((n : Int) + 1 ≤ 0) = false := decide_eq_false (by omega)
  go_enter Tryz.func178, Tryz.ntmps178
  go_wp2_with fail
  refine (l1Once_any g _ (by decide) (by decide) _ hc).mono ?_
  rintro e w1 ⟨b, rfl, c1, g1⟩
  have h1 := g1.size
  cases b
  · go_wp2_with fail
    refine (l1Below_any g _ (by decide) (by decide) _ (c1.alloc _)).mono ?_
    rintro e w2 ⟨y, rfl, hy0, hy1, c2, g2⟩
    obtain ⟨z, hz1', hz⟩ := txt_at (k := y.toNat) ((g2.block w1.heap.size (by simp) (by simp; omega)).trans (heap_alloc_new w1 _)) (by decide +kernel) (by simp; omega)
    have h2 := g2.size
    rw [World.size_alloc] at h2
    replace g2 := grown_trans g1 (grown_of_alloc _ g2)
    clear g1 c1
    have o2 := (OwnV.one w2 9 (str z)).less (show w.heap.size ≤ w2.heap.size by omega)
    have c2' := c2.alloc (.cells #[str z] 9)
    have g2' := grown_far g2 (World.grownBy_alloc w2 (.cells #[str z] 9) none) (by simp)
    have h2' : w.heap.size ≤ (w2.alloc (.cells #[str z] 9)).heap.size := by simp; omega
    go_wp2_with fail
    generalize w2.alloc (.cells #[str z] 9) = W2 at o2 c2' g2' h2' ⊢
    generalize w2.heap.size = b2 at o2 ⊢
    clear c2 g2 hz h2
    refine (ih g _ c2').mono ?_
    rintro e w3 ⟨gx, cx, xs, rfl, ox, lx, ux, c3, g3⟩
    have o3 : OwnV w3 w.heap.size 9 (.slice (some ⟨b2, 0, none⟩) 1 1) ([z].map str) := o2.apart g3 (fun j hj => by cases hj; exact hgw)
    have h3 : w.heap.size ≤ w3.heap.size := Nat.le_trans h2' g3.size
    replace g3 := grown_trans g2' g3
    clear o2 c2' g2' h2'
    go_wp2_with first
      |
(at_builtin; refine wpList_append_own _ rfl _ _ 48 rfl w.heap.size 9 i0 (.string ⟨#[]⟩) 1 16 Tryz.underlying48 hi hz0 hz1 hz2 rfl (by decide) _ _ _ rfl o3 ⟨gx, 0, none⟩ xs.length cx (xs.map str) rfl (by simp) (news_of ox.see) (fun u hu => str_one u _ hu) (by unfold maxLen; simp; omega) (by simp; omega) (by omega) ?_; intro v4 w4 hown4 hgr4 hnil4; obtain ⟨g4, k4, rfl, o4, c4, q4⟩ := draw_more hgw o3 c3 g3 rfl hown4 hgr4 hnil4)
    have h4 := Nat.le_trans h3 hgr4.size
    have hz30 : upTo 30 [z] := by intro s hs; simp at hs; subst hs; omega
    have u4 := upTo_app hz30 ux
    have l4 : ([z] ++ xs).length ≤ m + 1 := by simp; omega
    clear o3 c3 g3 ox hown4 hgr4 hnil4
    refine (ih g _ c4).mono ?_
    rintro e w5 ⟨gy, cy, ys, rfl, oy, ly, uy, c5, g5⟩
    have o5 := o4.apart g5 (fun j hj => by cases hj; exact hgw)
    have h5 := Nat.le_trans h4 g5.size
    replace g5 := grown_trans q4 g5
    clear o4 c4 q4
    go_wp2_with first
      |
(at_builtin; refine wpList_append_own _ rfl _ _ 48 rfl w.heap.size 9 i0 (.string ⟨#[]⟩) 1 16 Tryz.underlying48 hi hz0 hz1 hz2 rfl (by decide) _ _ _ rfl o5 ⟨gy, 0, none⟩ ys.length cy (ys.map str) rfl (by simp) (news_of oy.see) (fun u hu => str_one u _ hu) (by unfold maxLen; simp; omega) (by simp; omega) (by omega) ?_; intro v4 w4 hown4 hgr4 hnil4; obtain ⟨g6, k6, rfl, o6, c6, q6⟩ := draw_more hgw o5 c5 g5 rfl hown4 hgr4 hnil4)
    go_ret
    exact ⟨g6, k6, ([z] ++ xs) ++ ys, ret_len (by simp; try omega), o6, by rw [List.length_append]; omega, upTo_app u4 uy, c6, q6⟩
  · go_wp2_with fail
    refine (l1Once_any g _ (by decide) (by decide) _ c1).mono ?_
    rintro e w2 ⟨b, rfl, c2, g2⟩
    have h2 := g2.size
    replace g2 := grown_trans g1 g2
    clear g1 c1
    cases b
    · go_wp2_with fail
      refine (l5DrawName_any g _ c2).mono ?_
      rintro e w3 ⟨t, rfl, ht, c3, g3⟩
      have h3 := g3.size
      replace g3 := grown_trans g2 g3
      go_wp2_with fail
      go_ret
      exact ⟨_, _, [t], rfl, (OwnV.one w3 9 (str t)).less (by omega), by simp, by intro s hs; simp at hs; subst hs; omega, c3.alloc _, grown_far g3 (World.grownBy_alloc w3 _ none) (by simp)⟩
    · go_wp2_with fail
      refine (l5Draw_any g _ c2).mono ?_
      rintro e w3 ⟨x, rfl, hx0, hx1, c3, g3⟩
      have h3 := g3.size
      replace g3 := grown_trans g2 g3
      go_wp2_with fail
      refine (l1Int_any _ (by omega) (by omega) _).mono ?_
      rintro e w4 ⟨rfl, b4⟩
      have hl := Lib.itoa_length_le x (by omega) (by omega)
      generalize Lib.itoa x = t at hl ⊢
      have h4 := b4.size
      have c4 := c3.later b4
      have g4 := grown_trans g3 (grown_of_below b4 _)
      go_wp2_with fail
      go_ret
      exact ⟨_, _, [t], rfl, (OwnV.one w4 9 (str t)).less (by omega), by simp, by intro s hs; simp at hs; subst hs; omega, c4.alloc _, grown_far g4 (World.grownBy_alloc w4 _ none) (by simp)⟩

theorem l6DrawSum_any (g : Nat) (d : Int) (h0 : 0 ≤ d) (h3 : d ≤ 3) (w : World) (hc : Cur w g) : Calls Tryz.prog 178 #[.pointer (some ⟨g, 0, none⟩), .int .i64 d] w (TxsOut 15 w g) := by
  have s0 : ∀ (g : Nat) (w : World), Cur w g → Calls Tryz.prog 178 #[.pointer (some ⟨g, 0, none⟩), .int .i64 ((0 : Nat) : Int)] w (TxsOut 1 w g) := fun g w hc => l6DrawSum_leaf g _ w hc (by omega)
  have s1 := l6DrawSum_more 0 1 (by omega) s0 (by omega)
  have s2 := l6DrawSum_more 1 3 (by omega) s1 (by omega)
  have s3 := l6DrawSum_more 2 7 (by omega) s2 (by omega)
  have up : ∀ m, m ≤ 15 → ∀ e w', TxsOut m w g e w' → TxsOut 15 w g e w' := fun m hm e w' ⟨g', c, xs, h1, h2, h3, h4⟩ => ⟨g', c, xs, h1, h2, by omega, h4⟩
  rcases (show d = 0 ∨ d = 1 ∨ d = 2 ∨ d = 3 by omega) with rfl | rfl | rfl | rfl
  · exact (s0 g w hc).mono fun e w' h => up 1 (by omega) e w' h
  · exact (s1 g w hc).mono fun e w' h => up 3 (by omega) e w' h
  · exact (s2 g w hc).mono fun e w' h => up 7 (by omega) e w' h
  · exact (s3 g w hc).mono fun e w' h => up 15 (by omega) e w' h

end Go.Proofs.YtigcbegeaikfcaaGreatDoor
