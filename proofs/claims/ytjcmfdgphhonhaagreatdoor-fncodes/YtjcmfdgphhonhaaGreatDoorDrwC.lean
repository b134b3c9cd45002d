/- The draws of sums, told exactly: how many signs are drawn, and where the cursor stands then. No conditions but those typed. -/
import Derived.Test.YtjcmfdgphhonhaaGreatDoorDrwB
namespace Go.Proofs.YtjcmfdgphhonhaaGreatDoor
open Go.RowKit
set_option linter.unusedVariables false

/-- So many texts drawn, none of them [ or ]. -/
def TxsX (bs : List Int) (n : Nat) (w : World) (g : Nat) (s : Nat × Int) (e : Ending) (w' : World) : Prop := ∃ g' c, ∃ xs : List Txt, e = .returned (.slice (some ⟨g', 0, none⟩) xs.length c) ∧ OwnV w' w.heap.size 9 (.slice (some ⟨g', 0, none⟩) xs.length c) (xs.map str) ∧ Hid (xs.length = n) ∧ upTo 30 xs ∧ noBrs xs ∧ CurS bs w' g s ∧ w.grownBy w' (some g)
theorem itoa_noBr {v : Int} (h0 : -2147483648 ≤ v) (h1 : v ≤ 2147483647) : noBr (Lib.itoa v) := by
  have hw : rdS (Lib.itoa v) = some v := rdS_itoa (by unfold wordB inB; simp; omega)
  constructor
  · intro q; rw [q] at hw; revert hw; have : rdS wOpen = none := by decide
    rw [this]; intro q; cases q
  · intro q; rw [q] at hw; revert hw; have : rdS wShut = none := by decide
    rw [this]; intro q; cases q
theorem draw_moreX {bs : List Int} {s : Nat × Int} {w W w1 : World} {g gv k c m : Nat} {v' : Value} {xs ys : List Txt} (hg : g < w.heap.size) (ho : OwnV W w.heap.size 9 (.slice (some ⟨gv, 0, none⟩) k c) (xs.map str)) (hc : CurS bs W g s) (hw : w.grownBy W (some g)) (hm : ys.length = m)
    (h1 : w1.ownsRow w.heap.size 9 1 v' ((xs.map str).length + m) (xs.map str ++ ys.map str)) (hgr : W.grownBy w1 (some gv)) (hnil : v' = .slice none 0 0 ↔ Value.slice (some ⟨gv, 0, none⟩) k c = .slice none 0 0 ∧ m = 0) :
    ∃ g4 c4, v' = .slice (some ⟨g4, 0, none⟩) (xs ++ ys).length c4 ∧ OwnV w1 w.heap.size 9 (.slice (some ⟨g4, 0, none⟩) (xs ++ ys).length c4) ((xs ++ ys).map str) ∧ CurS bs w1 g s ∧ w.grownBy w1 (some g) := by
  have hr : w.heap.size ≤ gv := (ho.lt gv rfl).1
  obtain ⟨g4, c4, e, h2, _, h4⟩ := draw_more hg ho hc.cur hw hm h1 hgr hnil
  exact ⟨g4, c4, e, h2, hc.apart hgr (fun j hj => by cases hj; omega), h4⟩

set_option maxHeartbeats 4000000 in
theorem l6Sum_leafx (bs : List Int) (g : Nat) (s : Nat × Int) (w : World) (hc : CurS bs w g s) : Calls Tryz.prog 214 #[.pointer (some ⟨g, 0, none⟩), .int .i64 ((0 : Nat) : Int)] w (TxsX bs 1 w g (leafG (nextB bs) s)) := by
    have r0 := World.grownBy.refl w (some g)
    have h1 : w.heap.size ≤ w.heap.size := Nat.le_refl _
    have HL : Hid (leafG (nextB bs) s = if (nextB bs s).1 % 3 = 0 then drawG (nextB bs) (nextB bs s).2 else (nextB bs (nextB bs s).2).2) := Lib.hid rfl
    rw [HL.out]
    have H1 := Lib.hid (fun w h => l1Once_x bs g s 3 (by decide) (by decide) w h)
    have HD := Lib.hid (fun w h => l5Draw_x bs g (nextB bs s).2 w h)
    have HN := Lib.hid (fun w h => l5DrawName_x bs g (nextB bs s).2 w h)
    generalize drawG (nextB bs) (nextB bs s).2 = sd at HD ⊢
    generalize (nextB bs (nextB bs s).2).2 = sn at HN ⊢
    generalize (nextB bs s).2 = sx at H1 HD HN
    by_cases hb : (nextB bs s).1 % 3 = 0
    · rw [if_pos hb]
      rw [decide_eq_true hb] at H1
      clear hb HN HL
      go_enter Tryz.func214, Tryz.ntmps214; go_wp2_with fail
      refine (H1.out _ hc).mono ?_
      rintro e w2 ⟨rfl, c2, g2⟩
      have h2 := g2.size
      replace g2 := grown_trans r0 g2
      go_wp2_with fail
      refine (HD.out _ c2).mono ?_
      rintro e w3 ⟨x, rfl, hx0, hx1, c3, g3⟩
      have h3 := g3.size
      replace g3 := grown_trans g2 g3
      go_wp2_with fail
      refine (l1Int_any _ (by omega) (by omega) _).mono ?_
      rintro e w4 ⟨rfl, b4⟩
      have hl := Lib.itoa_length_le x (by omega) (by omega)
      have hbr := itoa_noBr hx0 hx1
      generalize Lib.itoa x = t at hl hbr ⊢
      have h4 := b4.size
      have c4 := c3.later b4
      have g4 := grown_trans g3 (grown_of_below b4 _)
      go_wp2_with fail
      go_ret
      exact ⟨_, _, [t], rfl, (OwnV.one w4 9 (str t)).less (by omega), Lib.hid rfl, by intro s hs; simp at hs; subst hs; omega, noBrs_one hbr, c4.alloc _, grown_far g4 (World.grownBy_alloc w4 _ none) (by simp)⟩
    · rw [if_neg hb]
      rw [decide_eq_false hb] at H1
      clear hb HD HL
      go_enter Tryz.func214, Tryz.ntmps214; go_wp2_with fail
      refine (H1.out _ hc).mono ?_
      rintro e w2 ⟨rfl, c2, g2⟩
      have h2 := g2.size
      replace g2 := grown_trans r0 g2
      go_wp2_with fail
      refine (HN.out _ c2).mono ?_
      rintro e w3 ⟨t, rfl, ht, hbr, c3, g3⟩
      have h3 := g3.size
      replace g3 := grown_trans g2 g3
      go_wp2_with fail
      go_ret
      exact ⟨_, _, [t], rfl, (OwnV.one w3 9 (str t)).less (by omega), Lib.hid rfl, by intro s hs; simp at hs; subst hs; omega, noBrs_one hbr, c3.alloc _, grown_far g3 (World.grownBy_alloc w3 _ none) (by simp)⟩

set_option maxHeartbeats 8000000 in
set_option maxRecDepth 100000 in
theorem l6Sum_morex (bs : List Int) (n m : Nat) (hm : m ≤ 1000) (hlen : ∀ s, (sumG (nextB bs) n s).1 ≤ m) (ih : ∀ (g : Nat) (s : Nat × Int) (w : World), CurS bs w g s → Calls Tryz.prog 214 #[.pointer (some ⟨g, 0, none⟩), .int .i64 (n : Int)] w (TxsX bs (sumG (nextB bs) n s).1 w g (sumG (nextB bs) n s).2)) (hn : n ≤ 100) (g : Nat) (s : Nat × Int) (w : World) (hc : CurS bs w g s) :
    Calls Tryz.prog 214 #[.pointer (some ⟨g, 0, none⟩), .int .i64 ((n + 1 : Nat) : Int)] w (TxsX bs (sumG (nextB bs) (n + 1) s).1 w g (sumG (nextB bs) (n + 1) s).2) := by
  obtain ⟨i0, hi, hz0, hz1, hz2⟩ := info_parts Tryz.infoStr
  have hgw := hc.lt
  have hd : decide ((n : Int) + 1 ≤ 0) = false := decide_eq_false (by omega)
  have HS : Hid (sumG (nextB bs) (n + 1) s = if (nextB bs s).1 % 2 = 0 then (1, leafG (nextB bs) (nextB bs s).2) else (1 + (sumG (nextB bs) n (nextB bs (nextB bs s).2).2).1 + (sumG (nextB bs) n (sumG (nextB bs) n (nextB bs (nextB bs s).2).2).2).1, (sumG (nextB bs) n (sumG (nextB bs) n (nextB bs (nextB bs s).2).2).2).2)) := Lib.hid rfl
  rw [HS.out]
  have H0 := Lib.hid (l1Once_x bs g s 2 (by decide) (by decide) w hc)
  by_cases hb : (nextB bs s).1 % 2 = 0
  · rw [if_pos hb]
    rw [decide_eq_true hb] at H0
    clear hb HS
    show Calls Tryz.prog 214 #[.pointer (some ⟨g, 0, none⟩), .int .i64 ((n + 1 : Nat) : Int)] w (TxsX bs 1 w g (leafG (nextB bs) (nextB bs s).2))
    generalize (nextB bs s).2 = s1 at H0 ⊢
    have HL : Hid (leafG (nextB bs) s1 = if (nextB bs s1).1 % 3 = 0 then drawG (nextB bs) (nextB bs s1).2 else (nextB bs (nextB bs s1).2).2) := Lib.hid rfl
    rw [HL.out]
    have H1 := Lib.hid (fun w h => l1Once_x bs g s1 3 (by decide) (by decide) w h)
    have HD := Lib.hid (fun w h => l5Draw_x bs g (nextB bs s1).2 w h)
    have HN := Lib.hid (fun w h => l5DrawName_x bs g (nextB bs s1).2 w h)
    generalize drawG (nextB bs) (nextB bs s1).2 = sd at HD ⊢
    generalize (nextB bs (nextB bs s1).2).2 = sn at HN ⊢
    generalize (nextB bs s1).2 = sx at H1 HD HN
    by_cases hb : (nextB bs s1).1 % 3 = 0
    · rw [if_pos hb]
      rw [decide_eq_true hb] at H1
      clear hb HN HL
      go_enter Tryz.func214, Tryz.ntmps214; go_wp2_with fail; refine H0.out.mono ?_; rintro e w1 ⟨rfl, c1, g1⟩; have h1 := g1.size; go_wp2_with fail
      refine (H1.out _ c1).mono ?_
      rintro e w2 ⟨rfl, c2, g2⟩
      have h2 := g2.size
      replace g2 := grown_trans g1 g2
      go_wp2_with fail
      refine (HD.out _ c2).mono ?_
      rintro e w3 ⟨x, rfl, hx0, hx1, c3, g3⟩
      have h3 := g3.size
      replace g3 := grown_trans g2 g3
      go_wp2_with fail
      refine (l1Int_any _ (by omega) (by omega) _).mono ?_
      rintro e w4 ⟨rfl, b4⟩
      have hl := Lib.itoa_length_le x (by omega) (by omega)
      have hbr := itoa_noBr hx0 hx1
      generalize Lib.itoa x = t at hl hbr ⊢
      have h4 := b4.size
      have c4 := c3.later b4
      have g4 := grown_trans g3 (grown_of_below b4 _)
      go_wp2_with fail
      go_ret
      exact ⟨_, _, [t], rfl, (OwnV.one w4 9 (str t)).less (by omega), Lib.hid rfl, by intro s hs; simp at hs; subst hs; omega, noBrs_one hbr, c4.alloc _, grown_far g4 (World.grownBy_alloc w4 _ none) (by simp)⟩
    · rw [if_neg hb]
      rw [decide_eq_false hb] at H1
      clear hb HD HL
      go_enter Tryz.func214, Tryz.ntmps214; go_wp2_with fail; refine H0.out.mono ?_; rintro e w1 ⟨rfl, c1, g1⟩; have h1 := g1.size; go_wp2_with fail
      refine (H1.out _ c1).mono ?_
      rintro e w2 ⟨rfl, c2, g2⟩
      have h2 := g2.size
      replace g2 := grown_trans g1 g2
      go_wp2_with fail
      refine (HN.out _ c2).mono ?_
      rintro e w3 ⟨t, rfl, ht, hbr, c3, g3⟩
      have h3 := g3.size
      replace g3 := grown_trans g2 g3
      go_wp2_with fail
      go_ret
      exact ⟨_, _, [t], rfl, (OwnV.one w3 9 (str t)).less (by omega), Lib.hid rfl, by intro s hs; simp at hs; subst hs; omega, noBrs_one hbr, c3.alloc _, grown_far g3 (World.grownBy_alloc w3 _ none) (by simp)⟩
  · rw [if_neg hb]
    rw [decide_eq_false hb] at H0
    clear hb HS
    have H1 := Lib.hid (fun w h => l1Below_x bs g (nextB bs s).2 6 (by decide) (by decide) w h)
    obtain ⟨hy0, hy1⟩ := mod_in (nextB bs (nextB bs s).2).1 (show (0 : Int) < 6 by decide)
    generalize (nextB bs (nextB bs s).2).1 % 6 = y at H1 hy0 hy1
    generalize (nextB bs (nextB bs s).2).2 = s2 at H1 ⊢
    generalize (nextB bs s).2 = s1 at H0 H1
    have HA := Lib.hid (fun w h => ih g s2 w h)
    have HB := Lib.hid (fun w h => ih g (sumG (nextB bs) n s2).2 w h)
    have la := hlen s2
    have lb := hlen (sumG (nextB bs) n s2).2
    show Calls Tryz.prog 214 #[.pointer (some ⟨g, 0, none⟩), .int .i64 ((n + 1 : Nat) : Int)] w (TxsX bs (1 + (sumG (nextB bs) n s2).1 + (sumG (nextB bs) n (sumG (nextB bs) n s2).2).1) w g (sumG (nextB bs) n (sumG (nextB bs) n s2).2).2)
    generalize (sumG (nextB bs) n (sumG (nextB bs) n s2).2).1 = nb at HB lb ⊢
    generalize (sumG (nextB bs) n (sumG (nextB bs) n s2).2).2 = s4 at HB ⊢
    generalize (sumG (nextB bs) n s2).1 = na at HA la ⊢
    generalize (sumG (nextB bs) n s2).2 = s3 at HA HB
    clear ih hlen
    go_enter Tryz.func214, Tryz.ntmps214
    go_wp2_with fail
    refine H0.out.mono ?_
    rintro e w1 ⟨rfl, c1, g1⟩
    have h1 := g1.size
    go_wp2_with fail
    refine (H1.out _ (c1.alloc _)).mono ?_
    rintro e w2 ⟨rfl, c2, g2⟩
    obtain ⟨z, hz1', hz2', hz⟩ := txt_at2 (k := y.toNat) ((g2.block w1.heap.size (by simp) (by simp; omega)).trans (heap_alloc_new w1 _)) (by decide +kernel) (by simp; omega)
    have h2 := g2.size
    rw [World.size_alloc] at h2
    replace g2 := grown_trans g1 (grown_of_alloc _ g2)
    clear g1 c1
    have o2 := (OwnV.one w2 9 (str z)).less (show w.heap.size ≤ w2.heap.size by omega)
    have c2' := c2.alloc (.cells #[str z] 9)
    have g2' := grown_far g2 (World.grownBy_alloc w2 (.cells #[str z] 9) none) (by simp)
    have h2' : w.heap.size ≤ (w2.alloc (.cells #[str z] 9)).heap.size := by simp; omega
    go_wp2_with fail
    generalize w2.alloc (.cells #[str z] 9) = W2 at o2 c2' g2' h2' ⊢
    generalize w2.heap.size = b2 at o2 ⊢
    clear c2 g2 hz h2
    refine (HA.out _ c2').mono ?_
    rintro e w3 ⟨gx, cx, xs, rfl, ox, lx, ux, nx7, c3, g3⟩
    have lx' : xs.length ≤ m := by have := lx.out; omega
    have o3 : OwnV w3 w.heap.size 9 (.slice (some ⟨b2, 0, none⟩) 1 1) ([z].map str) := o2.apart g3 (fun j hj => by cases hj; exact hgw)
    have h3 : w.heap.size ≤ w3.heap.size := Nat.le_trans h2' g3.size
    replace g3 := grown_trans g2' g3
    clear o2 c2' g2' h2'
    go_wp2_with first
      |
(at_builtin; refine wpList_append_own _ rfl _ _ 24 rfl w.heap.size 9 i0 (.string ⟨#[]⟩) 1 16 Tryz.underlying24 hi hz0 hz1 hz2 rfl (by decide) _ _ _ rfl o3 ⟨gx, 0, none⟩ xs.length cx (xs.map str) rfl (by simp) (news_of ox.see) (fun u hu => str_one u _ hu) (by unfold maxLen; simp; omega) (by simp; omega) (by omega) ?_; intro v4 w4 hown4 hgr4 hnil4; obtain ⟨g4, k4, rfl, o4, c4, q4⟩ := draw_moreX hgw o3 c3 g3 rfl hown4 hgr4 hnil4)
    have h4 := Nat.le_trans h3 hgr4.size
    have hz30 : upTo 30 [z] := by intro s hs; simp at hs; subst hs; omega
    have u4 := upTo_app hz30 ux
    have n4 := noBrs_app (noBrs_one hz2') nx7
    have l4 : ([z] ++ xs).length ≤ m + 1 := by simp; omega
    clear o3 c3 g3 ox hown4 hgr4 hnil4
    refine (HB.out _ c4).mono ?_
    rintro e w5 ⟨gy, cy, ys, rfl, oy, ly, uy, ny7, c5, g5⟩
    have ly' : ys.length ≤ m := by have := ly.out; omega
    have o5 := o4.apart g5 (fun j hj => by cases hj; exact hgw)
    have h5 := Nat.le_trans h4 g5.size
    replace g5 := grown_trans q4 g5
    clear o4 c4 q4
    go_wp2_with first
      |
(at_builtin; refine wpList_append_own _ rfl _ _ 24 rfl w.heap.size 9 i0 (.string ⟨#[]⟩) 1 16 Tryz.underlying24 hi hz0 hz1 hz2 rfl (by decide) _ _ _ rfl o5 ⟨gy, 0, none⟩ ys.length cy (ys.map str) rfl (by simp) (news_of oy.see) (fun u hu => str_one u _ hu) (by unfold maxLen; simp; omega) (by simp; omega) (by omega) ?_; intro v4 w4 hown4 hgr4 hnil4; obtain ⟨g6, k6, rfl, o6, c6, q6⟩ := draw_moreX hgw o5 c5 g5 rfl hown4 hgr4 hnil4)
    go_ret
    exact ⟨g6, k6, ([z] ++ xs) ++ ys, ret_len (by simp; try omega), o6, Lib.hid (by rw [List.length_append, List.length_append]; have := lx.out; have := ly.out; simp; omega), upTo_app u4 uy, noBrs_app n4 ny7, c6, q6⟩

theorem sum_len2 {σ : Type} (next : σ → Int × σ) (s : σ) : (sumG next 0 s).1 ≤ 1 ∧ (sumG next 1 s).1 ≤ 3 ∧ (sumG next 2 s).1 ≤ 7 := by
  have h0 : ∀ s, (sumG next 0 s).1 ≤ 1 := fun s => Nat.le_refl _
  have h1 : ∀ s, (sumG next 1 s).1 ≤ 3 := fun s => by
    rw [sumG]
    split
    · show 1 ≤ 3; omega
    · have a := h0 (next (next s).2).2
      have b := h0 (sumG next 0 (next (next s).2).2).2
      show 1 + _ + _ ≤ 3
      omega
  refine ⟨h0 s, h1 s, ?_⟩
  rw [sumG]
  split
  · show 1 ≤ 7; omega
  · have a := h1 (next (next s).2).2
    have b := h1 (sumG next 1 (next (next s).2).2).2
    show 1 + _ + _ ≤ 7
    omega
theorem l6DrawSum_x (bs : List Int) (g : Nat) (s : Nat × Int) (w : World) (hc : CurS bs w g s) : Calls Tryz.prog 214 #[.pointer (some ⟨g, 0, none⟩), .int .i64 2] w (TxsX bs (sumG (nextB bs) 2 s).1 w g (sumG (nextB bs) 2 s).2) := by
  have s0 : ∀ (g : Nat) (s : Nat × Int) (w : World), CurS bs w g s → Calls Tryz.prog 214 #[.pointer (some ⟨g, 0, none⟩), .int .i64 ((0 : Nat) : Int)] w (TxsX bs (sumG (nextB bs) 0 s).1 w g (sumG (nextB bs) 0 s).2) := fun g s w hc => l6Sum_leafx bs g s w hc
  have s1 := l6Sum_morex bs 0 1 (by omega) (fun s => (sum_len2 _ s).1) s0 (by omega)
  exact l6Sum_morex bs 1 3 (by omega) (fun s => (sum_len2 _ s).2.1) s1 (by omega) g s w hc

end Go.Proofs.YtjcmfdgphhonhaaGreatDoor
