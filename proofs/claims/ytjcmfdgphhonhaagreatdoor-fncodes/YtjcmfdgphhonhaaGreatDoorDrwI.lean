/- The draws of plays: a list of signs bent; how deep the [ ] of what is drawn can lie. No conditions but those typed. -/
import Derived.Test.YtjcmfdgphhonhaaGreatDoorDrwH
import Derived.Test.YtjcmfdgphhonhaaGreatDoorDrawT
namespace Go.Proofs.YtjcmfdgphhonhaaGreatDoor
open Go.RowKit
set_option linter.unusedVariables false

/-- One sign turned, or taken out, or the rest cut off. -/
def Bent (xs ys : List Txt) : Prop := (∃ k z, ys = xs.set k z) ∨ (∃ k, k < xs.length ∧ ys = xs.take k ++ xs.drop (k + 1)) ∨ ∃ k, ys = xs.take k
def BentX (xs : List Txt) (w : World) (g : Nat) (e : Ending) (w' : World) : Prop := ∃ g' c, ∃ ys : List Txt, e = .returned (.slice (some ⟨g', 0, none⟩) ys.length c) ∧ OwnV w' w.heap.size 9 (.slice (some ⟨g', 0, none⟩) ys.length c) (ys.map str) ∧ ys.length ≤ 100 ∧ upTo 30 ys ∧ Bent xs ys ∧ Cur w' g ∧ w.grownBy w' (some g)

/-- No part of it has more than n [ open at its end. -/
def Hi (n : Int) (xs : List Txt) : Prop := ∀ p q r, xs = p ++ (q ++ r) → lvl q ≤ n
theorem Brk.hi {n : Int} {xs : List Txt} (h : Brk n xs) : Hi n xs := fun p q r e => by
  have h1 := (h.2 p (q ++ r) e).1
  have h2 := (h.2 (p ++ q) r (by rw [e, List.append_assoc])).2
  rw [lvl_app] at h2
  omega
theorem Hi.take {n : Int} {xs : List Txt} (h : Hi n xs) (k : Nat) : Hi n (xs.take k) := fun p q r e => h p q (r ++ xs.drop k) (by
  have := List.take_append_drop k xs
  rw [e] at this
  simpa [List.append_assoc] using this.symm)
theorem lvl_one (x : Txt) : -1 ≤ lvl [x] ∧ lvl [x] ≤ 1 := by
  show -1 ≤ (if x = wOpen then 1 else if x = wShut then -1 else 0) + lvl [] ∧ (if x = wOpen then 1 else if x = wShut then -1 else 0) + lvl [] ≤ 1
  have h0 : lvl [] = 0 := rfl
  rw [h0]
  split
  · omega
  · split <;> omega
theorem cut_three {α : Type} {a b p q r : List α} {x : α} (h : a ++ (x :: b) = p ++ (q ++ r)) : (∃ d, a = p ++ (q ++ d)) ∨ (∃ d, p = a ++ (x :: d) ∧ b = d ++ (q ++ r)) ∨ ∃ d f, q = d ++ (x :: f) ∧ a = p ++ d ∧ b = f ++ r := by
  rcases List.append_eq_append_iff.1 h with ⟨d, h1, h2⟩ | ⟨d, h1, h2⟩
  · match d, h2 with
    | [], h2 =>
      rw [List.append_nil] at h1
      match q, h2 with
      | [], _ => exact .inl ⟨[], by rw [h1]; simp⟩
      | y :: q, h2 =>
        injection h2 with e1 e2
        subst e1
        exact .inr (.inr ⟨[], q, by simp, by rw [h1]; simp, e2⟩)
    | y :: d, h2 =>
      injection h2 with e1 e2
      subst e1
      exact .inr (.inl ⟨d, h1, e2⟩)
  · rcases List.append_eq_append_iff.1 h2 with ⟨f, h3, h4⟩ | ⟨f, h3, h4⟩
    · exact .inl ⟨f, by rw [h1, h3]⟩
    · match f, h4 with
      | [], h4 => exact .inl ⟨[], by rw [h1, h3]; simp⟩
      | y :: f, h4 =>
        injection h4 with e1 e2
        subst e1
        exact .inr (.inr ⟨d, f, h3, h1, e2⟩)
theorem set_cut {α : Type} : ∀ (xs : List α) (k : Nat) (z : α), xs.length ≤ k ∨ ∃ a x b, xs = a ++ (x :: b) ∧ xs.set k z = a ++ (z :: b) ∧ a.length = k
  | [], k, z => .inl (Nat.zero_le _)
  | y :: r, 0, z => .inr ⟨[], y, r, rfl, rfl, rfl⟩
  | y :: r, k + 1, z => by
    rcases set_cut r k z with h | ⟨a, x, b, h1, h2, h3⟩
    · exact .inl (by simp; omega)
    · exact .inr ⟨y :: a, x, b, by rw [h1]; rfl, by rw [List.set_cons_succ, h2]; rfl, by simp [h3]⟩
theorem hi_bent {xs ys : List Txt} (h : Hi 2 xs) (hb : Bent xs ys) : Hi 4 ys := by
  rcases hb with ⟨k, z, rfl⟩ | ⟨k, hk, rfl⟩ | ⟨k, rfl⟩
  · rcases set_cut xs k z with hk | ⟨a, x, b, h1, h2, _⟩
    · rw [List.set_eq_of_length_le hk]
      exact fun p q r e => by have := h p q r e; omega
    · rw [h2]
      intro p q r e
      have hx := lvl_one x
      have hz := lvl_one z
      rcases cut_three e with ⟨d, h3⟩ | ⟨d, h3, h4⟩ | ⟨d, f, h3, h4, h5⟩
      · have := h p q (d ++ (x :: b)) (by rw [h1, h3]; simp)
        omega
      · have := h (a ++ (x :: d)) q r (by rw [h1, h4]; simp)
        omega
      · have h6 := h p (d ++ (x :: f)) r (by rw [h1, h4, h5]; simp)
        rw [show d ++ (x :: f) = d ++ ([x] ++ f) from rfl, lvl_app, lvl_app] at h6
        rw [h3, show d ++ (z :: f) = d ++ ([z] ++ f) from rfl, lvl_app, lvl_app]
        omega
  · have hc := List.take_append_drop k xs
    rw [List.drop_eq_getElem_cons hk] at hc
    generalize xs.take k = a at hc ⊢
    generalize xs.drop (k + 1) = b at hc ⊢
    generalize xs[k] = x at hc
    intro p q r e
    have hx := lvl_one x
    rcases List.append_eq_append_iff.1 e with ⟨d, h1, h2⟩ | ⟨d, h1, h2⟩
    · have := h (a ++ (x :: d)) q r (by rw [← hc, h2]; simp)
      omega
    · rcases List.append_eq_append_iff.1 h2 with ⟨f, h3, h4⟩ | ⟨f, h3, h4⟩
      · have := h p q (f ++ (x :: b)) (by rw [← hc, h1, h3]; simp)
        omega
      · have h6 := h p (d ++ (x :: f)) r (by rw [← hc, h1, h4]; simp)
        rw [show d ++ (x :: f) = d ++ ([x] ++ f) from rfl, lvl_app, lvl_app] at h6
        rw [h3, lvl_app]
        omega
  · exact fun p q r e => by have := h.take k p q r e; omega

set_option maxHeartbeats 8000000 in
set_option maxRecDepth 100000 in
theorem l6Bend_big (g gv cv : Nat) (xs : List Txt) (hx : xs.length ≤ 100) (hu : upTo 30 xs) (w : World) (hc : Cur w g) (h : SeeV w w.heap.size (.slice (some ⟨gv, 0, none⟩) xs.length cv) (xs.map str)) :
    Calls Tryz.prog 166 #[.pointer (some ⟨g, 0, none⟩), .slice (some ⟨gv, 0, none⟩) xs.length cv] w (BentX xs w g) := by
  obtain ⟨i0, hi, hz0, hz1, hz2⟩ := info_parts Tryz.infoStr
  have hgw := hc.lt
  go_enter Tryz.func166, Tryz.ntmps166
  go_wp2_with fail
  refine (l1Texts_any _ gv 0 xs.length cv xs rfl _ h (Nat.le_refl _) (by omega)).mono ?_
  rintro e w1 ⟨g1, c1, rfl, o1, b1⟩
  have u1 := hc.later b1
  have r1 := grown_of_below b1 (some g)
  have h1 := b1.size
  have hc1 := cap_of o1
  rw [List.length_map] at hc1
  clear b1 h
  by_cases hx0 : xs.length = 0
  · have hx0' : (xs.length : Int) = 0 := by omega
    go_wp2_with fail
    go_ret
    exact ⟨g1, c1, xs, ret_len (by omega), o1, hx, hu, .inr (.inr ⟨xs.length, by simp⟩), u1, r1⟩
  have hxp : 0 < xs.length := by omega
  go_wp2_with fail
  refine (l1Below_any g _ (by omega) (by omega) _ u1).mono ?_
  rintro e w2 ⟨y, rfl, hy0, hy1, u2, r2⟩
  have o2 := o1.apart r2 (fun j hj => by cases hj; exact hgw)
  have h2 := Nat.le_trans h1 r2.size
  replace r2 := grown_trans r1 r2
  obtain ⟨k, rfl⟩ : ∃ k : Nat, y = k := ⟨y.toNat, by omega⟩
  have hk : k < xs.length := by omega
  clear u1 r1 o1 hy0 hy1
  go_wp2_with fail
  refine (l1Below_any g _ (by decide) (by decide) _ u2).mono ?_
  rintro e w3 ⟨q, rfl, hq0, hq1, u3, r3⟩
  have o3 := o2.apart r3 (fun j hj => by cases hj; exact hgw)
  have h3 := Nat.le_trans h2 r3.size
  replace r3 := grown_trans r2 r3
  clear u2 r2 o2
  rcases (show q = 0 ∨ q = 1 ∨ q = 2 by omega) with rfl | rfl | rfl
  · clear hq0 hq1
    go_wp2_with fail
    refine (l1Below_any g _ (by decide) (by decide) _ (u3.alloc _)).mono ?_
    rintro e w4 ⟨y, rfl, hy0, hy1, u4, r4⟩
    obtain ⟨z, hz1', hz⟩ := txt_at (k := y.toNat) ((r4.block w3.heap.size (by simp) (by simp; omega)).trans (heap_alloc_new w3 _)) (by decide +kernel) (by simp; omega)
    have r4' := grown_of_alloc _ r4
    have o4 := o3.apart r4' (fun j hj => by cases hj; exact hgw)
    have h4 := Nat.le_trans h3 r4'.size
    replace r4 := grown_trans r3 r4'
    have hg1 : w.heap.size ≤ g1 := (o4.lt g1 rfl).1
    have hcell : ∃ u, w4.cell? ⟨g1, k, none⟩ = some u := by
      obtain ⟨g', o', e, _, hcc⟩ := o4.see.at_ (k := k) (x := str xs[k]) (by simp [hk])
      cases e
      rw [Nat.zero_add] at hcc
      exact ⟨_, hcc⟩
    obtain ⟨u, hcell⟩ := hcell
    have hfz : w4.frozen? ⟨g1, k, none⟩ = false := by
      rcases o4.2 with ⟨q, _⟩ | ⟨g2, c2, cur, q, _, hb, _⟩
      · cases q
      · injection q with q1
        injection q1 with q1
        injection q1 with q1
        subst q1
        exact frozen_row hb
    have o5 := o4.set (k := k) (by simpa using hk) (str z)
    have u5 := u4.far (p := ⟨g1, k, none⟩) (by simp; omega) (str z)
    have r5 := grown_far r4 (grown_set (k := k) (World.grownBy.refl w4 (some g1)) (str z)) (fun j hj => by cases hj; exact hg1)
    clear o3 u3 r3 u4
    go_wp2_with fail
    go_ret
    refine ⟨g1, c1, xs.set k z, by rw [List.length_set]; rfl, ?_, by rw [List.length_set]; exact hx, upTo_set hu (by omega), .inl ⟨k, z, rfl⟩, u5, r5⟩
    rw [List.length_set, List.map_set]
    exact o5
  · clear hq0 hq1
    have hp1 := SeeV.part o3.see (k + 1) (xs.length - (k + 1)) (by rw [List.length_map]; omega)
    have e1 : ((xs.map str).drop (k + 1)).take (xs.length - (k + 1)) = (xs.drop (k + 1)).map str := by rw [List.take_of_length_le (by simp), List.map_drop]
    rw [e1, Nat.zero_add] at hp1
    by_cases hck : c1 = k + 1
    · subst hck
      have HP1 : Hid (SeeV w3.drew w3.drew.heap.size (.slice (some ⟨g1, 0, none⟩) k (k + 1)) ((xs.take k).map str)) := Lib.hid (by
        have hp2 := SeeV.part o3.see 0 k (by rw [List.length_map]; omega)
        rw [List.drop_zero, ← List.map_take] at hp2
        exact hp2)
      have HP2 : Hid (∀ j u, ((xs.drop (k + 1)).map str)[j]? = some u → w3.cell? ((⟨g1, 0, none⟩ : Addr).add j) = some u) := Lib.hid (fun j u hu => by rw [List.drop_of_length_le (by omega)] at hu; simp at hu)
      have hg1 := (o3.lt g1 rfl).2
      have hkc : k ≤ (k + 1) := by omega
      have hkc' : k + 1 ≤ (k + 1) := by omega
      have hk1 : k + 1 ≤ xs.length := by omega
      have HL : Hid ((xs.drop (k + 1)).length = 0) := Lib.hid (by simp <;> omega)
      have hkk : (k : Int) ≤ (k : Int) + 1 := by omega
      have hwr : IntKind.i64.wrap ((k : Int) + 1) = (k : Int) + 1 := by rw [IntKind.wrap_i64]; omega
      have hik : 0 ≤ (k : Int) + 1 ∧ (k : Int) + 1 ≤ xs.length := by omega
      have htn : ((k : Int) + 1).toNat = k + 1 := by omega
      have HCALL : Hid (Calls Tryz.prog 182 #[.slice (some ⟨g1, 0, none⟩) k (k + 1)] w3.drew fun e w' => ∃ v, e = .returned v ∧ ∃ g' c', v = .slice (some ⟨g', 0, none⟩) k c' ∧ OwnV w' w3.heap.size 9 (.slice (some ⟨g', 0, none⟩) k c') ((xs.take k).map str) ∧ Below w3.heap.size w3 w') := Lib.hid (by
        refine (l1Texts_any _ g1 0 k (k + 1) (xs.take k) (by rw [List.length_take]; omega) _ HP1.out (Nat.le_refl _) (by rw [List.length_take]; omega)).mono ?_
        rintro e w' ⟨g', c', q1, q2, q3⟩
        have q4 : Below w3.heap.size w3 w3.drew := (Below.refl _ w3).drew
        exact ⟨_, q1, g', c', rfl, q2, q4.trans q3⟩)
      go_wp2_with fail
      go_region_law (first
        | (go_simp; refine HCALL.out.mono ?_; rintro e w4 ⟨v4, rfl, g4, c4, rfl, o4, b4⟩; dsimp only)
        | (refine step_append_own _ (by rfl) _ _ _ (by rfl) w.heap.size 9 i0 (.string ⟨#[]⟩) 1 16 Tryz.underlying24 hi hz0 hz1 hz2 rfl (by decide) _ _ _ (by rfl) (o4.less h3) ⟨g1, 0, none⟩ 0 0 ((xs.drop (k + 1)).map str) (by rfl) (by rw [List.length_map, HL.out, Nat.mul_one]) (fun j u hu => by rw [add_at, b4.cell (by simp; omega), ← add_at]; exact HP2.out j u hu) (fun u hu => str_one u _ hu) (by unfold maxLen; simp; omega) (by simp; omega) (by have := b4.size; omega) ?_; intro v5 w5 hown5 hgr5 hnil5))
      all_goals (
        obtain ⟨g6, c6, rfl, o6, u6, r6⟩ := draw_more hgw (o4.less h3) (u3.later b4) (grown_trans r3 (grown_of_below b4 _)) HL.out hown5 hgr5 hnil5
        have HLE : Hid ((xs.take k ++ xs.drop (k + 1)).length ≤ 100) := Lib.hid (by simp; omega)
        generalize hys : xs.take k ++ xs.drop (k + 1) = ys at o6 HLE ⊢
        have HYS := Lib.hid hys
        clear hys
        go_wp2_with fail
        go_ret
        exact ⟨g6, c6, ys, rfl, o6, HLE.out, by rw [← HYS.out]; exact upTo_app (upTo_take hu) (upTo_drop hu), .inr (.inl ⟨k, by omega, HYS.out.symm⟩), u6, r6⟩)
    · skip
      have HP1 : Hid (SeeV w3.drew w3.drew.heap.size (.slice (some ⟨g1, 0, none⟩) k c1) ((xs.take k).map str)) := Lib.hid (by
        have hp2 := SeeV.part o3.see 0 k (by rw [List.length_map]; omega)
        rw [List.drop_zero, ← List.map_take] at hp2
        exact hp2)
      have HP2 : Hid (∀ j u, ((xs.drop (k + 1)).map str)[j]? = some u → w3.cell? ((⟨g1, (k + 1), none⟩ : Addr).add j) = some u) := Lib.hid (fun j u hu => by (obtain ⟨g', o', e, _, hcc⟩ := hp1.at_ hu); cases e; rw [add_at]; exact hcc)
      have hg1 := (o3.lt g1 rfl).2
      have hkc : k ≤ c1 := by omega
      have hkc' : k + 1 ≤ c1 := by omega
      have hk1 : k + 1 ≤ xs.length := by omega
      have HL : Hid ((xs.drop (k + 1)).length = (xs.length - (k + 1))) := Lib.hid (by simp <;> omega)
      have hkk : (k : Int) ≤ (k : Int) + 1 := by omega
      have hwr : IntKind.i64.wrap ((k : Int) + 1) = (k : Int) + 1 := by rw [IntKind.wrap_i64]; omega
      have hik : 0 ≤ (k : Int) + 1 ∧ (k : Int) + 1 ≤ xs.length := by omega
      have htn : ((k : Int) + 1).toNat = k + 1 := by omega
      have HCALL : Hid (Calls Tryz.prog 182 #[.slice (some ⟨g1, 0, none⟩) k c1] w3.drew fun e w' => ∃ v, e = .returned v ∧ ∃ g' c', v = .slice (some ⟨g', 0, none⟩) k c' ∧ OwnV w' w3.heap.size 9 (.slice (some ⟨g', 0, none⟩) k c') ((xs.take k).map str) ∧ Below w3.heap.size w3 w') := Lib.hid (by
        refine (l1Texts_any _ g1 0 k c1 (xs.take k) (by rw [List.length_take]; omega) _ HP1.out (Nat.le_refl _) (by rw [List.length_take]; omega)).mono ?_
        rintro e w' ⟨g', c', q1, q2, q3⟩
        have q4 : Below w3.heap.size w3 w3.drew := (Below.refl _ w3).drew
        exact ⟨_, q1, g', c', rfl, q2, q4.trans q3⟩)
      go_wp2_with fail
      go_region_law (first
        | (go_simp; refine HCALL.out.mono ?_; rintro e w4 ⟨v4, rfl, g4, c4, rfl, o4, b4⟩; dsimp only)
        | (refine step_append_own _ (by rfl) _ _ _ (by rfl) w.heap.size 9 i0 (.string ⟨#[]⟩) 1 16 Tryz.underlying24 hi hz0 hz1 hz2 rfl (by decide) _ _ _ (by rfl) (o4.less h3) ⟨g1, (k + 1), none⟩ (xs.length - (k + 1)) (c1 - (k + 1)) ((xs.drop (k + 1)).map str) (by rfl) (by rw [List.length_map, HL.out, Nat.mul_one]) (fun j u hu => by rw [add_at, b4.cell (by simp; omega), ← add_at]; exact HP2.out j u hu) (fun u hu => str_one u _ hu) (by unfold maxLen; simp; omega) (by simp; omega) (by have := b4.size; omega) ?_; intro v5 w5 hown5 hgr5 hnil5))
      all_goals (
        obtain ⟨g6, c6, rfl, o6, u6, r6⟩ := draw_more hgw (o4.less h3) (u3.later b4) (grown_trans r3 (grown_of_below b4 _)) HL.out hown5 hgr5 hnil5
        have HLE : Hid ((xs.take k ++ xs.drop (k + 1)).length ≤ 100) := Lib.hid (by simp; omega)
        generalize hys : xs.take k ++ xs.drop (k + 1) = ys at o6 HLE ⊢
        have HYS := Lib.hid hys
        clear hys
        go_wp2_with fail
        go_ret
        exact ⟨g6, c6, ys, rfl, o6, HLE.out, by rw [← HYS.out]; exact upTo_app (upTo_take hu) (upTo_drop hu), .inr (.inl ⟨k, by omega, HYS.out.symm⟩), u6, r6⟩)
  · clear hq0 hq1
    have hkc : k ≤ c1 := by omega
    go_wp2_with fail
    go_ret
    refine ⟨g1, c1, xs.take k, ret_len (by rw [List.length_take]; omega), ?_, by rw [List.length_take]; omega, upTo_take hu, .inr (.inr ⟨k, rfl⟩), u3, r3⟩
    have := row_cut (m := xs.length) (j := k) (by have := o3; unfold OwnV at this; rw [List.length_map] at this; exact this) (by omega)
    unfold OwnV
    rw [List.length_map, List.length_take, Nat.min_eq_left (by omega), ← List.map_take] at *
    exact this

end Go.Proofs.YtjcmfdgphhonhaaGreatDoor
