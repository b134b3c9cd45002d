/- The draws of layer 6: a list of texts bent, and a sum with its place. -/
import Derived.Test.YtigcbegeaikfcaaGreatDoorDrawS
import Derived.Test.YtigcbegeaikfcaaGreatDoorStepA
import Derived.Deep.RegionLaw
namespace Go.Proofs.YtigcbegeaikfcaaGreatDoor
open Go.RowKit
set_option linter.unusedVariables false

theorem OwnV.set {w : World} {B g n c k : Nat} {e : TypeId} {xs : List Value} (h : OwnV w B e (.slice (some ⟨g, 0, none⟩) n c) xs) (hk : k < xs.length) (u : Value) : OwnV (w.setCell ⟨g, k, none⟩ u) B e (.slice (some ⟨g, 0, none⟩) n c) (xs.set k u) := by
  obtain ⟨hl, h⟩ := h
  rcases h with ⟨q, _⟩ | ⟨g2, c2, cur, q, h1, h2, h3, h4, h5, h6⟩
  · cases q
  · injection q with q1 q2 q3
    injection q1 with q1
    injection q1 with q1
    subst q1 q3 q2
    refine ⟨by simp, .inr ⟨g, c, cur.setIfInBounds k u, by rw [List.length_set], h1, heap_set h2 u, by rw [List.length_set]; exact h3, h4, by rw [Array.size_setIfInBounds]; exact h5, ?_⟩⟩
    rw [List.length_set, Array.toList_setIfInBounds, List.take_set, h6]
theorem upTo_set {m k : Nat} {xs : List Txt} {t : Txt} (h : upTo m xs) (ht : t.length ≤ m) : upTo m (xs.set k t) := fun s hs => by
  rcases List.mem_or_eq_of_mem_set hs with q | q
  · exact h s q
  · rw [q]; exact ht
theorem upTo_take {m k : Nat} {xs : List Txt} (h : upTo m xs) : upTo m (xs.take k) := fun s hs => h s (List.mem_of_mem_take hs)
theorem upTo_drop {m k : Nat} {xs : List Txt} (h : upTo m xs) : upTo m (xs.drop k) := fun s hs => h s (List.mem_of_mem_drop hs)

set_option maxHeartbeats 8000000 in
set_option maxRecDepth 100000 in
theorem l6Bend_any (g gv cv : Nat) (xs : List Txt) (hx : xs.length ≤ 16) (hu : upTo 30 xs) (w : World) (hc : Cur w g) (h : SeeV w w.heap.size (.slice (some ⟨gv, 0, none⟩) xs.length cv) (xs.map str)) :
    Calls Tryz.prog 172 #[.pointer (some ⟨g, 0, none⟩), .slice (some ⟨gv, 0, none⟩) xs.length cv] w (TxsOut 16 w g) := by
  obtain ⟨i0, hi, hz0, hz1, hz2⟩ := info_parts Tryz.infoStr
  have hgw := hc.lt
  go_enter Tryz.func172, Tryz.ntmps172
  go_wp2_with fail
  refine (l1Texts_any _ gv 0 xs.length cv xs rfl _ h (Nat.le_refl _) (by omega)).mono ?_
  rintro e w1 ⟨g1, c1, rfl, o1, b1⟩
  have u1 := hc.later b1
  have r1 := grown_of_below b1 (some g)
  have h1 := b1.size
  have hc1 := cap_of o1
  rw [List.length_map] at hc1
  clear b1 h
  by_cases hx0 : xs.length = 0
  · have hx0' : (xs.length : Int) = 0 := by omega
    go_wp2_with fail
    go_ret
    exact ⟨g1, c1, xs, ret_len (by omega), o1, hx, hu, u1, r1⟩
  have hxp : 0 < xs.length := by omega
  go_wp2_with fail
  refine (l1Below_any g _ (by omega) (by omega) _ u1).mono ?_
  rintro e w2 ⟨y, rfl, hy0, hy1, u2, r2⟩
  have o2 := o1.apart r2 (fun j hj => by cases hj; exact hgw)
  have h2 := Nat.le_trans h1 r2.size
  replace r2 := grown_trans r1 r2
  obtain ⟨k, rfl⟩ : ∃ k : Nat, y = k := ⟨y.toNat, by omega⟩
  have hk : k < xs.length := by omega
  clear u1 r1 o1 hy0 hy1
  go_wp2_with fail
  refine (l1Below_any g _ (by decide) (by decide) _ u2).mono ?_
  rintro e w3 ⟨q, rfl, hq0, hq1, u3, r3⟩
  have o3 := o2.apart r3 (fun j hj => by cases hj; exact hgw)
  have h3 := Nat.le_trans h2 r3.size
  replace r3 := grown_trans r2 r3
  clear u2 r2 o2
  rcases (show q = 0 ∨ q = 1 ∨ q = 2 by omega) with rfl | rfl | rfl
  · clear hq0 hq1
    go_wp2_with fail
    refine (l1Below_any g _ (by decide) (by decide) _ (u3.alloc _)).mono ?_
    rintro e w4 ⟨y, rfl, hy0, hy1, u4, r4⟩
    obtain ⟨z, hz1', hz⟩ := txt_at (k := y.toNat) ((r4.block w3.heap.size (by simp) (by simp; omega)).trans (heap_alloc_new w3 _)) (by decide +kernel) (by simp; omega)
    have r4' := grown_of_alloc _ r4
    have o4 := o3.apart r4' (fun j hj => by cases hj; exact hgw)
    have h4 := Nat.le_trans h3 r4'.size
    replace r4 := grown_trans r3 r4'
    have hg1 : w.heap.size ≤ g1 := (o4.lt g1 rfl).1
    have hcell : ∃ u, w4.cell? ⟨g1, k, none⟩ = some u := by
      obtain ⟨g', o', e, _, hcc⟩ := o4.see.at_ (k := k) (x := str xs[k]) (by simp [hk])
      cases e
      rw [Nat.zero_add] at hcc
      exact ⟨_, hcc⟩
    obtain ⟨u, hcell⟩ := hcell
    have hfz : w4.frozen? ⟨g1, k, none⟩ = false := by
      rcases o4.2 with ⟨q, _⟩ | ⟨g2, c2, cur, q, _, hb, _⟩
      · cases q
      · injection q with q1
        injection q1 with q1
        injection q1 with q1
        subst q1
        exact frozen_row hb
    have o5 := o4.set (k := k) (by simpa using hk) (str z)
    have u5 := u4.far (p := ⟨g1, k, none⟩) (by simp; omega) (str z)
    have r5 := grown_far r4 (grown_set (k := k) (World.grownBy.refl w4 (some g1)) (str z)) (fun j hj => by cases hj; exact hg1)
    clear o3 u3 r3 u4
    go_wp2_with fail
    go_ret
    refine ⟨g1, c1, xs.set k z, by rw [List.length_set]; rfl, ?_, by rw [List.length_set]; exact hx, upTo_set hu (by omega), u5, r5⟩
    rw [List.length_set, List.map_set]
    exact o5
  · clear hq0 hq1
    have hp1 := SeeV.part o3.see (k + 1) (xs.length - (k + 1)) (by rw [List.length_map]; omega)
    have e1 : ((xs.map str).drop (k + 1)).take (xs.length - (k + 1)) = (xs.drop (k + 1)).map str := by rw [List.take_of_length_le (by simp), List.map_drop]
    rw [e1, Nat.zero_add] at hp1
    by_cases hck : c1 = k + 1
    · subst hck
      have HP1 : Hid (SeeV w3.drew w3.drew.heap.size (.slice (some ⟨g1, 0, none⟩) k (k + 1)) ((xs.take k).map str)) := Lib.hid (by
        have hp2 := SeeV.part o3.see 0 k (by rw [List.length_map]; omega)
        rw [List.drop_zero, ← List.map_take] at hp2
        exact hp2)
      have HP2 : Hid (∀ j u, ((xs.drop (k + 1)).map str)[j]? = some u → w3.cell? ((⟨g1, 0, none⟩ : Addr).add j) = some u) := Lib.hid (fun j u hu => by rw [List.drop_of_length_le (by omega)] at hu; simp at hu)
      have hg1 := (o3.lt g1 rfl).2
      have hkc : k ≤ (k + 1) := by omega
      have hkc' : k + 1 ≤ (k + 1) := by omega
      have hk1 : k + 1 ≤ xs.length := by omega
      have HL : Hid ((xs.drop (k + 1)).length = 0) := Lib.hid (by simp <;> omega)
      have hkk : (k : Int) ≤ (k : Int) + 1 := by omega
      have hwr : IntKind.i64.wrap ((k : Int) + 1) = (k : Int) + 1 := by rw [IntKind.wrap_i64]; omega
      have hik : 0 ≤ (k : Int) + 1 ∧ (k : Int) + 1 ≤ xs.length := by omega
      have htn : ((k : Int) + 1).toNat = k + 1 := by omega
      have HCALL : Hid (Calls Tryz.prog 158 #[.slice (some ⟨g1, 0, none⟩) k (k + 1)] w3.drew fun e w' => ∃ v, e = .returned v ∧ ∃ g' c', v = .slice (some ⟨g', 0, none⟩) k c' ∧ OwnV w' w3.heap.size 9 (.slice (some ⟨g', 0, none⟩) k c') ((xs.take k).map str) ∧ Below w3.heap.size w3 w') := Lib.hid (by
        refine (l1Texts_any _ g1 0 k (k + 1) (xs.take k) (by rw [List.length_take]; omega) _ HP1.out (Nat.le_refl _) (by rw [List.length_take]; omega)).mono ?_
        rintro e w' ⟨g', c', q1, q2, q3⟩
        have q4 : Below w3.heap.size w3 w3.drew := (Below.refl _ w3).drew
        exact ⟨_, q1, g', c', rfl, q2, q4.trans q3⟩)
      go_wp2_with fail
      go_region_law (first
        | (go_simp; refine HCALL.out.mono ?_; rintro e w4 ⟨v4, rfl, g4, c4, rfl, o4, b4⟩; dsimp only)
        | (refine step_append_own _ (by rfl) _ _ _ (by rfl) w.heap.size 9 i0 (.string ⟨#[]⟩) 1 16 Tryz.underlying48 hi hz0 hz1 hz2 rfl (by decide) _ _ _ (by rfl) (o4.less h3) ⟨g1, 0, none⟩ 0 0 ((xs.drop (k + 1)).map str) (by rfl) (by rw [List.length_map, HL.out, Nat.mul_one]) (fun j u hu => by rw [add_at, b4.cell (by simp; omega), ← add_at]; exact HP2.out j u hu) (fun u hu => str_one u _ hu) (by unfold maxLen; simp; omega) (by simp; omega) (by have := b4.size; omega) ?_; intro v5 w5 hown5 hgr5 hnil5))
      all_goals (
        obtain ⟨g6, c6, rfl, o6, u6, r6⟩ := draw_more hgw (o4.less h3) (u3.later b4) (grown_trans r3 (grown_of_below b4 _)) HL.out hown5 hgr5 hnil5
        have HLE : Hid ((xs.take k ++ xs.drop (k + 1)).length ≤ 16) := Lib.hid (by simp; omega)
        generalize hys : xs.take k ++ xs.drop (k + 1) = ys at o6 HLE ⊢
        have HYS := Lib.hid hys
        clear hys
        go_wp2_with fail
        go_ret
        exact ⟨g6, c6, ys, rfl, o6, HLE.out, by rw [← HYS.out]; exact upTo_app (upTo_take hu) (upTo_drop hu), u6, r6⟩)
    · skip
      have HP1 : Hid (SeeV w3.drew w3.drew.heap.size (.slice (some ⟨g1, 0, none⟩) k c1) ((xs.take k).map str)) := Lib.hid (by
        have hp2 := SeeV.part o3.see 0 k (by rw [List.length_map]; omega)
        rw [List.drop_zero, ← List.map_take] at hp2
        exact hp2)
      have HP2 : Hid (∀ j u, ((xs.drop (k + 1)).map str)[j]? = some u → w3.cell? ((⟨g1, (k + 1), none⟩ : Addr).add j) = some u) := Lib.hid (fun j u hu => by (obtain ⟨g', o', e, _, hcc⟩ := hp1.at_ hu); cases e; rw [add_at]; exact hcc)
      have hg1 := (o3.lt g1 rfl).2
      have hkc : k ≤ c1 := by omega
      have hkc' : k + 1 ≤ c1 := by omega
      have hk1 : k + 1 ≤ xs.length := by omega
      have HL : Hid ((xs.drop (k + 1)).length = (xs.length - (k + 1))) := Lib.hid (by simp <;> omega)
      have hkk : (k : Int) ≤ (k : Int) + 1 := by omega
      have hwr : IntKind.i64.wrap ((k : Int) + 1) = (k : Int) + 1 := by rw [IntKind.wrap_i64]; omega
      have hik : 0 ≤ (k : Int) + 1 ∧ (k : Int) + 1 ≤ xs.length := by omega
      have htn : ((k : Int) + 1).toNat = k + 1 := by omega
      have HCALL : Hid (Calls Tryz.prog 158 #[.slice (some ⟨g1, 0, none⟩) k c1] w3.drew fun e w' => ∃ v, e = .returned v ∧ ∃ g' c', v = .slice (some ⟨g', 0, none⟩) k c' ∧ OwnV w' w3.heap.size 9 (.slice (some ⟨g', 0, none⟩) k c') ((xs.take k).map str) ∧ Below w3.heap.size w3 w') := Lib.hid (by
        refine (l1Texts_any _ g1 0 k c1 (xs.take k) (by rw [List.length_take]; omega) _ HP1.out (Nat.le_refl _) (by rw [List.length_take]; omega)).mono ?_
        rintro e w' ⟨g', c', q1, q2, q3⟩
        have q4 : Below w3.heap.size w3 w3.drew := (Below.refl _ w3).drew
        exact ⟨_, q1, g', c', rfl, q2, q4.trans q3⟩)
      go_wp2_with fail
      go_region_law (first
        | (go_simp; refine HCALL.out.mono ?_; rintro e w4 ⟨v4, rfl, g4, c4, rfl, o4, b4⟩; dsimp only)
        | (refine step_append_own _ (by rfl) _ _ _ (by rfl) w.heap.size 9 i0 (.string ⟨#[]⟩) 1 16 Tryz.underlying48 hi hz0 hz1 hz2 rfl (by decide) _ _ _ (by rfl) (o4.less h3) ⟨g1, (k + 1), none⟩ (xs.length - (k + 1)) (c1 - (k + 1)) ((xs.drop (k + 1)).map str) (by rfl) (by rw [List.length_map, HL.out, Nat.mul_one]) (fun j u hu => by rw [add_at, b4.cell (by simp; omega), ← add_at]; exact HP2.out j u hu) (fun u hu => str_one u _ hu) (by unfold maxLen; simp; omega) (by simp; omega) (by have := b4.size; omega) ?_; intro v5 w5 hown5 hgr5 hnil5))
      all_goals (
        obtain ⟨g6, c6, rfl, o6, u6, r6⟩ := draw_more hgw (o4.less h3) (u3.later b4) (grown_trans r3 (grown_of_below b4 _)) HL.out hown5 hgr5 hnil5
        have HLE : Hid ((xs.take k ++ xs.drop (k + 1)).length ≤ 16) := Lib.hid (by simp; omega)
        generalize hys : xs.take k ++ xs.drop (k + 1) = ys at o6 HLE ⊢
        have HYS := Lib.hid hys
        clear hys
        go_wp2_with fail
        go_ret
        exact ⟨g6, c6, ys, rfl, o6, HLE.out, by rw [← HYS.out]; exact upTo_app (upTo_take hu) (upTo_drop hu), u6, r6⟩)
  · clear hq0 hq1
    have hkc : k ≤ c1 := by omega
    go_wp2_with fail
    go_ret
    refine ⟨g1, c1, xs.take k, ret_len (by rw [List.length_take]; omega), ?_, by rw [List.length_take]; omega, upTo_take hu, u3, r3⟩
    have := row_cut (m := xs.length) (j := k) (by have := o3; unfold OwnV at this; rw [List.length_map] at this; exact this) (by omega)
    unfold OwnV
    rw [List.length_map, List.length_take, Nat.min_eq_left (by omega), ← List.map_take] at *
    exact this

/-- A list of signs and a place, drawn. -/
def SumDrawn (w : World) (g : Nat) (e : Ending) (w' : World) : Prop := ∃ g' c', ∃ (xs : List Txt) (a : Int), e = .returned (.tuple #[.slice (some ⟨g', 0, none⟩) xs.length c', .int .i64 a]) ∧ OwnV w' w.heap.size 9 (.slice (some ⟨g', 0, none⟩) xs.length c') (xs.map str) ∧ xs.length ≤ 16 ∧ upTo 30 xs ∧ Cur w' g ∧ w.grownBy w' (some g)

end Go.Proofs.YtigcbegeaikfcaaGreatDoor
