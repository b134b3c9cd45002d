/- The draws of layer 6: a list of texts bent, and a sum with its place. -/
import Derived.Test.YtblnonlcjfcblaaGreatDoorDrawS
import Derived.Deep.RegionLaw
namespace Go.Proofs.YtblnonlcjfcblaaGreatDoor
open Go.RowKit
set_option linter.unusedVariables false

/-- A call by its contract, at a step of a region that draws. -/
theorem step_call {P : Program} (w : World) {ops : Array Oper} {o : Oper} {a : Act} {K : Act → World → Prop} {Q : Exit → Act → World → Prop} {E : Prop} (hgd : o.guard = none) (f : FuncId) (args : Array Value) (hop : (execOp a.eval o).run P w = .ok (.enter f args) w)
    {R : Value → World → Prop} (hc : Calls P f args w fun e w' => ∃ v, e = .returned v ∧ R v w') (h : ∀ v w', R v w' → K (a.put o.dst v) w') : if Region.wanted o (yielded ops a.tmps) = true then Oper.wp P o a w K Q else E := by
  have hw : Region.wanted o (yielded ops a.tmps) = true := by simp [Region.wanted, hgd]
  rw [if_pos hw]
  unfold Oper.wp
  rw [hop]
  refine hc.mono ?_
  rintro e w' ⟨v, rfl, hR⟩
  exact h v w' hR
/-- An append, whatever its length, at a step of a region that draws. -/
theorem step_append_own {P : Program} (w : World) {ops : Array Oper} {o : Oper} {a : Act} {K : Act → World → Prop} {Q : Exit → Act → World → Prop} {E : Prop} (hgd : o.guard = none) (s x : Operand) (t : TypeId)
    (ho : o.op = .call { callee := .builtin .append, args := #[s, x], argTypes := #[t, t] }) (B : Nat) (e : TypeId) (i : TypeInfo) (z : Value) (size bytes : Nat) (ht : P.underlying t = some (.slice e)) (hi : P.info? e = some i) (hz : i.zero = some z)
    (hsize : i.size = size) (hby : i.bytes = bytes) (hzs : z.cells.size = size) (hsz : 0 < size) (v : Value) (n : Nat) (xs : List Value) (hs : a.eval s = v) (hown : w.ownsRow B e size v n xs)
    (ad : Addr) (m c : Nat) (news : List Value) (hx : a.eval x = .slice (some ad) m c) (hl : news.length = m * size) (hnews : ∀ j u, news[j]? = some u → w.cell? (ad.add j) = some u) (h1 : ∀ u ∈ news, u.oneCell' = true)
    (hb : n + m ≤ maxLen) (hbb : (n + m) * bytes ≤ 140737488355328) (hbase : B ≤ w.heap.size)
    (h : ∀ v' w', w'.ownsRow B e size v' (n + m) (xs ++ news) → w.grownBy w' v.ownBlock → (v' = .slice none 0 0 ↔ v = .slice none 0 0 ∧ m = 0) → K (a.put o.dst v') w') :
    if Region.wanted o (yielded ops a.tmps) = true then Oper.wp P o a w K Q else E := by
  have hw : Region.wanted o (yielded ops a.tmps) = true := by simp [Region.wanted, hgd]
  rw [if_pos hw]
  obtain ⟨v', w', hr, h2, h3, h4, h5⟩ := run_append_own_at (P := P) w B t o.type e i z size bytes ht hi hz hsize hby hzs hsz v n xs hown ad m c news hl hnews h1 hb hbb hbase
  unfold Oper.wp execOp
  simp only [ho, resolve, invoke, builtin, Sem.run_bind, Sem.run_pure, Result.andThen_ok, List.map_toArray, List.map_cons, List.map_nil, hs, hx, hr]
  exact h v' w' h2 h3 h4
theorem OwnV.set {w : World} {B g n c k : Nat} {e : TypeId} {xs : List Value} (h : OwnV w B e (.slice (some ⟨g, 0, none⟩) n c) xs) (hk : k < xs.length) (u : Value) : OwnV (w.setCell ⟨g, k, none⟩ u) B e (.slice (some ⟨g, 0, none⟩) n c) (xs.set k u) := by
  obtain ⟨hl, h⟩ := h
  rcases h with ⟨q, _⟩ | ⟨g2, c2, cur, q, h1, h2, h3, h4, h5, h6⟩
  · cases q
  · injection q with q1 q2 q3
    injection q1 with q1
    injection q1 with q1
    subst q1 q3 q2
    refine ⟨by simp, .inr ⟨g, c, cur.setIfInBounds k u, by rw [List.length_set], h1, heap_set h2 u, by rw [List.length_set]; exact h3, h4, by rw [Array.size_setIfInBounds]; exact h5, ?_⟩⟩
    rw [List.length_set, Array.toList_setIfInBounds, List.take_set, h6]
theorem upTo_set {m k : Nat} {xs : List Txt} {t : Txt} (h : upTo m xs) (ht : t.length ≤ m) : upTo m (xs.set k t) := fun s hs => by
  rcases List.mem_or_eq_of_mem_set hs with q | q
  · exact h s q
  · rw [q]; exact ht
theorem upTo_take {m k : Nat} {xs : List Txt} (h : upTo m xs) : upTo m (xs.take k) := fun s hs => h s (List.mem_of_mem_take hs)
theorem upTo_drop {m k : Nat} {xs : List Txt} (h : upTo m xs) : upTo m (xs.drop k) := fun s hs => h s (List.mem_of_mem_drop hs)

set_option maxHeartbeats 8000000 in
set_option maxRecDepth 100000 in
theorem l6Bend_any (g gv cv : Nat) (xs : List Txt) (hx : xs.length ≤ 16) (hu : upTo 30 xs) (w : World) (hc : Cur w g) (h : SeeV w w.heap.size (.slice (some ⟨gv, 0, none⟩) xs.length cv) (xs.map str)) :
    Calls Tryz.prog 93 #[.pointer (some ⟨g, 0, none⟩), .slice (some ⟨gv, 0, none⟩) xs.length cv] w (TxsOut 16 w g) := by
  obtain ⟨i0, hi, hz0, hz1, hz2⟩ := info_parts Tryz.infoStr
  have hgw := hc.lt
  go_enter Tryz.func93, Tryz.ntmps93
  go_wp2_with fail
  refine (l1Texts_any _ gv 0 xs.length cv xs rfl _ h (Nat.le_refl _) (by omega)).mono ?_
  rintro e w1 ⟨g1, c1, rfl, o1, b1⟩
  have u1 := hc.later b1
  have r1 := grown_of_below b1 (some g)
  have h1 := b1.size
  have hc1 := cap_of o1
  rw [List.length_map] at hc1
  clear b1 h
  by_cases hx0 : xs.length = 0
  · have hx0' : (xs.length : Int) = 0 := by omega
    go_wp2_with fail
    go_ret
    exact ⟨g1, c1, xs, ret_len (by omega), o1, hx, hu, u1, r1⟩
  have hxp : 0 < xs.length := by omega
  go_wp2_with fail
  refine (l1Below_any g _ (by omega) (by omega) _ u1).mono ?_
  rintro e w2 ⟨y, rfl, hy0, hy1, u2, r2⟩
  have o2 := o1.apart r2 (fun j hj => by cases hj; exact hgw)
  have h2 := Nat.le_trans h1 r2.size
  replace r2 := grown_trans r1 r2
  obtain ⟨k, rfl⟩ : ∃ k : Nat, y = k := ⟨y.toNat, by omega⟩
  have hk : k < xs.length := by omega
  clear u1 r1 o1 hy0 hy1
  go_wp2_with fail
  refine (l1Below_any g _ (by decide) (by decide) _ u2).mono ?_
  rintro e w3 ⟨q, rfl, hq0, hq1, u3, r3⟩
  have o3 := o2.apart r3 (fun j hj => by cases hj; exact hgw)
  have h3 := Nat.le_trans h2 r3.size
  replace r3 := grown_trans r2 r3
  clear u2 r2 o2
  rcases (show q = 0 ∨ q = 1 ∨ q = 2 by omega) with rfl | rfl | rfl
  · clear hq0 hq1
    go_wp2_with fail
    refine (l1Below_any g _ (by decide) (by decide) _ (u3.alloc _)).mono ?_
    rintro e w4 ⟨y, rfl, hy0, hy1, u4, r4⟩
    obtain ⟨z, hz1', hz⟩ := txt_at (k := y.toNat) ((r4.block w3.heap.size (by simp) (by simp; omega)).trans (heap_alloc_new w3 _)) (by decide +kernel) (by simp; omega)
    have r4' := grown_of_alloc _ r4
    have o4 := o3.apart r4' (fun j hj => by cases hj; exact hgw)
    have h4 := Nat.le_trans h3 r4'.size
    replace r4 := grown_trans r3 r4'
    have hg1 : w.heap.size ≤ g1 := (o4.lt g1 rfl).1
    have hcell : ∃ u, w4.cell? ⟨g1, k, none⟩ = some u := by
      obtain ⟨g', o', e, _, hcc⟩ := o4.see.at_ (k := k) (x := str xs[k]) (by simp [hk])
      cases e
      rw [Nat.zero_add] at hcc
      exact ⟨_, hcc⟩
    obtain ⟨u, hcell⟩ := hcell
    have hfz : w4.frozen? ⟨g1, k, none⟩ = false := by
      rcases o4.2 with ⟨q, _⟩ | ⟨g2, c2, cur, q, _, hb, _⟩
      · cases q
      · injection q with q1
        injection q1 with q1
        injection q1 with q1
        subst q1
        exact frozen_row hb
    have o5 := o4.set (k := k) (by simpa using hk) (str z)
    have u5 := u4.far (p := ⟨g1, k, none⟩) (by simp; omega) (str z)
    have r5 := grown_far r4 (grown_set (k := k) (World.grownBy.refl w4 (some g1)) (str z)) (fun j hj => by cases hj; exact hg1)
    clear o3 u3 r3 u4
    go_wp2_with fail
    go_ret
    refine ⟨g1, c1, xs.set k z, by rw [List.length_set]; rfl, ?_, by rw [List.length_set]; exact hx, upTo_set hu (by omega), u5, r5⟩
    rw [List.length_set, List.map_set]
    exact o5
  · clear hq0 hq1
    have hp1 := SeeV.part o3.see (k + 1) (xs.length - (k + 1)) (by rw [List.length_map]; omega)
    have e1 : ((xs.map str).drop (k + 1)).take (xs.length - (k + 1)) = (xs.drop (k + 1)).map str := by rw [List.take_of_length_le (by simp), List.map_drop]
    rw [e1, Nat.zero_add] at hp1
    by_cases hck : c1 = k + 1
    · subst hck
      have HP1 : Hid (SeeV w3.drew w3.drew.heap.size (.slice (some ⟨g1, 0, none⟩) k (k + 1)) ((xs.take k).map str)) := Lib.hid (by
        have hp2 := SeeV.part o3.see 0 k (by rw [List.length_map]; omega)
        rw [List.drop_zero, ← List.map_take] at hp2
        exact hp2)
      have HP2 : Hid (∀ j u, ((xs.drop (k + 1)).map str)[j]? = some u → w3.cell? ((⟨g1, 0, none⟩ : Addr).add j) = some u) := Lib.hid (fun j u hu => by rw [List.drop_of_length_le (by omega)] at hu; simp at hu)
      have hg1 := (o3.lt g1 rfl).2
      have hkc : k ≤ (k + 1) := by omega
      have hkc' : k + 1 ≤ (k + 1) := by omega
      have hk1 : k + 1 ≤ xs.length := by omega
      have HL : Hid ((xs.drop (k + 1)).length = 0) := Lib.hid (by simp <;> omega)
      have hkk : (k : Int) ≤ (k : Int) + 1 := by omega
      have hwr : IntKind.i64.wrap ((k : Int) + 1) = (k : Int) + 1 := by rw [IntKind.wrap_i64]; omega
      have hik : 0 ≤ (k : Int) + 1 ∧ (k : Int) + 1 ≤ xs.length := by omega
      have htn : ((k : Int) + 1).toNat = k + 1 := by omega
      have HCALL : Hid (Calls Tryz.prog 117 #[.slice (some ⟨g1, 0, none⟩) k (k + 1)] w3.drew fun e w' => ∃ v, e = .returned v ∧ ∃ g' c', v = .slice (some ⟨g', 0, none⟩) k c' ∧ OwnV w' w3.heap.size 9 (.slice (some ⟨g', 0, none⟩) k c') ((xs.take k).map str) ∧ Below w3.heap.size w3 w') := Lib.hid (by
        refine (l1Texts_any _ g1 0 k (k + 1) (xs.take k) (by rw [List.length_take]; omega) _ HP1.out (Nat.le_refl _) (by rw [List.length_take]; omega)).mono ?_
        rintro e w' ⟨g', c', q1, q2, q3⟩
        have q4 : Below w3.heap.size w3 w3.drew := (Below.refl _ w3).drew
        exact ⟨_, q1, g', c', rfl, q2, q4.trans q3⟩)
      go_wp2_with fail
      go_region_law (first
        | (go_simp; refine HCALL.out.mono ?_; rintro e w4 ⟨v4, rfl, g4, c4, rfl, o4, b4⟩; dsimp only)
        | (refine step_append_own _ (by rfl) _ _ _ (by rfl) w.heap.size 9 i0 (.string ⟨#[]⟩) 1 16 Tryz.underlying22 hi hz0 hz1 hz2 rfl (by decide) _ _ _ (by rfl) (o4.less h3) ⟨g1, 0, none⟩ 0 0 ((xs.drop (k + 1)).map str) (by rfl) (by rw [List.length_map, HL.out, Nat.mul_one]) (fun j u hu => by rw [add_at, b4.cell (by simp; omega), ← add_at]; exact HP2.out j u hu) (fun u hu => str_one u _ hu) (by unfold maxLen; simp; omega) (by simp; omega) (by have := b4.size; omega) ?_; intro v5 w5 hown5 hgr5 hnil5))
      all_goals (
        obtain ⟨g6, c6, rfl, o6, u6, r6⟩ := draw_more hgw (o4.less h3) (u3.later b4) (grown_trans r3 (grown_of_below b4 _)) HL.out hown5 hgr5 hnil5
        have HLE : Hid ((xs.take k ++ xs.drop (k + 1)).length ≤ 16) := Lib.hid (by simp; omega)
        generalize hys : xs.take k ++ xs.drop (k + 1) = ys at o6 HLE ⊢
        have HYS := Lib.hid hys
        clear hys
        go_wp2_with fail
        go_ret
        exact ⟨g6, c6, ys, rfl, o6, HLE.out, by rw [← HYS.out]; exact upTo_app (upTo_take hu) (upTo_drop hu), u6, r6⟩)
    · skip
      have HP1 : Hid (SeeV w3.drew w3.drew.heap.size (.slice (some ⟨g1, 0, none⟩) k c1) ((xs.take k).map str)) := Lib.hid (by
        have hp2 := SeeV.part o3.see 0 k (by rw [List.length_map]; omega)
        rw [List.drop_zero, ← List.map_take] at hp2
        exact hp2)
      have HP2 : Hid (∀ j u, ((xs.drop (k + 1)).map str)[j]? = some u → w3.cell? ((⟨g1, (k + 1), none⟩ : Addr).add j) = some u) := Lib.hid (fun j u hu => by (obtain ⟨g', o', e, _, hcc⟩ := hp1.at_ hu); cases e; rw [add_at]; exact hcc)
      have hg1 := (o3.lt g1 rfl).2
      have hkc : k ≤ c1 := by omega
      have hkc' : k + 1 ≤ c1 := by omega
      have hk1 : k + 1 ≤ xs.length := by omega
      have HL : Hid ((xs.drop (k + 1)).length = (xs.length - (k + 1))) := Lib.hid (by simp <;> omega)
      have hkk : (k : Int) ≤ (k : Int) + 1 := by omega
      have hwr : IntKind.i64.wrap ((k : Int) + 1) = (k : Int) + 1 := by rw [IntKind.wrap_i64]; omega
      have hik : 0 ≤ (k : Int) + 1 ∧ (k : Int) + 1 ≤ xs.length := by omega
      have htn : ((k : Int) + 1).toNat = k + 1 := by omega
      have HCALL : Hid (Calls Tryz.prog 117 #[.slice (some ⟨g1, 0, none⟩) k c1] w3.drew fun e w' => ∃ v, e = .returned v ∧ ∃ g' c', v = .slice (some ⟨g', 0, none⟩) k c' ∧ OwnV w' w3.heap.size 9 (.slice (some ⟨g', 0, none⟩) k c') ((xs.take k).map str) ∧ Below w3.heap.size w3 w') := Lib.hid (by
        refine (l1Texts_any _ g1 0 k c1 (xs.take k) (by rw [List.length_take]; omega) _ HP1.out (Nat.le_refl _) (by rw [List.length_take]; omega)).mono ?_
        rintro e w' ⟨g', c', q1, q2, q3⟩
        have q4 : Below w3.heap.size w3 w3.drew := (Below.refl _ w3).drew
        exact ⟨_, q1, g', c', rfl, q2, q4.trans q3⟩)
      go_wp2_with fail
      go_region_law (first
        | (go_simp; refine HCALL.out.mono ?_; rintro e w4 ⟨v4, rfl, g4, c4, rfl, o4, b4⟩; dsimp only)
        | (refine step_append_own _ (by rfl) _ _ _ (by rfl) w.heap.size 9 i0 (.string ⟨#[]⟩) 1 16 Tryz.underlying22 hi hz0 hz1 hz2 rfl (by decide) _ _ _ (by rfl) (o4.less h3) ⟨g1, (k + 1), none⟩ (xs.length - (k + 1)) (c1 - (k + 1)) ((xs.drop (k + 1)).map str) (by rfl) (by rw [List.length_map, HL.out, Nat.mul_one]) (fun j u hu => by rw [add_at, b4.cell (by simp; omega), ← add_at]; exact HP2.out j u hu) (fun u hu => str_one u _ hu) (by unfold maxLen; simp; omega) (by simp; omega) (by have := b4.size; omega) ?_; intro v5 w5 hown5 hgr5 hnil5))
      all_goals (
        obtain ⟨g6, c6, rfl, o6, u6, r6⟩ := draw_more hgw (o4.less h3) (u3.later b4) (grown_trans r3 (grown_of_below b4 _)) HL.out hown5 hgr5 hnil5
        have HLE : Hid ((xs.take k ++ xs.drop (k + 1)).length ≤ 16) := Lib.hid (by simp; omega)
        generalize hys : xs.take k ++ xs.drop (k + 1) = ys at o6 HLE ⊢
        have HYS := Lib.hid hys
        clear hys
        go_wp2_with fail
        go_ret
        exact ⟨g6, c6, ys, rfl, o6, HLE.out, by rw [← HYS.out]; exact upTo_app (upTo_take hu) (upTo_drop hu), u6, r6⟩)
  · clear hq0 hq1
    have hkc : k ≤ c1 := by omega
    go_wp2_with fail
    go_ret
    refine ⟨g1, c1, xs.take k, ret_len (by rw [List.length_take]; omega), ?_, by rw [List.length_take]; omega, upTo_take hu, u3, r3⟩
    have := row_cut (m := xs.length) (j := k) (by have := o3; unfold OwnV at this; rw [List.length_map] at this; exact this) (by omega)
    unfold OwnV
    rw [List.length_map, List.length_take, Nat.min_eq_left (by omega), ← List.map_take] at *
    exact this

/-- A list of signs and a place, drawn. -/
def SumDrawn (w : World) (g : Nat) (e : Ending) (w' : World) : Prop := ∃ g' c', ∃ (xs : List Txt) (a : Int), e = .returned (.tuple #[.slice (some ⟨g', 0, none⟩) xs.length c', .int .i64 a]) ∧ OwnV w' w.heap.size 9 (.slice (some ⟨g', 0, none⟩) xs.length c') (xs.map str) ∧ xs.length ≤ 16 ∧ upTo 30 xs ∧ Cur w' g ∧ w.grownBy w' (some g)

set_option maxHeartbeats 8000000 in
set_option maxRecDepth 100000 in
theorem l6Draw_any (g : Nat) (w : World) (hc : Cur w g) : Calls Tryz.prog 66 #[.pointer (some ⟨g, 0, none⟩)] w (SumDrawn w g) := by
  obtain ⟨i0, hi, hz0, hz1, hz2⟩ := info_parts Tryz.infoStr
  have hgw := hc.lt
  go_enter Tryz.func66, Tryz.ntmps66
  go_wp2_with fail
  refine (l1Below_any g _ (by decide) (by decide) _ hc).mono ?_
  rintro e w1 ⟨d, rfl, hd0, hd1, u1, r1⟩
  go_wp2_with fail
  refine (l6DrawSum_any g d hd0 (by omega) _ u1).mono ?_
  rintro e w2 ⟨g2, c2, xs, rfl, o2, lx, ux, u2, r2⟩
  have o := o2.less r1.size
  have r := grown_trans r1 r2
  clear o2 r1 r2 u1
  go_wp2_with fail
  refine (l1Once_any g _ (by decide) (by decide) _ u2).mono ?_
  rintro e w3 ⟨b, rfl, u, r3⟩
  replace o := o.apart r3 (fun j hj => by cases hj; exact hgw)
  replace r := grown_trans r r3
  have h3 := r.size
  clear r3 u2
  cases b
  · replace lx : xs.length ≤ 16 := by omega
    go_wp2_with fail
    refine (l1Once_any g _ (by decide) (by decide) _ u).mono ?_
    rintro e w7 ⟨b, rfl, u7, r7⟩
    replace o := o.apart r7 (fun j hj => by cases hj; exact hgw)
    replace r := grown_trans r r7
    have h7 := r.size
    clear r7 u
    cases b
    · go_wp2_with fail
      have u := u7
      clear u7
      refine (l1Once_any g _ (by decide) (by decide) _ u).mono ?_
      rintro e w9 ⟨b, rfl, u9, r9⟩
      replace o := o.apart r9 (fun j hj => by cases hj; exact hgw)
      replace r := grown_trans r r9
      clear r9 u
      cases b
      · go_wp2_with fail
        go_ret2
        exact ⟨_, _, _, _, rfl, o, lx, ux, u9, r⟩
      · go_wp2_with fail
        refine (l1From_any g _ _ (by omega) (by omega) (by omega) (by omega) _ u9).mono ?_
        rintro e w10 ⟨y, rfl, hy0, hy1, u10, r10⟩
        replace o := o.apart r10 (fun j hj => by cases hj; exact hgw)
        replace r := grown_trans r r10
        clear r10 u9
        go_wp2_with fail
        go_ret2
        exact ⟨_, _, _, _, rfl, o, lx, ux, u10, r⟩
    · go_wp2_with fail
      refine (l6Bend_any g _ _ xs lx ux _ u7 o.see).mono ?_
      rintro e w8 ⟨g8, c8, ys, rfl, o8, ly, uy, u, r8⟩
      replace o := o8.less h7
      replace r := grown_trans r r8
      replace lx := ly
      replace ux := uy
      clear r8 u7 o8 ly uy
      generalize ys = xs at *
      go_wp2_with fail
      refine (l1Once_any g _ (by decide) (by decide) _ u).mono ?_
      rintro e w9 ⟨b, rfl, u9, r9⟩
      replace o := o.apart r9 (fun j hj => by cases hj; exact hgw)
      replace r := grown_trans r r9
      clear r9 u
      cases b
      · go_wp2_with fail
        go_ret2
        exact ⟨_, _, _, _, rfl, o, lx, ux, u9, r⟩
      · go_wp2_with fail
        refine (l1From_any g _ _ (by omega) (by omega) (by omega) (by omega) _ u9).mono ?_
        rintro e w10 ⟨y, rfl, hy0, hy1, u10, r10⟩
        replace o := o.apart r10 (fun j hj => by cases hj; exact hgw)
        replace r := grown_trans r r10
        clear r10 u9
        go_wp2_with fail
        go_ret2
        exact ⟨_, _, _, _, rfl, o, lx, ux, u10, r⟩
  · have o4 : OwnV (w3.alloc (.cells #[str [120]] 9)) w.heap.size 9 (.slice (some ⟨w3.heap.size, 0, none⟩) 1 1) ([[120]].map str) := (OwnV.one w3 9 (str [120])).less h3
    have ox := o.alloc (.cells #[str [120]] 9)
    have u4 := u.alloc (.cells #[str [120]] 9)
    have r4 := grown_far r (World.grownBy_alloc w3 (.cells #[str [120]] 9) none) (by simp)
    have h4 : w.heap.size ≤ (w3.alloc (.cells #[str [120]] 9)).heap.size := by simp; omega
    go_wp2_with first
      | (at_builtin; refine wpList_append_own _ rfl _ _ 22 rfl w.heap.size 9 i0 (.string ⟨#[]⟩) 1 16 Tryz.underlying22 hi hz0 hz1 hz2 rfl (by decide) _ _ _ rfl o4 ⟨g2, 0, none⟩ xs.length c2 (xs.map str) rfl (by simp) (news_of ox.see) (fun u hu => str_one u _ hu) (by unfold maxLen; simp; omega) (by simp; omega) h4 ?_; intro v5 w5 hown5 hgr5 hnil5; obtain ⟨g5, k5, rfl, o5, u5, r5⟩ := draw_more hgw o4 u4 r4 rfl hown5 hgr5 hnil5)
    have ux' : upTo 30 ([[120]] ++ xs) := upTo_app (by intro s hs; simp at hs; subst hs; simp) ux
    have lx' : ([[120]] ++ xs).length ≤ 16 := by simp; omega
    have HQ : Hid (xs.length + 1 = ([[120]] ++ xs).length) := Lib.hid (by simp)
    clear o u r ox u4 r4 o4 hown5 hgr5 hnil5
    rw [HQ.out]
    have o := o5
    have u := u5
    have r := r5
    replace lx := lx'
    replace ux := ux'
    clear o5 u5 r5 lx' ux' HQ
    generalize [[120]] ++ xs = ys at o lx ux ⊢
    generalize xs.length = n0
    clear xs
    generalize ys = xs at o lx ux ⊢
    refine (l1Once_any g _ (by decide) (by decide) _ u).mono ?_
    rintro e w7 ⟨b, rfl, u7, r7⟩
    replace o := o.apart r7 (fun j hj => by cases hj; exact hgw)
    replace r := grown_trans r r7
    have h7 := r.size
    clear r7 u
    cases b
    · go_wp2_with fail
      have u := u7
      clear u7
      refine (l1Once_any g _ (by decide) (by decide) _ u).mono ?_
      rintro e w9 ⟨b, rfl, u9, r9⟩
      replace o := o.apart r9 (fun j hj => by cases hj; exact hgw)
      replace r := grown_trans r r9
      clear r9 u
      cases b
      · go_wp2_with fail
        go_ret2
        exact ⟨_, _, _, _, rfl, o, lx, ux, u9, r⟩
      · go_wp2_with fail
        refine (l1From_any g _ _ (by omega) (by omega) (by omega) (by omega) _ u9).mono ?_
        rintro e w10 ⟨y, rfl, hy0, hy1, u10, r10⟩
        replace o := o.apart r10 (fun j hj => by cases hj; exact hgw)
        replace r := grown_trans r r10
        clear r10 u9
        go_wp2_with fail
        go_ret2
        exact ⟨_, _, _, _, rfl, o, lx, ux, u10, r⟩
    · go_wp2_with fail
      refine (l6Bend_any g _ _ xs lx ux _ u7 o.see).mono ?_
      rintro e w8 ⟨g8, c8, ys, rfl, o8, ly, uy, u, r8⟩
      replace o := o8.less h7
      replace r := grown_trans r r8
      replace lx := ly
      replace ux := uy
      clear r8 u7 o8 ly uy
      generalize ys = xs at *
      go_wp2_with fail
      refine (l1Once_any g _ (by decide) (by decide) _ u).mono ?_
      rintro e w9 ⟨b, rfl, u9, r9⟩
      replace o := o.apart r9 (fun j hj => by cases hj; exact hgw)
      replace r := grown_trans r r9
      clear r9 u
      cases b
      · go_wp2_with fail
        go_ret2
        exact ⟨_, _, _, _, rfl, o, lx, ux, u9, r⟩
      · go_wp2_with fail
        refine (l1From_any g _ _ (by omega) (by omega) (by omega) (by omega) _ u9).mono ?_
        rintro e w10 ⟨y, rfl, hy0, hy1, u10, r10⟩
        replace o := o.apart r10 (fun j hj => by cases hj; exact hgw)
        replace r := grown_trans r r10
        clear r10 u9
        go_wp2_with fail
        go_ret2
        exact ⟨_, _, _, _, rfl, o, lx, ux, u10, r⟩

end Go.Proofs.YtblnonlcjfcblaaGreatDoor
