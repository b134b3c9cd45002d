/- Layer 6 (sums): the model's l1Texts, l6Put and NamesIn. No conditions but those typed. Layer 7 (plays): the model's l7Gate and l7Sign. No conditions but those typed. Layer 7 (plays): the model's l7Block and l7Deed. No conditions but those typed. -/
import Derived.Test.YtigcbegeaikfcaaGreatDoorSumS
import Derived.Test.YtigcbegeaikfcaaGreatDoorLowT
import Derived.Test.YtigcbegeaikfcaaGreatDoorDeedP
import Derived.Test.YtigcbegeaikfcaaGreatDoorLowB
import Derived.Test.YtigcbegeaikfcaaGreatDoorLowA
import Derived.Laws.AppendOwn
import Derived.Maps.AppendAt
import Derived.RangeFuncBox
import Derived.OwnWalk
namespace Go.Proofs.YtigcbegeaikfcaaGreatDoor
open Go.RowKit
set_option linter.unusedVariables false

theorem OwnV.more {w wr w1 : World} {B m : Nat} {e : TypeId} {v v' : Value} {xs ys : List Value} (hb : Below B w wr) (hB : B ≤ w.heap.size) (h : OwnV wr B e v xs) (hm : ys.length = m)
    (h1 : w1.ownsRow B e 1 v' (xs.length + m) (xs ++ ys)) (hg : wr.grownBy w1 v.ownBlock) : OwnV w1 B e v' (xs ++ ys) ∧ Below B w w1 := by
  refine ⟨?_, hb.grown hg (Nat.le_trans hB hb.size) (fun j hj => (h.lt j hj).1)⟩
  unfold OwnV
  rw [List.length_append, hm]
  exact h1
theorem str_one (u : Value) (xs : List Txt) (h : u ∈ xs.map str) : u.oneCell' = true := by
  obtain ⟨x, _, rfl⟩ := List.mem_map.1 h
  rfl
theorem OwnV.shape1 {w : World} {B : Nat} {e : TypeId} {v : Value} {xs : List Value} (h : OwnV w B e v xs) (hn : ¬ v = .slice none 0 0) : ∃ g c, v = .slice (some ⟨g, 0, none⟩) xs.length c := by
  rcases h.2 with ⟨q, _⟩ | ⟨g, cap, _, q, _⟩
  · exact absurd q hn
  · exact ⟨g, cap, q⟩

theorem add_at (g o j : Nat) : (⟨g, o, none⟩ : Addr).add j = ⟨g, o + j, none⟩ := by
  unfold Addr.add
  split
  · rename_i h; subst h; rfl
  · rfl

set_option maxHeartbeats 1000000 in
theorem l1Texts_any (B g o m c : Nat) (xs : List Txt) (hm : xs.length = m) (w : World) (h : SeeV w B (.slice (some ⟨g, o, none⟩) m c) (xs.map str)) (hB : B ≤ w.heap.size) (hn : xs.length ≤ 1048577) :
    Calls Tryz.prog 158 #[.slice (some ⟨g, o, none⟩) m c] w fun e w' => ∃ g' c', e = .returned (.slice (some ⟨g', 0, none⟩) m c') ∧ OwnV w' w.heap.size 9 (.slice (some ⟨g', 0, none⟩) m c') (xs.map str) ∧ Below w.heap.size w w' := by
  obtain ⟨i0, hi, hz0, hz1, hz2⟩ := info_parts Tryz.infoStr
  have hx : ∀ j u, (xs.map str)[j]? = some u → (w.alloc (.cells #[] 9)).cell? ((⟨g, o, none⟩ : Addr).add j) = some u := fun j u hu => by
    obtain ⟨g', o', e, _, hc⟩ := (h.alloc hB (.cells #[] 9)).at_ hu
    cases e
    rw [add_at]
    exact hc
  have HX := Lib.hid hx
  have HM := Lib.hid hm
  clear hx h
  have hn' : m ≤ 1048577 := by omega
  clear hm hn
  go_enter Tryz.func158, Tryz.ntmps158
  go_wp2_with (at_builtin; refine wpList_append_own _ rfl _ _ 48 rfl w.heap.size 9 i0 (.string ⟨#[]⟩) 1 16 Tryz.underlying48 hi hz0 hz1 hz2 rfl (by decide) _ _ _ rfl (OwnV.empty w w.heap.size 9 (Nat.le_refl _)) ⟨g, o, none⟩ m c (xs.map str) rfl (by rw [List.length_map, HM.out, Nat.mul_one]) HX.out (fun u hu => str_one u xs hu) (by unfold maxLen; simp; omega) (by simp; omega) (by simp) ?_; intro v' w1 hown hgrow hnil)
  go_ret
  have hown2 : OwnV w1 w.heap.size 9 v' (xs.map str) := by
    unfold OwnV
    rw [List.length_map, HM.out]
    simpa using hown
  obtain ⟨g', c', rfl⟩ := hown2.shape1 (fun q => by have := (hnil.1 q).1; change Value.slice (some ⟨w.heap.size, 0, none⟩) 0 0 = .slice none 0 0 at this; cases this)
  rw [List.length_map, HM.out] at hown2 ⊢
  exact ⟨g', c', rfl, hown2, ((Below.refl _ w).alloc (Nat.le_refl _) _).grown hgrow (by simp) (fun j hj => by cases hj; exact Nat.le_refl _)⟩

def PutOut (B : Nat) (xs : List Txt) (w : World) (e : Ending) (w' : World) : Prop := ∃ g' c', e = .returned (.slice (some ⟨g', 0, none⟩) xs.length c') ∧ OwnV w' B 9 (.slice (some ⟨g', 0, none⟩) xs.length c') (xs.map str) ∧ Below w.heap.size w w'
theorem cap_of {w : World} {B g n c : Nat} {e : TypeId} {xs : List Value} (h : OwnV w B e (.slice (some ⟨g, 0, none⟩) n c) xs) : xs.length ≤ c := by
  rcases h.2 with ⟨q, _⟩ | ⟨g2, cap2, cur, q, _, _, h3, _⟩
  · cases q
  · cases q; exact h3

theorem put_fin {W : World} {B B' k : Nat} {xs : List Txt} {s : Txt} {v : Value} (hk : k ≤ xs.length) (h : W.ownsRow B' 9 1 v (k + 1 + (xs.length - k)) ((xs.take k).map str ++ [str s] ++ (xs.drop k).map str)) (hB : B ≤ B') :
    ∃ g c, v = .slice (some ⟨g, 0, none⟩) (xs.take k ++ s :: xs.drop k).length c ∧ OwnV W B 9 v ((xs.take k ++ s :: xs.drop k).map str) := by
  have hl : (xs.take k ++ s :: xs.drop k).length = k + 1 + (xs.length - k) := by simp; omega
  have hm : (xs.take k ++ s :: xs.drop k).map str = (xs.take k).map str ++ [str s] ++ (xs.drop k).map str := by simp
  have ho : OwnV W B' 9 v ((xs.take k ++ s :: xs.drop k).map str) := by
    unfold OwnV
    rw [List.length_map, hl, hm]
    exact h
  rcases ho.2 with ⟨_, q⟩ | ⟨g, c, _, q, _⟩
  · rw [List.length_map, hl] at q; omega
  · rw [List.length_map] at q; exact ⟨g, c, q, ho.less hB⟩

set_option maxRecDepth 100000 in
set_option maxHeartbeats 4000000 in
theorem l6Put_any (B g c : Nat) (xs : List Txt) (s : Txt) (w : World) (h : OwnV w B 9 (.slice (some ⟨g, 0, none⟩) xs.length c) (xs.map str)) (hB : B ≤ w.heap.size) (hn : xs.length ≤ 1048576) :
    Calls Tryz.prog 120 #[.slice (some ⟨g, 0, none⟩) xs.length c, str s] w (PutOut B (putS xs s) w) := by
  obtain ⟨i0, hi, hz0, hz1, hz2⟩ := info_parts Tryz.infoStr
  have hcap := cap_of h
  rw [List.length_map] at hcap
  go_enter Tryz.func120, Tryz.ntmps120
  go_wp2_with fail
  go_loop [5] (fun i => ∃ k : Nat, k ≤ xs.length ∧ i = .int .i64 k ∧ ∀ j, j < k → ∃ x, xs[j]? = some x ∧ x < s) (fun i => xs.length - (intOf i).toNat)
  case atStart => exact ⟨0, Nat.zero_le _, rfl, fun j hj => by omega⟩
  case round =>
    obtain ⟨k, hk, rfl, hf⟩ := hrel
    have HF := Lib.hid hf
    clear hf
    by_cases hlt : k < xs.length
    · have hx := List.getElem?_eq_getElem hlt
      generalize xs[k] = y at hx
      obtain ⟨g', o', e, -, hcy⟩ := tx_at h.see hx
      cases e
      rw [Nat.zero_add] at hcy
      have HX := Lib.hid hx
      clear hx
      rcases tx_tri y s with hy | hy | hy
      · have hl : Op.bytesLess y s = true := by rw [less_lt]; simpa using hy
        have HE : Hid (∀ j, j < k + 1 → ∃ x, xs[j]? = some x ∧ x < s) := Lib.hid (fun j hj => by
          by_cases q : j = k
          · subst q; exact ⟨y, HX.out, hy⟩
          · exact HF.out j (by omega))
        clear hy
        go_wp2_with fail
        go_round
        case rel => exact ⟨k + 1, by omega, by go_num, HE.out⟩
        case measure => simp [intOf]; omega
      · have hl : Op.bytesLess y s = false := by rw [less_lt, hy]; exact decide_eq_false (tx_irr s)
        have HE : Hid (putS xs s = xs) := Lib.hid (put_there HF.out (by rw [← hy]; exact HX.out))
        subst hy
        go_wp2_with fail
        go_ret
        rw [HE.out]
        exact ⟨g, c, rfl, h, Below.refl _ _⟩
      · have hl : Op.bytesLess y s = false := by rw [less_lt]; exact decide_eq_false fun q => tx_irr s (tx_trans hy q)
        have hne : (y == s) = false := by simpa using fun q : y = s => tx_irr s (by rw [q] at hy; exact hy)
        have HY := Lib.hid hy
        clear hy
        have HE : Hid (putS xs s = xs.take k ++ s :: xs.drop k) := Lib.hid (put_at hk HF.out (fun z hz => by have := HX.out.symm.trans hz; cases this; exact ⟨fun q => tx_irr s (tx_trans HY.out q), fun q => tx_irr s (by have := HY.out; rw [q] at this; exact this)⟩))
        have hp1 := (SeeV.part (h.see) k (xs.length - k) (by rw [List.length_map]; omega))
        have e1 : ((xs.map str).drop k).take (xs.length - k) = (xs.drop k).map str := by rw [List.take_of_length_le (by simp), List.map_drop]
        rw [e1, Nat.zero_add] at hp1
        have hp2 := (SeeV.part (h.see) 0 k (by rw [List.length_map]; omega))
        rw [List.drop_zero, ← List.map_take] at hp2
        have HP1 : Hid (SeeV w w.heap.size (.slice (some ⟨g, k, none⟩) (xs.length - k) (c - k)) ((xs.drop k).map str)) := Lib.hid hp1
        have HP2 : Hid (SeeV w w.heap.size (.slice (some ⟨g, 0, none⟩) k c) ((xs.take k).map str)) := Lib.hid hp2
        clear hp1 hp2 e1
        go_wp2_with fail
        refine (l1Texts_any w.heap.size g k (xs.length - k) (c - k) (xs.drop k) (by rw [List.length_drop]) _ HP1.out (Nat.le_refl _) (by rw [List.length_drop]; omega)).mono ?_
        rintro e w1 ⟨g1, c1, rfl, o1, b1⟩
        go_wp2_with fail
        refine (l1Texts_any w.heap.size g 0 k c (xs.take k) (by rw [List.length_take]; omega) _ (HP2.out.below b1) b1.size (by rw [List.length_take]; omega)).mono ?_
        rintro e w2 ⟨g2, c2, rfl, o2, b2⟩
        have s1 := o1.see.below b2
        have HO2 : Hid (w2.ownsRow w1.heap.size 9 1 (.slice (some ⟨g2, 0, none⟩) k c2) k ((xs.take k).map str)) := Lib.hid (by
          have := o2
          unfold OwnV at this
          rwa [List.length_map, List.length_take, Nat.min_eq_left (by omega)] at this)
        have hk2 : k ≤ 1048576 := by omega
        have h12 := b2.size
        go_wp2_with first
          | (at_builtin; refine wpList_append_own _ rfl _ _ 48 rfl w1.heap.size 9 i0 (.string ⟨#[]⟩) 1 16 Tryz.underlying48 hi hz0 hz1 hz2 rfl (by decide) _ _ _ rfl hown3 ⟨g1, 0, none⟩ (xs.length - k) c1 ((xs.drop k).map str) rfl (by simp) HS3.out (fun u hu => str_one u _ hu) (by unfold maxLen; omega) (by omega) (by have := b3.size; omega) ?_; intro v4 w4 hown4 hgrow4 hnil4)
          | (at_builtin; refine wpList_append_own _ rfl _ _ 48 rfl w1.heap.size 9 i0 (.string ⟨#[]⟩) 1 16 Tryz.underlying48 hi hz0 hz1 hz2 rfl (by decide) _ _ _ rfl (World.ownsRow.alloc HO2.out _) ⟨w2.heap.size, 0, none⟩ 1 1 [str s] rfl rfl (cell_one_new _ _ _) (by simp [Value.oneCell']) (by unfold maxLen; omega) (by omega) (by simp; omega) ?_; intro v3 w3 hown3 hgrow3 hnil3; obtain ⟨g3, c3, rfl⟩ := ownsRow_succ hown3; have b3 : Below w1.heap.size w2 w3 := ((Below.refl _ w2).alloc h12 _).grown hgrow3 (by simp; omega) (fun j hj => (World.ownsRow.lt HO2.out j hj).1); have s3 := s1.below b3; have HS3 : Hid (∀ j u, ((xs.drop k).map str)[j]? = some u → w3.cell? ((⟨g1, 0, none⟩ : Addr).add j) = some u) := Lib.hid (fun j u hu => by (obtain ⟨gg, oo, e, _, hc⟩ := s3.at_ hu); cases e; rw [add_at]; exact hc))
        go_ret
        rw [HE.out]
        obtain ⟨g4, c4, rfl, o4⟩ := put_fin hk hown4 (Nat.le_trans hB b1.size)
        refine ⟨g4, c4, rfl, o4, ?_⟩
        have hw1 := b1.size
        have b4 : Below w1.heap.size w3 w4 := (Below.refl _ w3).grown hgrow4 (by have := b3.size; omega) (fun j hj => (World.ownsRow.lt hown3 j hj).1)
        exact (below_then b1 b2 (Nat.le_refl _)).trans ((b3.trans b4).mono hw1)
    · have HKL : Hid (k = xs.length) := Lib.hid (by omega)
      by_cases hck : c = k
      · skip
        have HE : Hid (putS xs s = xs.take k ++ s :: xs.drop k) := Lib.hid (put_at hk HF.out (fun z hz => by rw [HKL.out] at hz; simp at hz))
        have hp1 := (SeeV.part (h.see) k (xs.length - k) (by rw [List.length_map]; omega))
        have e1 : ((xs.map str).drop k).take (xs.length - k) = (xs.drop k).map str := by rw [List.take_of_length_le (by simp), List.map_drop]
        rw [e1, Nat.zero_add] at hp1
        have hp2 := (SeeV.part (h.see) 0 k (by rw [List.length_map]; omega))
        rw [List.drop_zero, ← List.map_take] at hp2
        have HP1 : Hid (SeeV w w.heap.size (.slice (some ⟨g, 0, none⟩) (xs.length - k) 0) ((xs.drop k).map str)) := Lib.hid (by have e2 : xs.drop k = [] := List.drop_of_length_le (by omega); rw [e2, show xs.length - k = 0 by omega]; exact ⟨by simp, _, _, rfl, Nat.le_refl _, fun j x hx => by simp at hx⟩)
        have HP2 : Hid (SeeV w w.heap.size (.slice (some ⟨g, 0, none⟩) k k) ((xs.take k).map str)) := Lib.hid (by rw [hck] at hp2; exact hp2)
        clear hp1 hp2 e1
        go_wp2_with fail
        refine (l1Texts_any w.heap.size g 0 (xs.length - k) 0 (xs.drop k) (by rw [List.length_drop]) _ HP1.out (Nat.le_refl _) (by rw [List.length_drop]; omega)).mono ?_
        rintro e w1 ⟨g1, c1, rfl, o1, b1⟩
        go_wp2_with fail
        refine (l1Texts_any w.heap.size g 0 k k (xs.take k) (by rw [List.length_take]; omega) _ (HP2.out.below b1) b1.size (by rw [List.length_take]; omega)).mono ?_
        rintro e w2 ⟨g2, c2, rfl, o2, b2⟩
        have s1 := o1.see.below b2
        have HO2 : Hid (w2.ownsRow w1.heap.size 9 1 (.slice (some ⟨g2, 0, none⟩) k c2) k ((xs.take k).map str)) := Lib.hid (by
          have := o2
          unfold OwnV at this
          rwa [List.length_map, List.length_take, Nat.min_eq_left (by omega)] at this)
        have hk2 : k ≤ 1048576 := by omega
        have h12 := b2.size
        go_wp2_with first
          | (at_builtin; refine wpList_append_own _ rfl _ _ 48 rfl w1.heap.size 9 i0 (.string ⟨#[]⟩) 1 16 Tryz.underlying48 hi hz0 hz1 hz2 rfl (by decide) _ _ _ rfl hown3 ⟨g1, 0, none⟩ (xs.length - k) c1 ((xs.drop k).map str) rfl (by simp) HS3.out (fun u hu => str_one u _ hu) (by unfold maxLen; omega) (by omega) (by have := b3.size; omega) ?_; intro v4 w4 hown4 hgrow4 hnil4)
          | (at_builtin; refine wpList_append_own _ rfl _ _ 48 rfl w1.heap.size 9 i0 (.string ⟨#[]⟩) 1 16 Tryz.underlying48 hi hz0 hz1 hz2 rfl (by decide) _ _ _ rfl (World.ownsRow.alloc HO2.out _) ⟨w2.heap.size, 0, none⟩ 1 1 [str s] rfl rfl (cell_one_new _ _ _) (by simp [Value.oneCell']) (by unfold maxLen; omega) (by omega) (by simp; omega) ?_; intro v3 w3 hown3 hgrow3 hnil3; obtain ⟨g3, c3, rfl⟩ := ownsRow_succ hown3; have b3 : Below w1.heap.size w2 w3 := ((Below.refl _ w2).alloc h12 _).grown hgrow3 (by simp; omega) (fun j hj => (World.ownsRow.lt HO2.out j hj).1); have s3 := s1.below b3; have HS3 : Hid (∀ j u, ((xs.drop k).map str)[j]? = some u → w3.cell? ((⟨g1, 0, none⟩ : Addr).add j) = some u) := Lib.hid (fun j u hu => by (obtain ⟨gg, oo, e, _, hc⟩ := s3.at_ hu); cases e; rw [add_at]; exact hc))
        go_ret
        rw [HE.out]
        obtain ⟨g4, c4, rfl, o4⟩ := put_fin hk hown4 (Nat.le_trans hB b1.size)
        refine ⟨g4, c4, rfl, o4, ?_⟩
        have hw1 := b1.size
        have b4 : Below w1.heap.size w3 w4 := (Below.refl _ w3).grown hgrow4 (by have := b3.size; omega) (fun j hj => (World.ownsRow.lt hown3 j hj).1)
        exact (below_then b1 b2 (Nat.le_refl _)).trans ((b3.trans b4).mono hw1)
      · skip
        have HE : Hid (putS xs s = xs.take k ++ s :: xs.drop k) := Lib.hid (put_at hk HF.out (fun z hz => by rw [HKL.out] at hz; simp at hz))
        have hp1 := (SeeV.part (h.see) k (xs.length - k) (by rw [List.length_map]; omega))
        have e1 : ((xs.map str).drop k).take (xs.length - k) = (xs.drop k).map str := by rw [List.take_of_length_le (by simp), List.map_drop]
        rw [e1, Nat.zero_add] at hp1
        have hp2 := (SeeV.part (h.see) 0 k (by rw [List.length_map]; omega))
        rw [List.drop_zero, ← List.map_take] at hp2
        have HP1 : Hid (SeeV w w.heap.size (.slice (some ⟨g, k, none⟩) (xs.length - k) (c - k)) ((xs.drop k).map str)) := Lib.hid hp1
        have HP2 : Hid (SeeV w w.heap.size (.slice (some ⟨g, 0, none⟩) k c) ((xs.take k).map str)) := Lib.hid hp2
        clear hp1 hp2 e1
        go_wp2_with fail
        refine (l1Texts_any w.heap.size g k (xs.length - k) (c - k) (xs.drop k) (by rw [List.length_drop]) _ HP1.out (Nat.le_refl _) (by rw [List.length_drop]; omega)).mono ?_
        rintro e w1 ⟨g1, c1, rfl, o1, b1⟩
        go_wp2_with fail
        refine (l1Texts_any w.heap.size g 0 k c (xs.take k) (by rw [List.length_take]; omega) _ (HP2.out.below b1) b1.size (by rw [List.length_take]; omega)).mono ?_
        rintro e w2 ⟨g2, c2, rfl, o2, b2⟩
        have s1 := o1.see.below b2
        have HO2 : Hid (w2.ownsRow w1.heap.size 9 1 (.slice (some ⟨g2, 0, none⟩) k c2) k ((xs.take k).map str)) := Lib.hid (by
          have := o2
          unfold OwnV at this
          rwa [List.length_map, List.length_take, Nat.min_eq_left (by omega)] at this)
        have hk2 : k ≤ 1048576 := by omega
        have h12 := b2.size
        go_wp2_with first
          | (at_builtin; refine wpList_append_own _ rfl _ _ 48 rfl w1.heap.size 9 i0 (.string ⟨#[]⟩) 1 16 Tryz.underlying48 hi hz0 hz1 hz2 rfl (by decide) _ _ _ rfl hown3 ⟨g1, 0, none⟩ (xs.length - k) c1 ((xs.drop k).map str) rfl (by simp) HS3.out (fun u hu => str_one u _ hu) (by unfold maxLen; omega) (by omega) (by have := b3.size; omega) ?_; intro v4 w4 hown4 hgrow4 hnil4)
          | (at_builtin; refine wpList_append_own _ rfl _ _ 48 rfl w1.heap.size 9 i0 (.string ⟨#[]⟩) 1 16 Tryz.underlying48 hi hz0 hz1 hz2 rfl (by decide) _ _ _ rfl (World.ownsRow.alloc HO2.out _) ⟨w2.heap.size, 0, none⟩ 1 1 [str s] rfl rfl (cell_one_new _ _ _) (by simp [Value.oneCell']) (by unfold maxLen; omega) (by omega) (by simp; omega) ?_; intro v3 w3 hown3 hgrow3 hnil3; obtain ⟨g3, c3, rfl⟩ := ownsRow_succ hown3; have b3 : Below w1.heap.size w2 w3 := ((Below.refl _ w2).alloc h12 _).grown hgrow3 (by simp; omega) (fun j hj => (World.ownsRow.lt HO2.out j hj).1); have s3 := s1.below b3; have HS3 : Hid (∀ j u, ((xs.drop k).map str)[j]? = some u → w3.cell? ((⟨g1, 0, none⟩ : Addr).add j) = some u) := Lib.hid (fun j u hu => by (obtain ⟨gg, oo, e, _, hc⟩ := s3.at_ hu); cases e; rw [add_at]; exact hc))
        go_ret
        rw [HE.out]
        obtain ⟨g4, c4, rfl, o4⟩ := put_fin hk hown4 (Nat.le_trans hB b1.size)
        refine ⟨g4, c4, rfl, o4, ?_⟩
        have hw1 := b1.size
        have b4 : Below w1.heap.size w3 w4 := (Below.refl _ w3).grown hgrow4 (by have := b3.size; omega) (fun j hj => (World.ownsRow.lt hown3 j hj).1)
        exact (below_then b1 b2 (Nat.le_refl _)).trans ((b3.trans b4).mono hw1)

end Go.Proofs.YtigcbegeaikfcaaGreatDoor

namespace Go.Proofs.YtigcbegeaikfcaaGreatDoor
open Go.RowKit
set_option linter.unusedVariables false

def gatesL : List Txt := [[48], [49], [50], [51]]
def gateI (s : Txt) : Int := match gateN s with
  | some g => (g : Int)
  | none => -1
theorem gateI_idx (s : Txt) : gateI s = idxS gatesL s 0 := by
  unfold gateI gateN gatesL
  simp only [idxS, eq_comm (a := s)]
  repeat' split
  all_goals simp_all
  all_goals omega
theorem gateI_some {s : Txt} {g : Nat} (h : gateN s = some g) : gateI s = (g : Int) := by unfold gateI; rw [h]
theorem gateI_none {s : Txt} (h : gateN s = none) : gateI s = -1 := by unfold gateI; rw [h]

set_option maxHeartbeats 1000000 in
theorem l7Gate_any (s : Txt) (w : World) : Calls Tryz.prog 118 #[str s] w (IntLt w (gateI s)) := by
  have HO := Lib.hid (gateI_idx s)
  go_enter Tryz.func118, Tryz.ntmps118
  go_wp2_with fail
  have bA : Below w.heap.size w (w.alloc (.cells #[str [48], str [49], str [50], str [51]] 9)) := (Below.refl _ w).alloc (Nat.le_refl _) _
  have hs : SeeV (w.alloc (.cells #[str [48], str [49], str [50], str [51]] 9)) (w.heap.size + 1) (.slice (some ⟨w.heap.size, 0, none⟩) 4 4) (gatesL.map str) := by
    refine ⟨by decide, _, _, rfl, by simp [gatesL], fun k x hx => ⟨_, _, rfl, by omega, ?_⟩⟩
    rw [Nat.zero_add, cell_of_row _ _ k _ _ (0, 0) (heap_alloc_new _ _)]
    rw [← hx]
    simp [gatesL]
  refine (l1At_any _ _ gatesL s _ hs).mono ?_
  rintro e w' ⟨rfl, rfl⟩
  generalize idxS gatesL s 0 = z at HO ⊢
  go_wp2_with fail
  go_ret
  exact ⟨ret_int HO.out.symm, bA⟩

def sgI7 (ss : List Txt) (a : Int) : Txt := if a < 0 then [] else sg7 ss a.toNat
theorem sgI7_nat (ss : List Txt) (k : Nat) : sgI7 ss (k : Int) = sg7 ss k := by unfold sgI7; rw [if_neg (by omega), Int.toNat_natCast]
theorem sgI7_neg {ss : List Txt} {a : Int} (h : a < 0) : sgI7 ss a = [] := by unfold sgI7; rw [if_pos h]
def TxtIs (w : World) (s : Txt) (e : Ending) (w' : World) : Prop := e = .returned (str s) ∧ w = w'
theorem ret_txt {a b : Txt} (h : a = b) : Ending.returned (str a) = .returned (str b) := by rw [h]

set_option maxHeartbeats 1000000 in
theorem l7Sign_any (B : Nat) (v : Value) (ss : List Txt) (a : Int) (w : World) (h : SeeV w B v (ss.map str)) (hn : ss.length ≤ 1048576) :
    Calls Tryz.prog 116 #[v, .int .i64 a] w (TxtIs w (sgI7 ss a)) := by
  obtain ⟨A, c, e⟩ := strs_shape h
  subst e
  by_cases ha : a < 0
  · have HE := Lib.hid (sgI7_neg (ss := ss) ha)
    go_enter Tryz.func116, Tryz.ntmps116
    go_wp2_with fail
    go_ret
    exact ⟨ret_txt HE.out.symm, rfl⟩
  · obtain ⟨k, rfl⟩ : ∃ k : Nat, a = k := ⟨a.toNat, by omega⟩
    by_cases hk : k < ss.length
    · have hx := List.getElem?_eq_getElem hk
      generalize ss[k] = x at hx
      have HE : Hid (sgI7 ss (k : Int) = x) := Lib.hid (by rw [sgI7_nat, sg7_some hx])
      obtain ⟨g, o, rfl, -, hc⟩ := strs_at h hx
      clear hx h
      go_enter Tryz.func116, Tryz.ntmps116
      go_wp2_with fail
      go_ret
      exact ⟨ret_txt HE.out.symm, rfl⟩
    · have HE : Hid (sgI7 ss (k : Int) = []) := Lib.hid (by rw [sgI7_nat, sg7_out (by omega)])
      clear h
      go_enter Tryz.func116, Tryz.ntmps116
      go_wp2_with fail
      go_ret
      exact ⟨ret_txt HE.out.symm, rfl⟩

end Go.Proofs.YtigcbegeaikfcaaGreatDoor

namespace Go.Proofs.YtigcbegeaikfcaaGreatDoor
open Go.RowKit
set_option linter.unusedVariables false

def endI (r : Option Nat) : Int := match r with
  | some e => (e : Int)
  | none => -1
def BlockR (ss : List Txt) (d k : Nat) : Option Nat → Prop
  | some e => ∃ m D, e = m + 1 ∧ sg7 ss k = wOpen ∧ Deeds ss (k + 1) m D ∧ sg7 ss m = wShut ∧ D + 1 ≤ d
  | none => ∀ m D, sg7 ss k = wOpen → Deeds ss (k + 1) m D → sg7 ss m = wShut → d < D + 1
def DeedR (ss : List Txt) (d k : Nat) : Option Nat → Prop
  | some e => ∃ D, One ss k e D ∧ D ≤ d
  | none => ∀ e D, One ss k e D → d < D
def EndOut (w : World) (R : Option Nat → Prop) (e : Ending) (w' : World) : Prop := ∃ r, e = .returned (.int .i64 (endI r)) ∧ R r ∧ Below w.heap.size w w'
def DeedAt (d : Nat) : Prop := ∀ (B : Nat) (v : Value) (ss : List Txt) (k : Nat) (w : World), SeeV w B v (ss.map str) → B ≤ w.heap.size → shortS ss → ss.length ≤ 1048576 → k ≤ 1048577 →
  Calls Tryz.prog 69 #[v, .int .i64 (k : Int), .int .i64 (d : Int)] w (EndOut w (DeedR ss d k))
def BlockAt (d : Nat) : Prop := ∀ (B : Nat) (v : Value) (ss : List Txt) (k : Nat) (w : World), SeeV w B v (ss.map str) → B ≤ w.heap.size → shortS ss → ss.length ≤ 1048576 → k ≤ 1048577 →
  Calls Tryz.prog 119 #[v, .int .i64 (k : Int), .int .i64 (d : Int)] w (EndOut w (BlockR ss d k))

set_option maxHeartbeats 1000000 in
theorem block_neg (B : Nat) (v : Value) (ss : List Txt) (d : Int) (w : World) (h : SeeV w B v (ss.map str)) (hn : ss.length ≤ 1048576) : Calls Tryz.prog 119 #[v, .int .i64 (-1), .int .i64 d] w fun e w' => e = .returned (.int .i64 (-1)) ∧ w = w' := by
  obtain ⟨A, c, e⟩ := strs_shape h
  subst e
  have HG := Lib.hid (sgI7_neg (ss := ss) (a := -1) (by omega))
  go_enter Tryz.func119, Tryz.ntmps119
  go_wp2_with fail
  refine (l7Sign_any B _ ss _ _ h hn).mono ?_
  rintro e w' ⟨rfl, rfl⟩
  rw [HG.out]
  go_wp2_with fail
  go_ret
  exact ⟨rfl, rfl⟩

set_option maxHeartbeats 1000000 in
theorem block_shut (B : Nat) (v : Value) (ss : List Txt) (k : Nat) (d : Int) (w : World) (h : SeeV w B v (ss.map str)) (hn : ss.length ≤ 1048576) (ho : ¬ sg7 ss k = wOpen) : Calls Tryz.prog 119 #[v, .int .i64 (k : Int), .int .i64 d] w fun e w' => e = .returned (.int .i64 (-1)) ∧ w = w' := by
  obtain ⟨A, c, e⟩ := strs_shape h
  subst e
  have HG := Lib.hid (sgI7_nat ss k)
  have hne : (sg7 ss k == [91]) = false := by simpa using ho
  generalize sg7 ss k = x at HG hne
  go_enter Tryz.func119, Tryz.ntmps119
  go_wp2_with fail
  refine (l7Sign_any B _ ss _ _ h hn).mono ?_
  rintro e w' ⟨rfl, rfl⟩
  rw [HG.out]
  go_wp2_with fail
  go_ret
  exact ⟨rfl, rfl⟩

set_option maxHeartbeats 1000000 in
theorem block_flat (B : Nat) (v : Value) (ss : List Txt) (k : Nat) (w : World) (h : SeeV w B v (ss.map str)) (hn : ss.length ≤ 1048576) (ho : sg7 ss k = wOpen) : Calls Tryz.prog 119 #[v, .int .i64 (k : Int), .int .i64 0] w fun e w' => e = .returned (.int .i64 (-1)) ∧ w = w' := by
  obtain ⟨A, c, e⟩ := strs_shape h
  subst e
  have HG := Lib.hid ((sgI7_nat ss k).trans ho)
  go_enter Tryz.func119, Tryz.ntmps119
  go_wp2_with fail
  refine (l7Sign_any B _ ss _ _ h hn).mono ?_
  rintro e w' ⟨rfl, rfl⟩
  rw [HG.out]
  go_wp2_with fail
  go_ret
  exact ⟨rfl, rfl⟩

set_option maxHeartbeats 4000000 in
theorem block_deep (d : Nat) (hd : DeedAt d) (hd5 : d ≤ 5) (B : Nat) (v : Value) (ss : List Txt) (k : Nat) (w : World) (h : SeeV w B v (ss.map str)) (hB : B ≤ w.heap.size) (hS : shortS ss) (hn : ss.length ≤ 1048576) (ho : sg7 ss k = wOpen) :
    Calls Tryz.prog 119 #[v, .int .i64 (k : Int), .int .i64 ((d : Int) + 1)] w (EndOut w (BlockR ss (d + 1) k)) := by
  obtain ⟨A, c, e⟩ := strs_shape h
  subst e
  have hk := sg7_in (ss := ss) (k := k) (by rw [ho]; simp)
  have HG := Lib.hid ((sgI7_nat ss k).trans ho)
  have HO := Lib.hid ho
  clear ho
  have hd0 : (((d : Int) + 1) == 0) = false := by simp; omega
  have hd1 : ((d : Int) + 1) - 1 = (d : Int) := by omega
  go_enter Tryz.func119, Tryz.ntmps119
  go_wp2_with fail
  refine (l7Sign_any B _ ss _ _ h hn).mono ?_
  rintro e w' ⟨rfl, rfl⟩
  rw [HG.out]
  go_wp2_with fail
  go_loopw [1] (fun i wr => Below w.heap.size w wr ∧ ((∃ p : Nat, i = .int .i64 (p : Int) ∧ k + 1 ≤ p ∧ p ≤ ss.length ∧ ∃ D, Deeds ss (k + 1) p D ∧ D ≤ d) ∨ (i = .int .i64 (-1) ∧ ∀ m D, Deeds ss (k + 1) m D → sg7 ss m = wShut → d < D))) (fun i _ => if intOf i < 0 then 0 else ss.length + 1 - (intOf i).toNat)
  case atStart => exact ⟨Below.refl _ _, .inl ⟨k + 1, by go_num, Nat.le_refl _, hk, 0, .nil _, Nat.zero_le _⟩⟩
  case round =>
    obtain ⟨hbw, hst⟩ := hrel
    rcases hst with ⟨p, rfl, hp1, hp2, D, hD, hDd⟩ | ⟨rfl, hno⟩
    · have HD := Lib.hid hD
      clear hD
      have hp0 : decide (0 ≤ (p : Int)) = true := by simp
      by_cases hs : sg7 ss p = wShut
      · have HS := Lib.hid hs
        have HGP := Lib.hid ((sgI7_nat ss p).trans hs)
        clear hs
        go_wp2_with fail
        refine (l7Sign_any B _ ss _ _ (h.below (hbw.mono hB)) hn).mono ?_
        rintro e w' ⟨rfl, rfl⟩
        rw [HGP.out]
        go_wp2_with fail
        go_ret
        exact ⟨some (p + 1), ret_int (by simp [endI]), ⟨p, D, rfl, HO.out, HD.out, HS.out, by omega⟩, hbw⟩
      · have HS := Lib.hid hs
        have HGP := Lib.hid (sgI7_nat ss p)
        have hne : (sg7 ss p == [93]) = false := by simpa using hs
        clear hs
        generalize hx : sg7 ss p = x at HGP hne
        have HX := Lib.hid hx
        clear hx
        go_wp2_with fail
        refine (l7Sign_any B _ ss _ _ (h.below (hbw.mono hB)) hn).mono ?_
        rintro e w' ⟨rfl, rfl⟩
        rw [HGP.out]
        go_wp2_with fail
        first | rw [hd1] | skip
        refine (hd B _ ss p _ (h.below (hbw.mono hB)) (Nat.le_trans hB hbw.size) hS hn (by omega)).mono ?_
        rintro e w2 ⟨r, rfl, hr, b2⟩
        have HR := Lib.hid hr
        clear hr
        replace b2 := below_then hbw b2 (Nat.le_refl _)
        cases r with
        | some e2 =>
          have hlt : p < e2 ∧ e2 ≤ ss.length := by obtain ⟨_, h1, _⟩ := HR.out; exact h1.lt
          simp only [endI]
          go_wp2_with fail
          go_roundw
          case rel => exact ⟨b2, .inl ⟨e2, rfl, by omega, hlt.2, by obtain ⟨D2, h1, h2⟩ := HR.out; exact ⟨_, HD.out.snoc h1, by omega⟩⟩⟩
          case measure =>
            show (if (e2 : Int) < 0 then 0 else ss.length + 1 - (e2 : Int).toNat) < (if (p : Int) < 0 then 0 else ss.length + 1 - (p : Int).toNat)
            rw [if_neg (by omega), if_neg (by omega)]
            omega
        | none =>
          simp only [endI]
          go_wp2_with fail
          go_roundw
          case rel => exact ⟨b2, .inr ⟨rfl, fun m D' h1 h2 => HD.out.stuck h1 (shut_head h2) (fun q => by subst q; exact HS.out h2) HR.out⟩⟩
          case measure =>
            show (if (-1 : Int) < 0 then 0 else ss.length + 1 - (-1 : Int).toNat) < (if (p : Int) < 0 then 0 else ss.length + 1 - (p : Int).toNat)
            rw [if_pos (by omega), if_neg (by omega)]
            omega
    · have HN := Lib.hid hno
      clear hno
      go_wp2_with fail
      go_ret
      exact ⟨none, rfl, fun m D _ h1 h2 => by have := HN.out m D h1 h2; omega, hbw⟩

theorem block_at (d : Nat) (hd5 : d ≤ 5) (hd : ∀ n, d = n + 1 → DeedAt n) : BlockAt d := by
  intro B v ss k w h hB hS hn hk
  by_cases ho : sg7 ss k = wOpen
  · cases d with
    | zero =>
      refine (block_flat B v ss k w h hn ho).mono fun e w' ⟨he, hw⟩ => ⟨none, he, fun m D _ _ _ => by omega, ?_⟩
      rw [← hw]; exact Below.refl _ _
    | succ n => exact block_deep n (hd n rfl) (by omega) B v ss k w h hB hS hn ho
  · refine (block_shut B v ss k d w h hn ho).mono fun e w' ⟨he, hw⟩ => ⟨none, he, fun m D q => absurd q ho, ?_⟩
    rw [← hw]; exact Below.refl _ _

theorem endI_nat {x : Int} (h : x = -1 ∨ 0 ≤ x) : x = endI (nnE x) := by
  rcases h with rfl | h
  · rfl
  · unfold nnE; rw [if_pos h]; show x = ((x.toNat : Nat) : Int); omega
theorem flat_other {ss : List Txt} {k : Nat} (h1 : ¬ sg7 ss k = wSet) (h2 : ¬ sg7 ss k = wIn) (h3 : ¬ sg7 ss k = wOut) (h4 : ¬ sg7 ss k = wStop) : flatE ss k = none := by
  unfold flatE; rw [if_neg h1, if_neg h2, if_neg h3, if_neg h4]
theorem flat_set {ss : List Txt} {k : Nat} (h : sg7 ss k = wSet) : flatE ss k = if nameB (sg7 ss (k + 1)) = true then nnE (sumEndS ss ((k + 2 : Nat) : Int)) else none := by unfold flatE; rw [if_pos h]
theorem flat_in7 {ss : List Txt} {k : Nat} (h : sg7 ss k = wIn) : flatE ss k = if nameB (sg7 ss (k + 1)) = true ∧ (gateN (sg7 ss (k + 2))).isSome = true then some (k + 3) else none := by
  unfold flatE; rw [if_neg (by rw [h]; decide), if_pos h]
theorem flat_out {ss : List Txt} {k : Nat} (h : sg7 ss k = wOut) : flatE ss k = if (gateN (sg7 ss (k + 1))).isSome = true then nnE (sumEndS ss ((k + 2 : Nat) : Int)) else none := by
  unfold flatE; rw [if_neg (by rw [h]; decide), if_neg (by rw [h]; decide), if_pos h]
theorem flat_stop {ss : List Txt} {k : Nat} (h : sg7 ss k = wStop) : flatE ss k = some (k + 1) := by
  unfold flatE; rw [if_neg (by rw [h]; decide), if_neg (by rw [h]; decide), if_neg (by rw [h]; decide), if_pos h]
theorem deedR_flat {ss : List Txt} {d k : Nat} (h1 : ¬ sg7 ss k = wIf) (h2 : ¬ sg7 ss k = wWhile) : DeedR ss d k (flatE ss k) := by
  cases hf : flatE ss k with
  | some e => exact ⟨0, .flat hf, Nat.zero_le _⟩
  | none =>
    intro e D ho
    cases ho with
    | flat h => rw [hf] at h; cases h
    | loop a => exact absurd a h2
    | fork a => exact absurd a h1
theorem end_cases (ss : List Txt) (a : Int) : sumEndS ss a = -1 ∨ 0 ≤ sumEndS ss a := end_dec ss a

set_option maxHeartbeats 4000000 in
theorem deed_at (d : Nat) (hd5 : d ≤ 5) (hb : BlockAt d) : DeedAt d := by
  intro B v ss k w h hB hS hn hk
  obtain ⟨A, c, e⟩ := strs_shape h
  subst e
  have HK := Lib.hid (sgI7_nat ss k)
  have HK1 : Hid (sgI7 ss ((k : Int) + 1) = sg7 ss (k + 1)) := Lib.hid (sgI7_nat ss (k + 1))
  have HK2 : Hid (sgI7 ss ((k : Int) + 2) = sg7 ss (k + 2)) := Lib.hid (sgI7_nat ss (k + 2))
  have hs1 : ∀ j, (sg7 ss j).length ≤ 1048576 := fun j => by
    unfold sg7
    cases hj : ss[j]? with
    | none => simp
    | some x => exact hS x (List.mem_of_getElem? hj)
  by_cases h1 : sg7 ss k = wSet
  · have HE := Lib.hid (flat_set h1)
    have HR : Hid (DeedR ss d k (flatE ss k)) := Lib.hid (deedR_flat (by rw [h1]; decide) (by rw [h1]; decide))
    rw [h1] at HK
    clear h1
    have hl1 := hs1 (k + 1)
    have hcs := end_cases ss ((k + 2 : Nat) : Int)
    generalize sg7 ss (k + 1) = y at HK1 HE hl1
    go_enter Tryz.func69, Tryz.ntmps69
    go_wp2_with fail
    refine (l7Sign_any B _ ss _ _ h hn).mono ?_
    rintro e w' ⟨rfl, rfl⟩
    rw [HK.out]
    go_wp2_with fail
    refine (l7Sign_any B _ ss _ _ h hn).mono ?_
    rintro e w' ⟨rfl, rfl⟩
    rw [HK1.out]
    go_wp2_with fail
    refine (sNameOk_any y hl1 _).mono ?_
    rintro e w' ⟨rfl, rfl⟩
    cases hy : nameB y
    · have HF : Hid (flatE ss k = none) := Lib.hid (by rw [HE.out, hy]; rfl)
      go_wp2_with fail
      go_ret
      exact ⟨none, rfl, by have := HR.out; rwa [HF.out] at this, Below.refl _ _⟩
    · have HF : Hid (flatE ss k = nnE (sumEndS ss ((k + 2 : Nat) : Int))) := Lib.hid (by rw [HE.out, hy, if_pos rfl])
      go_wp2_with fail
      refine (sSumEnd_any B _ ss ((k + 2 : Nat) : Int) _ h hB hS hn).mono ?_
      rintro e w2 ⟨rfl, b2⟩
      generalize sumEndS ss ((k + 2 : Nat) : Int) = z at HF hcs ⊢
      go_wp2_with fail
      go_ret
      exact ⟨_, ret_int (endI_nat hcs), by have := HR.out; rwa [HF.out] at this, b2⟩
  by_cases h2 : sg7 ss k = wIn
  · have HE := Lib.hid (flat_in7 h2)
    have HR : Hid (DeedR ss d k (flatE ss k)) := Lib.hid (deedR_flat (by rw [h2]; decide) (by rw [h2]; decide))
    rw [h2] at HK
    clear h1 h2
    have hl1 := hs1 (k + 1)
    generalize sg7 ss (k + 1) = y at HK1 HE hl1
    generalize sg7 ss (k + 2) = z at HK2 HE
    go_enter Tryz.func69, Tryz.ntmps69
    go_wp2_with fail
    refine (l7Sign_any B _ ss _ _ h hn).mono ?_
    rintro e w' ⟨rfl, rfl⟩
    rw [HK.out]
    go_wp2_with fail
    refine (l7Sign_any B _ ss _ _ h hn).mono ?_
    rintro e w' ⟨rfl, rfl⟩
    rw [HK1.out]
    go_wp2_with fail
    refine (sNameOk_any y hl1 _).mono ?_
    rintro e w' ⟨rfl, rfl⟩
    cases hy : nameB y
    · have HF : Hid (flatE ss k = none) := Lib.hid (by rw [HE.out, hy]; simp)
      go_wp2_with fail
      go_ret
      exact ⟨none, rfl, by have := HR.out; rwa [HF.out] at this, Below.refl _ _⟩
    · go_wp2_with fail
      refine (l7Sign_any B _ ss _ _ h hn).mono ?_
      rintro e w' ⟨rfl, rfl⟩
      rw [HK2.out]
      go_wp2_with fail
      refine (l7Gate_any z _).mono ?_
      rintro e w2 ⟨rfl, b2⟩
      cases hz : gateN z with
      | none =>
        have HF : Hid (flatE ss k = none) := Lib.hid (by rw [HE.out, hz]; simp)
        rw [gateI_none hz]
        go_wp2_with fail
        go_ret
        exact ⟨none, rfl, by have := HR.out; rwa [HF.out] at this, b2⟩
      | some g =>
        have HF : Hid (flatE ss k = some (k + 3)) := Lib.hid (by rw [HE.out, hy, hz]; simp)
        rw [gateI_some hz]
        have hg0 : decide ((g : Int) < 0) = false := by simp
        go_wp2_with fail
        go_ret
        exact ⟨some (k + 3), ret_int (by simp [endI]), by have := HR.out; rwa [HF.out] at this, b2⟩
  by_cases h3 : sg7 ss k = wOut
  · have HE := Lib.hid (flat_out h3)
    have HR : Hid (DeedR ss d k (flatE ss k)) := Lib.hid (deedR_flat (by rw [h3]; decide) (by rw [h3]; decide))
    rw [h3] at HK
    clear h1 h2 h3
    have hcs := end_cases ss ((k + 2 : Nat) : Int)
    generalize sg7 ss (k + 1) = y at HK1 HE
    go_enter Tryz.func69, Tryz.ntmps69
    go_wp2_with fail
    refine (l7Sign_any B _ ss _ _ h hn).mono ?_
    rintro e w' ⟨rfl, rfl⟩
    rw [HK.out]
    go_wp2_with fail
    refine (l7Sign_any B _ ss _ _ h hn).mono ?_
    rintro e w' ⟨rfl, rfl⟩
    rw [HK1.out]
    go_wp2_with fail
    refine (l7Gate_any y _).mono ?_
    rintro e w2 ⟨rfl, b2⟩
    cases hz : gateN y with
    | none =>
      have HF : Hid (flatE ss k = none) := Lib.hid (by rw [HE.out, hz]; simp)
      rw [gateI_none hz]
      go_wp2_with fail
      go_ret
      exact ⟨none, rfl, by have := HR.out; rwa [HF.out] at this, b2⟩
    | some g =>
      have HF : Hid (flatE ss k = nnE (sumEndS ss ((k + 2 : Nat) : Int))) := Lib.hid (by rw [HE.out, hz]; simp)
      rw [gateI_some hz]
      have hg0 : decide ((g : Int) < 0) = false := by simp
      go_wp2_with fail
      refine (sSumEnd_any B _ ss ((k + 2 : Nat) : Int) _ (h.below (b2.mono hB)) (Nat.le_trans hB b2.size) hS hn).mono ?_
      rintro e w3 ⟨rfl, b3⟩
      generalize sumEndS ss ((k + 2 : Nat) : Int) = z at HF hcs ⊢
      go_wp2_with fail
      go_ret
      exact ⟨_, ret_int (endI_nat hcs), by have := HR.out; rwa [HF.out] at this, below_then b2 b3 (Nat.le_refl _)⟩
  by_cases h4 : sg7 ss k = wStop
  · have HF := Lib.hid (flat_stop h4)
    have HR : Hid (DeedR ss d k (flatE ss k)) := Lib.hid (deedR_flat (by rw [h4]; decide) (by rw [h4]; decide))
    rw [h4] at HK
    clear h1 h2 h3 h4
    go_enter Tryz.func69, Tryz.ntmps69
    go_wp2_with fail
    refine (l7Sign_any B _ ss _ _ h hn).mono ?_
    rintro e w' ⟨rfl, rfl⟩
    rw [HK.out]
    go_wp2_with fail
    go_ret
    exact ⟨some (k + 1), ret_int (by simp [endI]), by have := HR.out; rwa [HF.out] at this, Below.refl _ _⟩
  by_cases h5 : sg7 ss k = wIf
  · have HH := Lib.hid h5
    rw [h5] at HK
    clear h1 h2 h3 h4 h5
    have hcs := end_cases ss ((k + 1 : Nat) : Int)
    have HA : Hid (askE ss k = nnE (sumEndS ss ((k + 1 : Nat) : Int))) := Lib.hid rfl
    go_enter Tryz.func69, Tryz.ntmps69
    go_wp2_with fail
    refine (l7Sign_any B _ ss _ _ h hn).mono ?_
    rintro e w' ⟨rfl, rfl⟩
    rw [HK.out]
    go_wp2_with fail
    refine (sSumEnd_any B _ ss ((k + 1 : Nat) : Int) _ h hB hS hn).mono ?_
    rintro e w2 ⟨rfl, b2⟩
    have s2 := h.below (b2.mono hB)
    have hB2 := Nat.le_trans hB b2.size
    generalize sumEndS ss ((k + 1 : Nat) : Int) = z at HA hcs ⊢
    rcases hcs with rfl | hz
    · go_wp2_with fail
      refine (block_neg B _ ss _ _ s2 hn).mono ?_
      rintro e w3 ⟨rfl, rfl⟩
      go_wp2_with fail
      refine (block_neg B _ ss _ _ s2 hn).mono ?_
      rintro e w3 ⟨rfl, rfl⟩
      go_wp2_with fail
      go_ret
      refine ⟨none, rfl, fun e D ho => ?_, b2⟩
      cases ho with
      | flat q => exact absurd HH.out (flat_head q).2.1
      | loop a => exact (ne_if_while HH.out a).elim
      | fork a b => rw [HA.out] at b; cases b
    · obtain ⟨j, rfl⟩ : ∃ j : Nat, z = j := ⟨z.toNat, by omega⟩
      have HJ : Hid (askE ss k = some j) := Lib.hid (by rw [HA.out, nnE_nat])
      have hj := ask_in HJ.out
      go_wp2_with fail
      refine (hb B _ ss j _ s2 hB2 hS hn (by omega)).mono ?_
      rintro e w3 ⟨r, rfl, hr, b3⟩
      replace b3 := below_then b2 b3 (Nat.le_refl _)
      have s3 := h.below (b3.mono hB)
      have hB3 := Nat.le_trans hB b3.size
      have HR := Lib.hid hr
      clear hr
      cases r with
      | none =>
        simp only [endI]
        go_wp2_with fail
        refine (block_neg B _ ss _ _ s3 hn).mono ?_
        rintro e w4 ⟨rfl, rfl⟩
        go_wp2_with fail
        go_ret
        refine ⟨none, rfl, fun e D ho => ?_, b3⟩
        cases ho with
        | flat q => exact absurd HH.out (flat_head q).2.1
        | loop a => exact (ne_if_while HH.out a).elim
        | fork a b c d f g i j =>
          rw [HJ.out] at b
          injection b with b
          subst b
          have := HR.out _ _ c d f
          omega
      | some e3 =>
        have he3 : e3 ≤ 1048577 := by
          obtain ⟨m, D, h1, h2, h3, h4, h5⟩ := HR.out
          have := sg7_in (ss := ss) (k := m) (by rw [h4]; simp)
          omega
        simp only [endI]
        go_wp2_with fail
        refine (hb B _ ss e3 _ s3 hB3 hS hn he3).mono ?_
        rintro e w4 ⟨r, rfl, hr, b4⟩
        replace b4 := below_then b3 b4 (Nat.le_refl _)
        have HR2 := Lib.hid hr
        clear hr
        obtain ⟨ee, HEE⟩ : ∃ ee, Hid (endI r = ee) := ⟨_, Lib.hid rfl⟩
        rw [HEE.out]
        go_wp2_with fail
        go_ret
        refine ⟨r, ret_int HEE.out.symm, ?_, b4⟩
        cases r with
        | some e4 =>
          obtain ⟨m, D, rfl, h2, h3, h4, h5⟩ := HR.out
          obtain ⟨m2, D2, rfl, i2, i3, i4, i5⟩ := HR2.out
          exact ⟨_, .fork HH.out HJ.out h2 h3 h4 i2 i3 i4, by omega⟩
        | none =>
          intro e D ho
          obtain ⟨m, D1, rfl, h2, h3, h4, h5⟩ := HR.out
          cases ho with
          | flat q => exact absurd HH.out (flat_head q).2.1
          | loop a => exact (ne_if_while HH.out a).elim
          | fork a b c d f g i j =>
            rw [HJ.out] at b
            injection b with b
            subst b
            obtain ⟨rfl, rfl⟩ := h3.det (shut_head h4) _ _ d (shut_head f)
            have := HR2.out _ _ g i j
            omega
  by_cases h6 : sg7 ss k = wWhile
  · have HH := Lib.hid h6
    rw [h6] at HK
    clear h1 h2 h3 h4 h5 h6
    have hcs := end_cases ss ((k + 1 : Nat) : Int)
    have HA : Hid (askE ss k = nnE (sumEndS ss ((k + 1 : Nat) : Int))) := Lib.hid rfl
    go_enter Tryz.func69, Tryz.ntmps69
    go_wp2_with fail
    refine (l7Sign_any B _ ss _ _ h hn).mono ?_
    rintro e w' ⟨rfl, rfl⟩
    rw [HK.out]
    go_wp2_with fail
    refine (sSumEnd_any B _ ss ((k + 1 : Nat) : Int) _ h hB hS hn).mono ?_
    rintro e w2 ⟨rfl, b2⟩
    have s2 := h.below (b2.mono hB)
    have hB2 := Nat.le_trans hB b2.size
    generalize sumEndS ss ((k + 1 : Nat) : Int) = z at HA hcs ⊢
    rcases hcs with rfl | hz
    · go_wp2_with fail
      refine (block_neg B _ ss _ _ s2 hn).mono ?_
      rintro e w3 ⟨rfl, rfl⟩
      go_wp2_with fail
      go_ret
      refine ⟨none, rfl, fun e D ho => ?_, b2⟩
      cases ho with
      | flat q => exact absurd HH.out (flat_head q).2.2
      | fork a => exact (ne_if_while a HH.out).elim
      | loop a b => rw [HA.out] at b; cases b
    · obtain ⟨j, rfl⟩ : ∃ j : Nat, z = j := ⟨z.toNat, by omega⟩
      have HJ : Hid (askE ss k = some j) := Lib.hid (by rw [HA.out, nnE_nat])
      have hj := ask_in HJ.out
      go_wp2_with fail
      refine (hb B _ ss j _ s2 hB2 hS hn (by omega)).mono ?_
      rintro e w3 ⟨r, rfl, hr, b3⟩
      replace b3 := below_then b2 b3 (Nat.le_refl _)
      have HR := Lib.hid hr
      clear hr
      obtain ⟨ee, HEE⟩ : ∃ ee, Hid (endI r = ee) := ⟨_, Lib.hid rfl⟩
      rw [HEE.out]
      go_wp2_with fail
      go_ret
      refine ⟨r, ret_int HEE.out.symm, ?_, b3⟩
      cases r with
      | some e4 =>
        obtain ⟨m, D, rfl, h2, h3, h4, h5⟩ := HR.out
        exact ⟨_, .loop HH.out HJ.out h2 h3 h4, h5⟩
      | none =>
        intro e D ho
        cases ho with
        | flat q => exact absurd HH.out (flat_head q).2.2
        | fork a => exact (ne_if_while a HH.out).elim
        | loop a b c d f =>
          rw [HJ.out] at b
          injection b with b
          subst b
          exact HR.out _ _ c d f
  · have HF := Lib.hid (flat_other h1 h2 h3 h4)
    have HR : Hid (DeedR ss d k (flatE ss k)) := Lib.hid (deedR_flat h5 h6)
    generalize sg7 ss k = x at *
    have e1 : (x == [115, 101, 116]) = false := by simpa using h1
    have e2 : (x == [105, 110]) = false := by simpa using h2
    have e3 : (x == [111, 117, 116]) = false := by simpa using h3
    have e4 : (x == [115, 116, 111, 112]) = false := by simpa using h4
    have e5 : (x == [105, 102]) = false := by simpa using h5
    have e6 : (x == [119, 104, 105, 108, 101]) = false := by simpa using h6
    clear h1 h2 h3 h4 h5 h6
    go_enter Tryz.func69, Tryz.ntmps69
    go_wp2_with fail
    refine (l7Sign_any B _ ss _ _ h hn).mono ?_
    rintro e w' ⟨rfl, rfl⟩
    rw [HK.out]
    go_wp2_with fail
    go_ret
    exact ⟨none, rfl, by have := HR.out; rwa [HF.out] at this, Below.refl _ _⟩

theorem deed_all : ∀ d, d ≤ 5 → DeedAt d
  | 0, h => deed_at 0 h (block_at 0 h (fun n q => by cases q))
  | d + 1, h => deed_at (d + 1) h (block_at (d + 1) h (fun n q => by injection q with q; subst q; exact deed_all d (by omega)))

end Go.Proofs.YtigcbegeaikfcaaGreatDoor
