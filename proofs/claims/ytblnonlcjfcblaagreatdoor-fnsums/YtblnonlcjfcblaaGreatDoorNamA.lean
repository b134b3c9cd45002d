/- Layer 6 (sums): the model's l1Texts, l6Put and NamesIn. No conditions but those typed. -/
import Derived.Test.YtblnonlcjfcblaaGreatDoorNamM
import Derived.Test.YtblnonlcjfcblaaGreatDoorTxtL
import Derived.Laws.AppendOwn
import Derived.Maps.AppendAt
import Derived.RangeFuncBox
import Derived.OwnWalk
namespace Go.Proofs.YtblnonlcjfcblaaGreatDoor
open Go.RowKit
set_option linter.unusedVariables false

theorem OwnV.more {w wr w1 : World} {B m : Nat} {e : TypeId} {v v' : Value} {xs ys : List Value} (hb : Below B w wr) (hB : B ≤ w.heap.size) (h : OwnV wr B e v xs) (hm : ys.length = m)
    (h1 : w1.ownsRow B e 1 v' (xs.length + m) (xs ++ ys)) (hg : wr.grownBy w1 v.ownBlock) : OwnV w1 B e v' (xs ++ ys) ∧ Below B w w1 := by
  refine ⟨?_, hb.grown hg (Nat.le_trans hB hb.size) (fun j hj => (h.lt j hj).1)⟩
  unfold OwnV
  rw [List.length_append, hm]
  exact h1
theorem str_one (u : Value) (xs : List Txt) (h : u ∈ xs.map str) : u.oneCell' = true := by
  obtain ⟨x, _, rfl⟩ := List.mem_map.1 h
  rfl
theorem OwnV.shape1 {w : World} {B : Nat} {e : TypeId} {v : Value} {xs : List Value} (h : OwnV w B e v xs) (hn : ¬ v = .slice none 0 0) : ∃ g c, v = .slice (some ⟨g, 0, none⟩) xs.length c := by
  rcases h.2 with ⟨q, _⟩ | ⟨g, cap, _, q, _⟩
  · exact absurd q hn
  · exact ⟨g, cap, q⟩

theorem add_at (g o j : Nat) : (⟨g, o, none⟩ : Addr).add j = ⟨g, o + j, none⟩ := by
  unfold Addr.add
  split
  · rename_i h; subst h; rfl
  · rfl

set_option maxHeartbeats 1000000 in
theorem l1Texts_any (B g o m c : Nat) (xs : List Txt) (hm : xs.length = m) (w : World) (h : SeeV w B (.slice (some ⟨g, o, none⟩) m c) (xs.map str)) (hB : B ≤ w.heap.size) (hn : xs.length ≤ 1048577) :
    Calls Tryz.prog 117 #[.slice (some ⟨g, o, none⟩) m c] w fun e w' => ∃ g' c', e = .returned (.slice (some ⟨g', 0, none⟩) m c') ∧ OwnV w' w.heap.size 9 (.slice (some ⟨g', 0, none⟩) m c') (xs.map str) ∧ Below w.heap.size w w' := by
  obtain ⟨i0, hi, hz0, hz1, hz2⟩ := info_parts Tryz.infoStr
  have hx : ∀ j u, (xs.map str)[j]? = some u → (w.alloc (.cells #[] 9)).cell? ((⟨g, o, none⟩ : Addr).add j) = some u := fun j u hu => by
    obtain ⟨g', o', e, _, hc⟩ := (h.alloc hB (.cells #[] 9)).at_ hu
    cases e
    rw [add_at]
    exact hc
  have HX := Lib.hid hx
  have HM := Lib.hid hm
  clear hx h
  have hn' : m ≤ 1048577 := by omega
  clear hm hn
  go_enter Tryz.func117, Tryz.ntmps117
  go_wp2_with (at_builtin; refine wpList_append_own _ rfl _ _ 22 rfl w.heap.size 9 i0 (.string ⟨#[]⟩) 1 16 Tryz.underlying22 hi hz0 hz1 hz2 rfl (by decide) _ _ _ rfl (OwnV.empty w w.heap.size 9 (Nat.le_refl _)) ⟨g, o, none⟩ m c (xs.map str) rfl (by rw [List.length_map, HM.out, Nat.mul_one]) HX.out (fun u hu => str_one u xs hu) (by unfold maxLen; simp; omega) (by simp; omega) (by simp) ?_; intro v' w1 hown hgrow hnil)
  go_ret
  have hown2 : OwnV w1 w.heap.size 9 v' (xs.map str) := by
    unfold OwnV
    rw [List.length_map, HM.out]
    simpa using hown
  obtain ⟨g', c', rfl⟩ := hown2.shape1 (fun q => by have := (hnil.1 q).1; change Value.slice (some ⟨w.heap.size, 0, none⟩) 0 0 = .slice none 0 0 at this; cases this)
  rw [List.length_map, HM.out] at hown2 ⊢
  exact ⟨g', c', rfl, hown2, ((Below.refl _ w).alloc (Nat.le_refl _) _).grown hgrow (by simp) (fun j hj => by cases hj; exact Nat.le_refl _)⟩

def PutOut (B : Nat) (xs : List Txt) (w : World) (e : Ending) (w' : World) : Prop := ∃ g' c', e = .returned (.slice (some ⟨g', 0, none⟩) xs.length c') ∧ OwnV w' B 9 (.slice (some ⟨g', 0, none⟩) xs.length c') (xs.map str) ∧ Below w.heap.size w w'
theorem cap_of {w : World} {B g n c : Nat} {e : TypeId} {xs : List Value} (h : OwnV w B e (.slice (some ⟨g, 0, none⟩) n c) xs) : xs.length ≤ c := by
  rcases h.2 with ⟨q, _⟩ | ⟨g2, cap2, cur, q, _, _, h3, _⟩
  · cases q
  · cases q; exact h3

theorem put_fin {W : World} {B B' k : Nat} {xs : List Txt} {s : Txt} {v : Value} (hk : k ≤ xs.length) (h : W.ownsRow B' 9 1 v (k + 1 + (xs.length - k)) ((xs.take k).map str ++ [str s] ++ (xs.drop k).map str)) (hB : B ≤ B') :
    ∃ g c, v = .slice (some ⟨g, 0, none⟩) (xs.take k ++ s :: xs.drop k).length c ∧ OwnV W B 9 v ((xs.take k ++ s :: xs.drop k).map str) := by
  have hl : (xs.take k ++ s :: xs.drop k).length = k + 1 + (xs.length - k) := by simp; omega
  have hm : (xs.take k ++ s :: xs.drop k).map str = (xs.take k).map str ++ [str s] ++ (xs.drop k).map str := by simp
  have ho : OwnV W B' 9 v ((xs.take k ++ s :: xs.drop k).map str) := by
    unfold OwnV
    rw [List.length_map, hl, hm]
    exact h
  rcases ho.2 with ⟨_, q⟩ | ⟨g, c, _, q, _⟩
  · rw [List.length_map, hl] at q; omega
  · rw [List.length_map] at q; exact ⟨g, c, q, ho.less hB⟩

set_option maxRecDepth 100000 in
set_option maxHeartbeats 4000000 in
theorem l6Put_any (B g c : Nat) (xs : List Txt) (s : Txt) (w : World) (h : OwnV w B 9 (.slice (some ⟨g, 0, none⟩) xs.length c) (xs.map str)) (hB : B ≤ w.heap.size) (hn : xs.length ≤ 1048576) :
    Calls Tryz.prog 79 #[.slice (some ⟨g, 0, none⟩) xs.length c, str s] w (PutOut B (putS xs s) w) := by
  obtain ⟨i0, hi, hz0, hz1, hz2⟩ := info_parts Tryz.infoStr
  have hcap := cap_of h
  rw [List.length_map] at hcap
  go_enter Tryz.func79, Tryz.ntmps79
  go_wp2_with fail
  go_loop [5] (fun i => ∃ k : Nat, k ≤ xs.length ∧ i = .int .i64 k ∧ ∀ j, j < k → ∃ x, xs[j]? = some x ∧ x < s) (fun i => xs.length - (intOf i).toNat)
  case atStart => exact ⟨0, Nat.zero_le _, rfl, fun j hj => by omega⟩
  case round =>
    obtain ⟨k, hk, rfl, hf⟩ := hrel
    have HF := Lib.hid hf
    clear hf
    by_cases hlt : k < xs.length
    · have hx := List.getElem?_eq_getElem hlt
      generalize xs[k] = y at hx
      obtain ⟨g', o', e, -, hcy⟩ := tx_at h.see hx
      cases e
      rw [Nat.zero_add] at hcy
      have HX := Lib.hid hx
      clear hx
      rcases tx_tri y s with hy | hy | hy
      · have hl : Op.bytesLess y s = true := by rw [less_lt]; simpa using hy
        have HE : Hid (∀ j, j < k + 1 → ∃ x, xs[j]? = some x ∧ x < s) := Lib.hid (fun j hj => by
          by_cases q : j = k
          · subst q; exact ⟨y, HX.out, hy⟩
          · exact HF.out j (by omega))
        clear hy
        go_wp2_with fail
        go_round
        case rel => exact ⟨k + 1, by omega, by go_num, HE.out⟩
        case measure => simp [intOf]; omega
      · have hl : Op.bytesLess y s = false := by rw [less_lt, hy]; exact decide_eq_false (tx_irr s)
        have HE : Hid (putS xs s = xs) := Lib.hid (put_there HF.out (by rw [← hy]; exact HX.out))
        subst hy
        go_wp2_with fail
        go_ret
        rw [HE.out]
        exact ⟨g, c, rfl, h, Below.refl _ _⟩
      · have hl : Op.bytesLess y s = false := by rw [less_lt]; exact decide_eq_false fun q => tx_irr s (tx_trans hy q)
        have hne : (y == s) = false := by simpa using fun q : y = s => tx_irr s (by rw [q] at hy; exact hy)
        have HY := Lib.hid hy
        clear hy
        have HE : Hid (putS xs s = xs.take k ++ s :: xs.drop k) := Lib.hid (put_at hk HF.out (fun z hz => by have := HX.out.symm.trans hz; cases this; exact ⟨fun q => tx_irr s (tx_trans HY.out q), fun q => tx_irr s (by have := HY.out; rw [q] at this; exact this)⟩))
        have hp1 := (SeeV.part (h.see) k (xs.length - k) (by rw [List.length_map]; omega))
        have e1 : ((xs.map str).drop k).take (xs.length - k) = (xs.drop k).map str := by rw [List.take_of_length_le (by simp), List.map_drop]
        rw [e1, Nat.zero_add] at hp1
        have hp2 := (SeeV.part (h.see) 0 k (by rw [List.length_map]; omega))
        rw [List.drop_zero, ← List.map_take] at hp2
        have HP1 : Hid (SeeV w w.heap.size (.slice (some ⟨g, k, none⟩) (xs.length - k) (c - k)) ((xs.drop k).map str)) := Lib.hid hp1
        have HP2 : Hid (SeeV w w.heap.size (.slice (some ⟨g, 0, none⟩) k c) ((xs.take k).map str)) := Lib.hid hp2
        clear hp1 hp2 e1
        go_wp2_with fail
        refine (l1Texts_any w.heap.size g k (xs.length - k) (c - k) (xs.drop k) (by rw [List.length_drop]) _ HP1.out (Nat.le_refl _) (by rw [List.length_drop]; omega)).mono ?_
        rintro e w1 ⟨g1, c1, rfl, o1, b1⟩
        go_wp2_with fail
        refine (l1Texts_any w.heap.size g 0 k c (xs.take k) (by rw [List.length_take]; omega) _ (HP2.out.below b1) b1.size (by rw [List.length_take]; omega)).mono ?_
        rintro e w2 ⟨g2, c2, rfl, o2, b2⟩
        have s1 := o1.see.below b2
        have HO2 : Hid (w2.ownsRow w1.heap.size 9 1 (.slice (some ⟨g2, 0, none⟩) k c2) k ((xs.take k).map str)) := Lib.hid (by
          have := o2
          unfold OwnV at this
          rwa [List.length_map, List.length_take, Nat.min_eq_left (by omega)] at this)
        have hk2 : k ≤ 1048576 := by omega
        have h12 := b2.size
        go_wp2_with first
          | (at_builtin; refine wpList_append_own _ rfl _ _ 22 rfl w1.heap.size 9 i0 (.string ⟨#[]⟩) 1 16 Tryz.underlying22 hi hz0 hz1 hz2 rfl (by decide) _ _ _ rfl hown3 ⟨g1, 0, none⟩ (xs.length - k) c1 ((xs.drop k).map str) rfl (by simp) HS3.out (fun u hu => str_one u _ hu) (by unfold maxLen; omega) (by omega) (by have := b3.size; omega) ?_; intro v4 w4 hown4 hgrow4 hnil4)
          | (at_builtin; refine wpList_append_own _ rfl _ _ 22 rfl w1.heap.size 9 i0 (.string ⟨#[]⟩) 1 16 Tryz.underlying22 hi hz0 hz1 hz2 rfl (by decide) _ _ _ rfl (World.ownsRow.alloc HO2.out _) ⟨w2.heap.size, 0, none⟩ 1 1 [str s] rfl rfl (cell_one_new _ _ _) (by simp [Value.oneCell']) (by unfold maxLen; omega) (by omega) (by simp; omega) ?_; intro v3 w3 hown3 hgrow3 hnil3; obtain ⟨g3, c3, rfl⟩ := ownsRow_succ hown3; have b3 : Below w1.heap.size w2 w3 := ((Below.refl _ w2).alloc h12 _).grown hgrow3 (by simp; omega) (fun j hj => (World.ownsRow.lt HO2.out j hj).1); have s3 := s1.below b3; have HS3 : Hid (∀ j u, ((xs.drop k).map str)[j]? = some u → w3.cell? ((⟨g1, 0, none⟩ : Addr).add j) = some u) := Lib.hid (fun j u hu => by (obtain ⟨gg, oo, e, _, hc⟩ := s3.at_ hu); cases e; rw [add_at]; exact hc))
        go_ret
        rw [HE.out]
        obtain ⟨g4, c4, rfl, o4⟩ := put_fin hk hown4 (Nat.le_trans hB b1.size)
        refine ⟨g4, c4, rfl, o4, ?_⟩
        have hw1 := b1.size
        have b4 : Below w1.heap.size w3 w4 := (Below.refl _ w3).grown hgrow4 (by have := b3.size; omega) (fun j hj => (World.ownsRow.lt hown3 j hj).1)
        exact (below_then b1 b2 (Nat.le_refl _)).trans ((b3.trans b4).mono hw1)
    · have HKL : Hid (k = xs.length) := Lib.hid (by omega)
      by_cases hck : c = k
      · skip
        have HE : Hid (putS xs s = xs.take k ++ s :: xs.drop k) := Lib.hid (put_at hk HF.out (fun z hz => by rw [HKL.out] at hz; simp at hz))
        have hp1 := (SeeV.part (h.see) k (xs.length - k) (by rw [List.length_map]; omega))
        have e1 : ((xs.map str).drop k).take (xs.length - k) = (xs.drop k).map str := by rw [List.take_of_length_le (by simp), List.map_drop]
        rw [e1, Nat.zero_add] at hp1
        have hp2 := (SeeV.part (h.see) 0 k (by rw [List.length_map]; omega))
        rw [List.drop_zero, ← List.map_take] at hp2
        have HP1 : Hid (SeeV w w.heap.size (.slice (some ⟨g, 0, none⟩) (xs.length - k) 0) ((xs.drop k).map str)) := Lib.hid (by have e2 : xs.drop k = [] := List.drop_of_length_le (by omega); rw [e2, show xs.length - k = 0 by omega]; exact ⟨by simp, _, _, rfl, Nat.le_refl _, fun j x hx => by simp at hx⟩)
        have HP2 : Hid (SeeV w w.heap.size (.slice (some ⟨g, 0, none⟩) k k) ((xs.take k).map str)) := Lib.hid (by rw [hck] at hp2; exact hp2)
        clear hp1 hp2 e1
        go_wp2_with fail
        refine (l1Texts_any w.heap.size g 0 (xs.length - k) 0 (xs.drop k) (by rw [List.length_drop]) _ HP1.out (Nat.le_refl _) (by rw [List.length_drop]; omega)).mono ?_
        rintro e w1 ⟨g1, c1, rfl, o1, b1⟩
        go_wp2_with fail
        refine (l1Texts_any w.heap.size g 0 k k (xs.take k) (by rw [List.length_take]; omega) _ (HP2.out.below b1) b1.size (by rw [List.length_take]; omega)).mono ?_
        rintro e w2 ⟨g2, c2, rfl, o2, b2⟩
        have s1 := o1.see.below b2
        have HO2 : Hid (w2.ownsRow w1.heap.size 9 1 (.slice (some ⟨g2, 0, none⟩) k c2) k ((xs.take k).map str)) := Lib.hid (by
          have := o2
          unfold OwnV at this
          rwa [List.length_map, List.length_take, Nat.min_eq_left (by omega)] at this)
        have hk2 : k ≤ 1048576 := by omega
        have h12 := b2.size
        go_wp2_with first
          | (at_builtin; refine wpList_append_own _ rfl _ _ 22 rfl w1.heap.size 9 i0 (.string ⟨#[]⟩) 1 16 Tryz.underlying22 hi hz0 hz1 hz2 rfl (by decide) _ _ _ rfl hown3 ⟨g1, 0, none⟩ (xs.length - k) c1 ((xs.drop k).map str) rfl (by simp) HS3.out (fun u hu => str_one u _ hu) (by unfold maxLen; omega) (by omega) (by have := b3.size; omega) ?_; intro v4 w4 hown4 hgrow4 hnil4)
          | (at_builtin; refine wpList_append_own _ rfl _ _ 22 rfl w1.heap.size 9 i0 (.string ⟨#[]⟩) 1 16 Tryz.underlying22 hi hz0 hz1 hz2 rfl (by decide) _ _ _ rfl (World.ownsRow.alloc HO2.out _) ⟨w2.heap.size, 0, none⟩ 1 1 [str s] rfl rfl (cell_one_new _ _ _) (by simp [Value.oneCell']) (by unfold maxLen; omega) (by omega) (by simp; omega) ?_; intro v3 w3 hown3 hgrow3 hnil3; obtain ⟨g3, c3, rfl⟩ := ownsRow_succ hown3; have b3 : Below w1.heap.size w2 w3 := ((Below.refl _ w2).alloc h12 _).grown hgrow3 (by simp; omega) (fun j hj => (World.ownsRow.lt HO2.out j hj).1); have s3 := s1.below b3; have HS3 : Hid (∀ j u, ((xs.drop k).map str)[j]? = some u → w3.cell? ((⟨g1, 0, none⟩ : Addr).add j) = some u) := Lib.hid (fun j u hu => by (obtain ⟨gg, oo, e, _, hc⟩ := s3.at_ hu); cases e; rw [add_at]; exact hc))
        go_ret
        rw [HE.out]
        obtain ⟨g4, c4, rfl, o4⟩ := put_fin hk hown4 (Nat.le_trans hB b1.size)
        refine ⟨g4, c4, rfl, o4, ?_⟩
        have hw1 := b1.size
        have b4 : Below w1.heap.size w3 w4 := (Below.refl _ w3).grown hgrow4 (by have := b3.size; omega) (fun j hj => (World.ownsRow.lt hown3 j hj).1)
        exact (below_then b1 b2 (Nat.le_refl _)).trans ((b3.trans b4).mono hw1)
      · skip
        have HE : Hid (putS xs s = xs.take k ++ s :: xs.drop k) := Lib.hid (put_at hk HF.out (fun z hz => by rw [HKL.out] at hz; simp at hz))
        have hp1 := (SeeV.part (h.see) k (xs.length - k) (by rw [List.length_map]; omega))
        have e1 : ((xs.map str).drop k).take (xs.length - k) = (xs.drop k).map str := by rw [List.take_of_length_le (by simp), List.map_drop]
        rw [e1, Nat.zero_add] at hp1
        have hp2 := (SeeV.part (h.see) 0 k (by rw [List.length_map]; omega))
        rw [List.drop_zero, ← List.map_take] at hp2
        have HP1 : Hid (SeeV w w.heap.size (.slice (some ⟨g, k, none⟩) (xs.length - k) (c - k)) ((xs.drop k).map str)) := Lib.hid hp1
        have HP2 : Hid (SeeV w w.heap.size (.slice (some ⟨g, 0, none⟩) k c) ((xs.take k).map str)) := Lib.hid hp2
        clear hp1 hp2 e1
        go_wp2_with fail
        refine (l1Texts_any w.heap.size g k (xs.length - k) (c - k) (xs.drop k) (by rw [List.length_drop]) _ HP1.out (Nat.le_refl _) (by rw [List.length_drop]; omega)).mono ?_
        rintro e w1 ⟨g1, c1, rfl, o1, b1⟩
        go_wp2_with fail
        refine (l1Texts_any w.heap.size g 0 k c (xs.take k) (by rw [List.length_take]; omega) _ (HP2.out.below b1) b1.size (by rw [List.length_take]; omega)).mono ?_
        rintro e w2 ⟨g2, c2, rfl, o2, b2⟩
        have s1 := o1.see.below b2
        have HO2 : Hid (w2.ownsRow w1.heap.size 9 1 (.slice (some ⟨g2, 0, none⟩) k c2) k ((xs.take k).map str)) := Lib.hid (by
          have := o2
          unfold OwnV at this
          rwa [List.length_map, List.length_take, Nat.min_eq_left (by omega)] at this)
        have hk2 : k ≤ 1048576 := by omega
        have h12 := b2.size
        go_wp2_with first
          | (at_builtin; refine wpList_append_own _ rfl _ _ 22 rfl w1.heap.size 9 i0 (.string ⟨#[]⟩) 1 16 Tryz.underlying22 hi hz0 hz1 hz2 rfl (by decide) _ _ _ rfl hown3 ⟨g1, 0, none⟩ (xs.length - k) c1 ((xs.drop k).map str) rfl (by simp) HS3.out (fun u hu => str_one u _ hu) (by unfold maxLen; omega) (by omega) (by have := b3.size; omega) ?_; intro v4 w4 hown4 hgrow4 hnil4)
          | (at_builtin; refine wpList_append_own _ rfl _ _ 22 rfl w1.heap.size 9 i0 (.string ⟨#[]⟩) 1 16 Tryz.underlying22 hi hz0 hz1 hz2 rfl (by decide) _ _ _ rfl (World.ownsRow.alloc HO2.out _) ⟨w2.heap.size, 0, none⟩ 1 1 [str s] rfl rfl (cell_one_new _ _ _) (by simp [Value.oneCell']) (by unfold maxLen; omega) (by omega) (by simp; omega) ?_; intro v3 w3 hown3 hgrow3 hnil3; obtain ⟨g3, c3, rfl⟩ := ownsRow_succ hown3; have b3 : Below w1.heap.size w2 w3 := ((Below.refl _ w2).alloc h12 _).grown hgrow3 (by simp; omega) (fun j hj => (World.ownsRow.lt HO2.out j hj).1); have s3 := s1.below b3; have HS3 : Hid (∀ j u, ((xs.drop k).map str)[j]? = some u → w3.cell? ((⟨g1, 0, none⟩ : Addr).add j) = some u) := Lib.hid (fun j u hu => by (obtain ⟨gg, oo, e, _, hc⟩ := s3.at_ hu); cases e; rw [add_at]; exact hc))
        go_ret
        rw [HE.out]
        obtain ⟨g4, c4, rfl, o4⟩ := put_fin hk hown4 (Nat.le_trans hB b1.size)
        refine ⟨g4, c4, rfl, o4, ?_⟩
        have hw1 := b1.size
        have b4 : Below w1.heap.size w3 w4 := (Below.refl _ w3).grown hgrow4 (by have := b3.size; omega) (fun j hj => (World.ownsRow.lt hown3 j hj).1)
        exact (below_then b1 b2 (Nat.le_refl _)).trans ((b3.trans b4).mono hw1)

end Go.Proofs.YtblnonlcjfcblaaGreatDoor
