/- The draws of layer 6: the model's l6Set. Only bounds are kept. -/
import Derived.Test.YtigcbegeaikfcaaGreatDoorDrawU
namespace Go.Proofs.YtigcbegeaikfcaaGreatDoor
open Go.RowKit
set_option linter.unusedVariables false

theorem flat_setV : ∀ (bs : List Bx) (k : Nat) (hk : k < bs.length) (x : Int), ((bs.set k (bs[k].1, x)).map boxV).flatten = ((bs.map boxV).flatten).set (k * 2 + 1) (.int .i64 x)
  | b :: r, 0, _, x => by simp [boxV]
  | b :: r, k + 1, hk, x => by
    have := flat_setV r k (by simpa using hk) x
    simp only [List.set_cons_succ, List.map_cons, List.flatten_cons, List.getElem_cons_succ, boxV, List.cons_append, List.nil_append] at this ⊢
    rw [this, show (k + 1) * 2 = k * 2 + 1 + 1 by omega, List.set_cons_succ]
theorem OwnBx.setV {w : World} {B g n c k : Nat} {e : TypeId} {bs : List Bx} (h : OwnBx w B e (.slice (some ⟨g, 0, none⟩) n c) bs) (hk : k < bs.length) (x : Int) : OwnBx (w.setCell ⟨g, k * 2 + 1, none⟩ (.int .i64 x)) B e (.slice (some ⟨g, 0, none⟩) n c) (bs.set k (bs[k].1, x)) := by
  obtain ⟨hl, hr⟩ := h.row
  rcases hr with ⟨q, _⟩ | ⟨g2, c2, cur, q, h1, h2, h3, h4, h5, h6⟩
  · cases q
  · injection q with q1 q2 q3
    injection q1 with q1
    injection q1 with q1
    subst q1 q3 q2
    refine OwnBx.of_row (n := bs.length) ⟨by rw [bx_len, List.length_set], .inr ⟨g, c, cur.setIfInBounds (k * 2 + 1) (.int .i64 x), rfl, h1, heap_set h2 _, h3, h4, by rw [Array.size_setIfInBounds]; exact h5, ?_⟩⟩ (by rw [List.length_set])
    rw [flat_setV bs k hk, Array.toList_setIfInBounds, List.take_set, h6]
theorem upB_set {m k : Nat} {bs : List Bx} (h : upB m bs) (hk : k < bs.length) (x : Int) : upB m (bs.set k (bs[k].1, x)) := fun b hb => by
  rcases List.mem_or_eq_of_mem_set hb with q | q
  · exact h b q
  · rw [q]; exact h bs[k] (List.getElem_mem hk)
theorem bx_more {W w1 : World} {B gv k c m : Nat} {v' : Value} {xs ys : List Bx} (ho : OwnBx W B 92 (.slice (some ⟨gv, 0, none⟩) k c) xs) (hm : ys.length = m)
    (h1 : w1.ownsRow B 92 2 v' (xs.length + m) ((xs.map boxV).flatten ++ (ys.map boxV).flatten)) (hnil : v' = .slice none 0 0 ↔ Value.slice (some ⟨gv, 0, none⟩) k c = .slice none 0 0 ∧ m = 0) :
    ∃ g4 c4, v' = .slice (some ⟨g4, 0, none⟩) (xs ++ ys).length c4 ∧ OwnBx w1 B 92 (.slice (some ⟨g4, 0, none⟩) (xs ++ ys).length c4) (xs ++ ys) := by
  have hoo : OwnBx w1 B 92 v' (xs ++ ys) := OwnBx.of_row (by rw [bx_flat]; exact h1) (by rw [List.length_append, hm])
  obtain ⟨g4, c4, rfl⟩ := hoo.shape1 (fun q => by have := (hnil.1 q).1; cases this)
  exact ⟨g4, c4, rfl, hoo⟩

def SetOut (B g m : Nat) (w : World) (e : Ending) (w' : World) : Prop := ∃ g' c', ∃ (bs' : List Bx) (is : Bool), e = .returned (.tuple #[.slice (some ⟨g', 0, none⟩) bs'.length c', .bool is]) ∧ OwnBx w' B 92 (.slice (some ⟨g', 0, none⟩) bs'.length c') bs' ∧ bs'.length ≤ m ∧ upB 10 bs' ∧ w.grownBy w' (some g)
theorem set_ret {g n m c : Nat} {b : Bool} (h : n = m) : Ending.returned (.tuple #[.slice (some ⟨g, 0, none⟩) n c, .bool b]) = .returned (.tuple #[.slice (some ⟨g, 0, none⟩) m c, .bool b]) := by rw [h]

set_option maxHeartbeats 8000000 in
set_option maxRecDepth 100000 in
theorem l6Set_any (B g c : Nat) (bs : List Bx) (n : List UInt8) (x : Int) (w : World) (h : OwnBx w B 92 (.slice (some ⟨g, 0, none⟩) bs.length c) bs) (hB : B ≤ w.heap.size) (hl : bs.length ≤ 12) (hu : upB 10 bs) (hn : n.length ≤ 10) :
    Calls Tryz.prog 102 #[.slice (some ⟨g, 0, none⟩) bs.length c, str n, .int .i64 x] w (SetOut B g (bs.length + 1) w) := by
  obtain ⟨i0, hi, hz0, hz1, hz2⟩ := info_parts Tryz.infoBox
  have hcap := h.cap
  go_enter Tryz.func102, Tryz.ntmps102
  go_wp2_with fail
  go_loop [8] (fun i => ∃ k : Nat, k ≤ bs.length ∧ i = .int .i64 k) (fun i => bs.length - (intOf i).toNat)
  case atStart => exact ⟨0, Nat.zero_le _, rfl⟩
  case round =>
    obtain ⟨k, hk, rfl⟩ := hrel
    have hp1 := SeeBx.part h.see k (bs.length - k) (by omega)
    rw [List.take_of_length_le (by simp), Nat.zero_add] at hp1
    have hp2 := SeeBx.part h.see 0 k (by omega)
    rw [List.drop_zero, Nat.zero_mul] at hp2
    by_cases hlt : k < bs.length
    · obtain ⟨g', o', e, -, hc0, hc1⟩ := h.see.at_ (List.getElem?_eq_getElem hlt)
      cases e
      rw [Nat.zero_add] at hc0 hc1
      have o1 := h.setV hlt x
      have u1 := upB_set hu hlt x
      generalize hy : bs[k].1 = y at hc0 o1 u1
      have HY := Lib.hid hy
      clear hy
      cases hless : Op.bytesLess y n
      · cases heq : (y == n)
        · clear o1 u1
          have HP1 : Hid (SeeBx w w.heap.size (.slice (some ⟨g, (k * 2), none⟩) (bs.length - k) (c - k)) (bs.drop k)) := Lib.hid hp1
          have HP2 : Hid (SeeBx w w.heap.size (.slice (some ⟨g, 0, none⟩) k c) (bs.take k)) := Lib.hid hp2
          have HLD : Hid ((bs.drop k).length = (bs.length - k)) := Lib.hid (by simp <;> omega)
          have HLT : Hid ((bs.take k).length = k) := Lib.hid (by simp; omega)
          have HL5 : Hid ((bs.take k ++ [(n, x)]).length = k + 1) := Lib.hid (by simp; omega)
          have oE := OwnBx.empty w 92
          by_cases h12 : bs.length = 12
          · have h12' : ((bs.length : Int) == 12) = true := by simp; omega
            have HH := Lib.hid h
            clear h
            go_wp2_with fail
            go_ret2
            exact ⟨g, c, bs, false, set_ret (by omega), HH.out, by omega, hu, World.grownBy.refl _ _⟩
          have h12' : ((bs.length : Int) == 12) = false := by simp; omega
          go_wp2_with first
            | (at_builtin; refine wpList_append_own _ rfl _ _ 25 rfl w2.heap.size 92 i0 (.agg #[.string ⟨#[]⟩, .int .i64 0]) 2 24 Tryz.underlying25 hi hz0 hz1 hz2 rfl (by decide) _ _ _ rfl o5.row ⟨g2, 0, none⟩ (bs.length - k) c2 ((bs.drop k).map boxV).flatten rfl (by rw [bx_len, HLD.out]) HN4.out (fun u hu => bx_one _ u hu) (by unfold maxLen; simp; omega) (by simp; omega) (by have := b5.size; omega) ?_; intro v6 w6 hown6 hgr6 hnil6; (obtain ⟨g6, c6, rfl, o6⟩ := bx_more o5 HLD.out hown6 hnil6))
            | (at_builtin; refine wpList_append_own _ rfl _ _ 25 rfl w2.heap.size 92 i0 (.agg #[.string ⟨#[]⟩, .int .i64 0]) 2 24 Tryz.underlying25 hi hz0 hz1 hz2 rfl (by decide) _ _ _ rfl (o4.alloc _).row ⟨w4.heap.size, 0, none⟩ 1 1 [str n, .int .i64 x] rfl rfl (bx_new _ _ _ _) (fun u hu => bx_one [(n, x)] u hu) (by unfold maxLen; simp; omega) (by simp; omega) (by have := b4.size; simp; omega) ?_; intro v5 w5 hown5 hgr5 hnil5; (obtain ⟨g5, c5, e5, o5⟩ := bx_more (ys := [(n, x)]) (o4.alloc (.cells #[str n, .int .i64 x] 92)) rfl hown5 hnil5); rw [HL5.out] at e5 o5; subst e5; have b5 : Below w2.heap.size w2 w5 := (b4.alloc b4.size _).grown hgr5 (by have := b4.size; simp; omega) (fun j hj => (o4.lt j hj).1); have HN4 : Hid (∀ j u, ((bs.drop k).map boxV).flatten[j]? = some u → w5.cell? ((⟨g2, 0, none⟩ : Addr).add j) = some u) := Lib.hid (bx_news ((o2.see).below b5)))
            | (at_builtin; refine wpList_append_own _ rfl _ _ 25 rfl w2.heap.size 92 i0 (.agg #[.string ⟨#[]⟩, .int .i64 0]) 2 24 Tryz.underlying25 hi hz0 hz1 hz2 rfl (by decide) _ _ _ rfl (OwnBx.empty w2 92).row ⟨g, 0, none⟩ k c ((bs.take k).map boxV).flatten rfl (by rw [bx_len, HLT.out]) (bx_news ((HP2.out.below b2).alloc b2.size _)) (fun u hu => bx_one _ u hu) (by unfold maxLen; simp; omega) (by simp; omega) (by simp) ?_; intro v4 w4 hown4 hgr4 hnil4; (obtain ⟨g4, c4, e4, o4⟩ := bx_more (OwnBx.empty w2 92) HLT.out hown4 hnil4); rw [List.nil_append, HLT.out] at e4 o4; subst e4; have b4 : Below w2.heap.size w2 w4 := ((Below.refl _ w2).alloc (Nat.le_refl _) _).grown hgr4 (by simp) (fun j hj => by cases hj; exact Nat.le_refl _))
            | (at_builtin; refine wpList_append_own _ rfl _ _ 25 rfl w.heap.size 92 i0 (.agg #[.string ⟨#[]⟩, .int .i64 0]) 2 24 Tryz.underlying25 hi hz0 hz1 hz2 rfl (by decide) _ _ _ rfl oE.row ⟨g, (k * 2), none⟩ (bs.length - k) (c - k) ((bs.drop k).map boxV).flatten rfl (by rw [bx_len, HLD.out]) (bx_news (HP1.out.alloc (Nat.le_refl _) _)) (fun u hu => bx_one _ u hu) (by unfold maxLen; simp; omega) (by simp; omega) (by simp) ?_; intro v2 w2 hown2 hgr2 hnil2; (obtain ⟨g2, c2, e2, o2⟩ := bx_more oE HLD.out hown2 hnil2); rw [List.nil_append, HLD.out] at e2 o2; subst e2; have b2 : Below w.heap.size w w2 := ((Below.refl _ w).alloc (Nat.le_refl _) _).grown hgr2 (by simp) (fun j hj => by cases hj; exact Nat.le_refl _))
          go_ret2
          have b6 : Below w2.heap.size w2 w6 := b5.grown hgr6 b5.size (fun j hj => (o5.lt j hj).1)
          exact ⟨g6, c6, (bs.take k ++ [(n, x)]) ++ bs.drop k, true, set_ret (by simp; try omega), o6.less (Nat.le_trans hB b2.size), by simp; omega, upB_app (upB_app (fun b hb => hu b (List.mem_of_mem_take hb)) (upB_one hn)) (fun b hb => hu b (List.mem_of_mem_drop hb)), grown_of_below (b2.trans (b6.mono b2.size)) _⟩
        · have hfz : w.frozen? ⟨g, k * 2 + 1, none⟩ = false := by
            rcases h.row.2 with ⟨q, _⟩ | ⟨g2, c2, cur, q, _, hb, _⟩
            · cases q
            · injection q with q1
              injection q1 with q1
              injection q1 with q1
              subst q1
              exact frozen_row hb
          clear hp1 hp2
          go_wp2_with fail
          go_ret2
          exact ⟨g, c, bs.set k (y, x), true, set_ret (by rw [List.length_set]), by rw [List.length_set]; exact o1, by rw [List.length_set]; omega, u1, grown_set (World.grownBy.refl w (some g)) _⟩
      · clear hp1 hp2 o1 u1
        go_wp2_with fail
        go_round
        case rel => exact ⟨k + 1, by omega, by go_num⟩
        case measure => simp [intOf]; omega
    · by_cases hck : c = k
      · skip
        · skip
          have HP1 : Hid (SeeBx w w.heap.size (.slice (some ⟨g, 0, none⟩) (bs.length - k) 0) (bs.drop k)) := Lib.hid (by rw [List.drop_of_length_le (by omega), show bs.length - k = 0 by omega]; exact ⟨by simp, _, _, rfl, Nat.le_refl _, fun j x hx => by simp at hx⟩)
          have HP2 : Hid (SeeBx w w.heap.size (.slice (some ⟨g, 0, none⟩) k k) (bs.take k)) := Lib.hid (by rw [hck] at hp2; exact hp2)
          have HLD : Hid ((bs.drop k).length = (bs.length - k)) := Lib.hid (by simp <;> omega)
          have HLT : Hid ((bs.take k).length = k) := Lib.hid (by simp; omega)
          have HL5 : Hid ((bs.take k ++ [(n, x)]).length = k + 1) := Lib.hid (by simp; omega)
          have oE := OwnBx.empty w 92
          by_cases h12 : bs.length = 12
          · have h12' : ((bs.length : Int) == 12) = true := by simp; omega
            have HH := Lib.hid h
            clear h
            go_wp2_with fail
            go_ret2
            exact ⟨g, k, bs, false, set_ret (by omega), (by have := HH.out; rw [hck] at this; exact this), by omega, hu, World.grownBy.refl _ _⟩
          have h12' : ((bs.length : Int) == 12) = false := by simp; omega
          go_wp2_with first
            | (at_builtin; refine wpList_append_own _ rfl _ _ 25 rfl w2.heap.size 92 i0 (.agg #[.string ⟨#[]⟩, .int .i64 0]) 2 24 Tryz.underlying25 hi hz0 hz1 hz2 rfl (by decide) _ _ _ rfl o5.row ⟨g2, 0, none⟩ (bs.length - k) c2 ((bs.drop k).map boxV).flatten rfl (by rw [bx_len, HLD.out]) HN4.out (fun u hu => bx_one _ u hu) (by unfold maxLen; simp; omega) (by simp; omega) (by have := b5.size; omega) ?_; intro v6 w6 hown6 hgr6 hnil6; (obtain ⟨g6, c6, rfl, o6⟩ := bx_more o5 HLD.out hown6 hnil6))
            | (at_builtin; refine wpList_append_own _ rfl _ _ 25 rfl w2.heap.size 92 i0 (.agg #[.string ⟨#[]⟩, .int .i64 0]) 2 24 Tryz.underlying25 hi hz0 hz1 hz2 rfl (by decide) _ _ _ rfl (o4.alloc _).row ⟨w4.heap.size, 0, none⟩ 1 1 [str n, .int .i64 x] rfl rfl (bx_new _ _ _ _) (fun u hu => bx_one [(n, x)] u hu) (by unfold maxLen; simp; omega) (by simp; omega) (by have := b4.size; simp; omega) ?_; intro v5 w5 hown5 hgr5 hnil5; (obtain ⟨g5, c5, e5, o5⟩ := bx_more (ys := [(n, x)]) (o4.alloc (.cells #[str n, .int .i64 x] 92)) rfl hown5 hnil5); rw [HL5.out] at e5 o5; subst e5; have b5 : Below w2.heap.size w2 w5 := (b4.alloc b4.size _).grown hgr5 (by have := b4.size; simp; omega) (fun j hj => (o4.lt j hj).1); have HN4 : Hid (∀ j u, ((bs.drop k).map boxV).flatten[j]? = some u → w5.cell? ((⟨g2, 0, none⟩ : Addr).add j) = some u) := Lib.hid (bx_news ((o2.see).below b5)))
            | (at_builtin; refine wpList_append_own _ rfl _ _ 25 rfl w2.heap.size 92 i0 (.agg #[.string ⟨#[]⟩, .int .i64 0]) 2 24 Tryz.underlying25 hi hz0 hz1 hz2 rfl (by decide) _ _ _ rfl (OwnBx.empty w2 92).row ⟨g, 0, none⟩ k k ((bs.take k).map boxV).flatten rfl (by rw [bx_len, HLT.out]) (bx_news ((HP2.out.below b2).alloc b2.size _)) (fun u hu => bx_one _ u hu) (by unfold maxLen; simp; omega) (by simp; omega) (by simp) ?_; intro v4 w4 hown4 hgr4 hnil4; (obtain ⟨g4, c4, e4, o4⟩ := bx_more (OwnBx.empty w2 92) HLT.out hown4 hnil4); rw [List.nil_append, HLT.out] at e4 o4; subst e4; have b4 : Below w2.heap.size w2 w4 := ((Below.refl _ w2).alloc (Nat.le_refl _) _).grown hgr4 (by simp) (fun j hj => by cases hj; exact Nat.le_refl _))
            | (at_builtin; refine wpList_append_own _ rfl _ _ 25 rfl w.heap.size 92 i0 (.agg #[.string ⟨#[]⟩, .int .i64 0]) 2 24 Tryz.underlying25 hi hz0 hz1 hz2 rfl (by decide) _ _ _ rfl oE.row ⟨g, 0, none⟩ (bs.length - k) 0 ((bs.drop k).map boxV).flatten rfl (by rw [bx_len, HLD.out]) (bx_news (HP1.out.alloc (Nat.le_refl _) _)) (fun u hu => bx_one _ u hu) (by unfold maxLen; simp; omega) (by simp; omega) (by simp) ?_; intro v2 w2 hown2 hgr2 hnil2; (obtain ⟨g2, c2, e2, o2⟩ := bx_more oE HLD.out hown2 hnil2); rw [List.nil_append, HLD.out] at e2 o2; subst e2; have b2 : Below w.heap.size w w2 := ((Below.refl _ w).alloc (Nat.le_refl _) _).grown hgr2 (by simp) (fun j hj => by cases hj; exact Nat.le_refl _))
          go_ret2
          have b6 : Below w2.heap.size w2 w6 := b5.grown hgr6 b5.size (fun j hj => (o5.lt j hj).1)
          exact ⟨g6, c6, (bs.take k ++ [(n, x)]) ++ bs.drop k, true, set_ret (by simp; try omega), o6.less (Nat.le_trans hB b2.size), by simp; omega, upB_app (upB_app (fun b hb => hu b (List.mem_of_mem_take hb)) (upB_one hn)) (fun b hb => hu b (List.mem_of_mem_drop hb)), grown_of_below (b2.trans (b6.mono b2.size)) _⟩
      · skip
        · skip
          have HP1 : Hid (SeeBx w w.heap.size (.slice (some ⟨g, (k * 2), none⟩) (bs.length - k) (c - k)) (bs.drop k)) := Lib.hid hp1
          have HP2 : Hid (SeeBx w w.heap.size (.slice (some ⟨g, 0, none⟩) k c) (bs.take k)) := Lib.hid hp2
          have HLD : Hid ((bs.drop k).length = (bs.length - k)) := Lib.hid (by simp <;> omega)
          have HLT : Hid ((bs.take k).length = k) := Lib.hid (by simp; omega)
          have HL5 : Hid ((bs.take k ++ [(n, x)]).length = k + 1) := Lib.hid (by simp; omega)
          have oE := OwnBx.empty w 92
          by_cases h12 : bs.length = 12
          · have h12' : ((bs.length : Int) == 12) = true := by simp; omega
            have HH := Lib.hid h
            clear h
            go_wp2_with fail
            go_ret2
            exact ⟨g, c, bs, false, set_ret (by omega), HH.out, by omega, hu, World.grownBy.refl _ _⟩
          have h12' : ((bs.length : Int) == 12) = false := by simp; omega
          go_wp2_with first
            | (at_builtin; refine wpList_append_own _ rfl _ _ 25 rfl w2.heap.size 92 i0 (.agg #[.string ⟨#[]⟩, .int .i64 0]) 2 24 Tryz.underlying25 hi hz0 hz1 hz2 rfl (by decide) _ _ _ rfl o5.row ⟨g2, 0, none⟩ (bs.length - k) c2 ((bs.drop k).map boxV).flatten rfl (by rw [bx_len, HLD.out]) HN4.out (fun u hu => bx_one _ u hu) (by unfold maxLen; simp; omega) (by simp; omega) (by have := b5.size; omega) ?_; intro v6 w6 hown6 hgr6 hnil6; (obtain ⟨g6, c6, rfl, o6⟩ := bx_more o5 HLD.out hown6 hnil6))
            | (at_builtin; refine wpList_append_own _ rfl _ _ 25 rfl w2.heap.size 92 i0 (.agg #[.string ⟨#[]⟩, .int .i64 0]) 2 24 Tryz.underlying25 hi hz0 hz1 hz2 rfl (by decide) _ _ _ rfl (o4.alloc _).row ⟨w4.heap.size, 0, none⟩ 1 1 [str n, .int .i64 x] rfl rfl (bx_new _ _ _ _) (fun u hu => bx_one [(n, x)] u hu) (by unfold maxLen; simp; omega) (by simp; omega) (by have := b4.size; simp; omega) ?_; intro v5 w5 hown5 hgr5 hnil5; (obtain ⟨g5, c5, e5, o5⟩ := bx_more (ys := [(n, x)]) (o4.alloc (.cells #[str n, .int .i64 x] 92)) rfl hown5 hnil5); rw [HL5.out] at e5 o5; subst e5; have b5 : Below w2.heap.size w2 w5 := (b4.alloc b4.size _).grown hgr5 (by have := b4.size; simp; omega) (fun j hj => (o4.lt j hj).1); have HN4 : Hid (∀ j u, ((bs.drop k).map boxV).flatten[j]? = some u → w5.cell? ((⟨g2, 0, none⟩ : Addr).add j) = some u) := Lib.hid (bx_news ((o2.see).below b5)))
            | (at_builtin; refine wpList_append_own _ rfl _ _ 25 rfl w2.heap.size 92 i0 (.agg #[.string ⟨#[]⟩, .int .i64 0]) 2 24 Tryz.underlying25 hi hz0 hz1 hz2 rfl (by decide) _ _ _ rfl (OwnBx.empty w2 92).row ⟨g, 0, none⟩ k c ((bs.take k).map boxV).flatten rfl (by rw [bx_len, HLT.out]) (bx_news ((HP2.out.below b2).alloc b2.size _)) (fun u hu => bx_one _ u hu) (by unfold maxLen; simp; omega) (by simp; omega) (by simp) ?_; intro v4 w4 hown4 hgr4 hnil4; (obtain ⟨g4, c4, e4, o4⟩ := bx_more (OwnBx.empty w2 92) HLT.out hown4 hnil4); rw [List.nil_append, HLT.out] at e4 o4; subst e4; have b4 : Below w2.heap.size w2 w4 := ((Below.refl _ w2).alloc (Nat.le_refl _) _).grown hgr4 (by simp) (fun j hj => by cases hj; exact Nat.le_refl _))
            | (at_builtin; refine wpList_append_own _ rfl _ _ 25 rfl w.heap.size 92 i0 (.agg #[.string ⟨#[]⟩, .int .i64 0]) 2 24 Tryz.underlying25 hi hz0 hz1 hz2 rfl (by decide) _ _ _ rfl oE.row ⟨g, (k * 2), none⟩ (bs.length - k) (c - k) ((bs.drop k).map boxV).flatten rfl (by rw [bx_len, HLD.out]) (bx_news (HP1.out.alloc (Nat.le_refl _) _)) (fun u hu => bx_one _ u hu) (by unfold maxLen; simp; omega) (by simp; omega) (by simp) ?_; intro v2 w2 hown2 hgr2 hnil2; (obtain ⟨g2, c2, e2, o2⟩ := bx_more oE HLD.out hown2 hnil2); rw [List.nil_append, HLD.out] at e2 o2; subst e2; have b2 : Below w.heap.size w w2 := ((Below.refl _ w).alloc (Nat.le_refl _) _).grown hgr2 (by simp) (fun j hj => by cases hj; exact Nat.le_refl _))
          go_ret2
          have b6 : Below w2.heap.size w2 w6 := b5.grown hgr6 b5.size (fun j hj => (o5.lt j hj).1)
          exact ⟨g6, c6, (bs.take k ++ [(n, x)]) ++ bs.drop k, true, set_ret (by simp; try omega), o6.less (Nat.le_trans hB b2.size), by simp; omega, upB_app (upB_app (fun b hb => hu b (List.mem_of_mem_take hb)) (upB_one hn)) (fun b hb => hu b (List.mem_of_mem_drop hb)), grown_of_below (b2.trans (b6.mono b2.size)) _⟩

end Go.Proofs.YtigcbegeaikfcaaGreatDoor
