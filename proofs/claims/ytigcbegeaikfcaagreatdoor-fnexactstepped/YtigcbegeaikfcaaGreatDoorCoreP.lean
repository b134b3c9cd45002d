/- Layer 9 (the player): the model's l6Set, exactly. No conditions but those typed. -/
import Derived.Test.YtigcbegeaikfcaaGreatDoorCoreM
import Derived.Test.YtigcbegeaikfcaaGreatDoorDrawV
namespace Go.Proofs.YtigcbegeaikfcaaGreatDoor
open Go.RowKit
set_option linter.unusedVariables false

theorem less_more {bs : List Bx} {n : List UInt8} {k : Nat} {b : Bx} (h : ∀ j b, j < k → bs[j]? = some b → Op.bytesLess b.1 n = true) (hb : bs[k]? = some b) (hl : Op.bytesLess b.1 n = true) : ∀ j b, j < k + 1 → bs[j]? = some b → Op.bytesLess b.1 n = true := fun j d hj hd => by
  by_cases hjk : j < k
  · exact h j d hjk hd
  · obtain rfl : j = k := by omega
    rw [hb] at hd
    injection hd with hd
    exact hd ▸ hl
theorem set_ins {bs : List Bx} {n : List UInt8} {x : Int} {k : Nat} {b : Bx} (h : ∀ j b, j < k → bs[j]? = some b → Op.bytesLess b.1 n = true) (hb : bs[k]? = some b) (hl : Op.bytesLess b.1 n = false) (hn : ¬ b.1 = n) (hk : k ≤ bs.length) :
    setS bs n x = if bs.length = 12 then (bs, false) else ((bs.take k ++ [(n, x)]) ++ bs.drop k, true) := by
  have hp := place_at h (fun d hd => by rw [hb] at hd; injection hd with hd; exact hd ▸ hl) hk
  unfold setS
  rw [hp, hb]
  simp only [if_neg hn]
theorem set_eq9 {bs : List Bx} {n : List UInt8} {x : Int} {k : Nat} {b : Bx} (h : ∀ j b, j < k → bs[j]? = some b → Op.bytesLess b.1 n = true) (hb : bs[k]? = some b) (hl : Op.bytesLess b.1 n = false) (hn : b.1 = n) (hk : k ≤ bs.length) :
    setS bs n x = (bs.set k (n, x), true) := by
  have hp := place_at h (fun d hd => by rw [hb] at hd; injection hd with hd; exact hd ▸ hl) hk
  unfold setS
  rw [hp, hb]
  simp only [if_pos hn]
theorem set_end9 {bs : List Bx} {n : List UInt8} {x : Int} {k : Nat} (h : ∀ j b, j < k → bs[j]? = some b → Op.bytesLess b.1 n = true) (hk : k = bs.length) :
    setS bs n x = if bs.length = 12 then (bs, false) else ((bs.take k ++ [(n, x)]) ++ bs.drop k, true) := by
  have hno : bs[k]? = none := by rw [hk]; simp
  have hp := place_at h (fun d hd => by rw [hno] at hd; cases hd) (by omega)
  unfold setS
  rw [hp, hno]
  subst hk
  simp
def SetX (B g : Nat) (r : List Bx × Bool) (w : World) (e : Ending) (w' : World) : Prop := ∃ g' c', e = .returned (.tuple #[.slice (some ⟨g', 0, none⟩) r.1.length c', .bool r.2]) ∧ OwnBx w' B 92 (.slice (some ⟨g', 0, none⟩) r.1.length c') r.1 ∧ (g' = g ∨ w.heap.size ≤ g') ∧ w.grownBy w' (some g) ∧ (r.2 = false → w' = w)

set_option maxHeartbeats 8000000 in
set_option maxRecDepth 100000 in
theorem l6SetX_any (B g c : Nat) (bs : List Bx) (n : List UInt8) (x : Int) (w : World) (h : OwnBx w B 92 (.slice (some ⟨g, 0, none⟩) bs.length c) bs) (hB : B ≤ w.heap.size) (hl : bs.length ≤ 12) :
    Calls Tryz.prog 102 #[.slice (some ⟨g, 0, none⟩) bs.length c, str n, .int .i64 x] w (SetX B g (setS bs n x) w) := by
  obtain ⟨i0, hi, hz0, hz1, hz2⟩ := info_parts Tryz.infoBox
  have hcap := h.cap
  go_enter Tryz.func102, Tryz.ntmps102
  go_wp2_with fail
  go_loop [8] (fun i => ∃ k : Nat, k ≤ bs.length ∧ i = .int .i64 k ∧ ∀ j b, j < k → bs[j]? = some b → Op.bytesLess b.1 n = true) (fun i => bs.length - (intOf i).toNat)
  case atStart => exact ⟨0, Nat.zero_le _, rfl, fun j b h => absurd h (by omega)⟩
  case round =>
    obtain ⟨k, hk, rfl, hles⟩ := hrel
    have HLS := Lib.hid hles
    clear hles
    have hp1 := SeeBx.part h.see k (bs.length - k) (by omega)
    rw [List.take_of_length_le (by simp), Nat.zero_add] at hp1
    have hp2 := SeeBx.part h.see 0 k (by omega)
    rw [List.drop_zero, Nat.zero_mul] at hp2
    by_cases hlt : k < bs.length
    · obtain ⟨g', o', e, -, hc0, hc1⟩ := h.see.at_ (List.getElem?_eq_getElem hlt)
      cases e
      rw [Nat.zero_add] at hc0 hc1
      have o1 := h.setV hlt x
      have hat := List.getElem?_eq_getElem hlt
      have HAT := Lib.hid hat
      clear hat
      generalize hy : bs[k].1 = y at hc0 o1
      have HY := Lib.hid hy
      clear hy
      cases hless : Op.bytesLess y n
      · cases heq : (y == n)
        · have HSS := Lib.hid (set_ins (x := x) HLS.out HAT.out (by rw [HY.out]; exact hless) (by rw [HY.out]; simpa using heq) hk)
          clear o1
          have HP1 : Hid (SeeBx w w.heap.size (.slice (some ⟨g, (k * 2), none⟩) (bs.length - k) (c - k)) (bs.drop k)) := Lib.hid hp1
          have HP2 : Hid (SeeBx w w.heap.size (.slice (some ⟨g, 0, none⟩) k c) (bs.take k)) := Lib.hid hp2
          have HLD : Hid ((bs.drop k).length = (bs.length - k)) := Lib.hid (by simp <;> omega)
          have HLT : Hid ((bs.take k).length = k) := Lib.hid (by simp; omega)
          have HL5 : Hid ((bs.take k ++ [(n, x)]).length = k + 1) := Lib.hid (by simp; omega)
          have oE := OwnBx.empty w 92
          by_cases h12 : bs.length = 12
          · have h12' : ((bs.length : Int) == 12) = true := by simp; omega
            have HH := Lib.hid h
            clear h
            go_wp2_with fail
            go_ret2
            refine ⟨g, c, by rw [HSS.out, if_pos h12]; exact set_ret (by show _ = bs.length; omega), ?_, .inl rfl, World.grownBy.refl _ _, fun _ => rfl⟩
            rw [HSS.out, if_pos h12]
            exact HH.out
          have h12' : ((bs.length : Int) == 12) = false := by simp; omega
          have h12n := Lib.hid h12
          clear h12
          go_wp2_with first
            | (at_builtin; refine wpList_append_own _ rfl _ _ 25 rfl w2.heap.size 92 i0 (.agg #[.string ⟨#[]⟩, .int .i64 0]) 2 24 Tryz.underlying25 hi hz0 hz1 hz2 rfl (by decide) _ _ _ rfl o5.row ⟨g2, 0, none⟩ (bs.length - k) c2 ((bs.drop k).map boxV).flatten rfl (by rw [bx_len, HLD.out]) HN4.out (fun u hu => bx_one _ u hu) (by unfold maxLen; simp; omega) (by simp; omega) (by have := b5.size; omega) ?_; intro v6 w6 hown6 hgr6 hnil6; (obtain ⟨g6, c6, rfl, o6⟩ := bx_more o5 HLD.out hown6 hnil6))
            | (at_builtin; refine wpList_append_own _ rfl _ _ 25 rfl w2.heap.size 92 i0 (.agg #[.string ⟨#[]⟩, .int .i64 0]) 2 24 Tryz.underlying25 hi hz0 hz1 hz2 rfl (by decide) _ _ _ rfl (o4.alloc _).row ⟨w4.heap.size, 0, none⟩ 1 1 [str n, .int .i64 x] rfl rfl (bx_new _ _ _ _) (fun u hu => bx_one [(n, x)] u hu) (by unfold maxLen; simp; omega) (by simp; omega) (by have := b4.size; simp; omega) ?_; intro v5 w5 hown5 hgr5 hnil5; (obtain ⟨g5, c5, e5, o5⟩ := bx_more (ys := [(n, x)]) (o4.alloc (.cells #[str n, .int .i64 x] 92)) rfl hown5 hnil5); rw [HL5.out] at e5 o5; subst e5; have b5 : Below w2.heap.size w2 w5 := (b4.alloc b4.size _).grown hgr5 (by have := b4.size; simp; omega) (fun j hj => (o4.lt j hj).1); have HN4 : Hid (∀ j u, ((bs.drop k).map boxV).flatten[j]? = some u → w5.cell? ((⟨g2, 0, none⟩ : Addr).add j) = some u) := Lib.hid (bx_news ((o2.see).below b5)))
            | (at_builtin; refine wpList_append_own _ rfl _ _ 25 rfl w2.heap.size 92 i0 (.agg #[.string ⟨#[]⟩, .int .i64 0]) 2 24 Tryz.underlying25 hi hz0 hz1 hz2 rfl (by decide) _ _ _ rfl (OwnBx.empty w2 92).row ⟨g, 0, none⟩ k c ((bs.take k).map boxV).flatten rfl (by rw [bx_len, HLT.out]) (bx_news ((HP2.out.below b2).alloc b2.size _)) (fun u hu => bx_one _ u hu) (by unfold maxLen; simp; omega) (by simp; omega) (by simp) ?_; intro v4 w4 hown4 hgr4 hnil4; (obtain ⟨g4, c4, e4, o4⟩ := bx_more (OwnBx.empty w2 92) HLT.out hown4 hnil4); rw [List.nil_append, HLT.out] at e4 o4; subst e4; have b4 : Below w2.heap.size w2 w4 := ((Below.refl _ w2).alloc (Nat.le_refl _) _).grown hgr4 (by simp) (fun j hj => by cases hj; exact Nat.le_refl _))
            | (at_builtin; refine wpList_append_own _ rfl _ _ 25 rfl w.heap.size 92 i0 (.agg #[.string ⟨#[]⟩, .int .i64 0]) 2 24 Tryz.underlying25 hi hz0 hz1 hz2 rfl (by decide) _ _ _ rfl oE.row ⟨g, (k * 2), none⟩ (bs.length - k) (c - k) ((bs.drop k).map boxV).flatten rfl (by rw [bx_len, HLD.out]) (bx_news (HP1.out.alloc (Nat.le_refl _) _)) (fun u hu => bx_one _ u hu) (by unfold maxLen; simp; omega) (by simp; omega) (by simp) ?_; intro v2 w2 hown2 hgr2 hnil2; (obtain ⟨g2, c2, e2, o2⟩ := bx_more oE HLD.out hown2 hnil2); rw [List.nil_append, HLD.out] at e2 o2; subst e2; have b2 : Below w.heap.size w w2 := ((Below.refl _ w).alloc (Nat.le_refl _) _).grown hgr2 (by simp) (fun j hj => by cases hj; exact Nat.le_refl _))
          go_ret2
          have b6 : Below w2.heap.size w2 w6 := b5.grown hgr6 b5.size (fun j hj => (o5.lt j hj).1)
          refine ⟨g6, c6, by rw [HSS.out, if_neg h12n.out]; exact set_ret (by simp; try omega), ?_, .inr (Nat.le_trans b2.size (o6.lt g6 rfl).1), grown_of_below (b2.trans (b6.mono b2.size)) _, fun q => by rw [HSS.out, if_neg h12n.out] at q; cases q⟩
          rw [HSS.out, if_neg h12n.out]
          exact o6.less (Nat.le_trans hB b2.size)
        · have hfz : w.frozen? ⟨g, k * 2 + 1, none⟩ = false := by
            rcases h.row.2 with ⟨q, _⟩ | ⟨g2, c2, cur, q, _, hb, _⟩
            · cases q
            · injection q with q1
              injection q1 with q1
              injection q1 with q1
              subst q1
              exact frozen_row hb
          have hyn : y = n := by simpa using heq
          have hyn0 := Lib.hid hyn
          have HSS := Lib.hid (set_eq9 (x := x) HLS.out HAT.out (by rw [HY.out]; exact hless) (by rw [HY.out]; exact hyn) hk)
          clear hp1 hp2 hyn
          go_wp2_with fail
          go_ret2
          refine ⟨g, c, by rw [HSS.out]; exact set_ret (by rw [List.length_set]), ?_, .inl rfl, grown_set (World.grownBy.refl w (some g)) _, fun q => by rw [HSS.out] at q; cases q⟩
          rw [HSS.out, ← hyn0.out, List.length_set]
          exact o1
      · have HLX := Lib.hid (less_more HLS.out HAT.out (by rw [HY.out]; exact hless))
        clear hp1 hp2 o1
        go_wp2_with fail
        go_round
        case rel => exact ⟨k + 1, by omega, by go_num, HLX.out⟩
        case measure => simp [intOf]; omega
    · have HSS := Lib.hid (set_end9 (x := x) (k := k) HLS.out (by omega))
      by_cases hck : c = k
      · skip
        · skip
          have HP1 : Hid (SeeBx w w.heap.size (.slice (some ⟨g, 0, none⟩) (bs.length - k) 0) (bs.drop k)) := Lib.hid (by rw [List.drop_of_length_le (by omega), show bs.length - k = 0 by omega]; exact ⟨by simp, _, _, rfl, Nat.le_refl _, fun j x hx => by simp at hx⟩)
          have HP2 : Hid (SeeBx w w.heap.size (.slice (some ⟨g, 0, none⟩) k k) (bs.take k)) := Lib.hid (by rw [hck] at hp2; exact hp2)
          have HLD : Hid ((bs.drop k).length = (bs.length - k)) := Lib.hid (by simp <;> omega)
          have HLT : Hid ((bs.take k).length = k) := Lib.hid (by simp; omega)
          have HL5 : Hid ((bs.take k ++ [(n, x)]).length = k + 1) := Lib.hid (by simp; omega)
          have oE := OwnBx.empty w 92
          by_cases h12 : bs.length = 12
          · have h12' : ((bs.length : Int) == 12) = true := by simp; omega
            have HH := Lib.hid h
            clear h
            go_wp2_with fail
            go_ret2
            refine ⟨g, k, by rw [HSS.out, if_pos h12]; exact set_ret (by show _ = bs.length; omega), ?_, .inl rfl, World.grownBy.refl _ _, fun _ => rfl⟩
            rw [HSS.out, if_pos h12]
            exact (by have := HH.out; rw [hck] at this; exact this)
          have h12' : ((bs.length : Int) == 12) = false := by simp; omega
          have h12n := Lib.hid h12
          clear h12
          go_wp2_with first
            | (at_builtin; refine wpList_append_own _ rfl _ _ 25 rfl w2.heap.size 92 i0 (.agg #[.string ⟨#[]⟩, .int .i64 0]) 2 24 Tryz.underlying25 hi hz0 hz1 hz2 rfl (by decide) _ _ _ rfl o5.row ⟨g2, 0, none⟩ (bs.length - k) c2 ((bs.drop k).map boxV).flatten rfl (by rw [bx_len, HLD.out]) HN4.out (fun u hu => bx_one _ u hu) (by unfold maxLen; simp; omega) (by simp; omega) (by have := b5.size; omega) ?_; intro v6 w6 hown6 hgr6 hnil6; (obtain ⟨g6, c6, rfl, o6⟩ := bx_more o5 HLD.out hown6 hnil6))
            | (at_builtin; refine wpList_append_own _ rfl _ _ 25 rfl w2.heap.size 92 i0 (.agg #[.string ⟨#[]⟩, .int .i64 0]) 2 24 Tryz.underlying25 hi hz0 hz1 hz2 rfl (by decide) _ _ _ rfl (o4.alloc _).row ⟨w4.heap.size, 0, none⟩ 1 1 [str n, .int .i64 x] rfl rfl (bx_new _ _ _ _) (fun u hu => bx_one [(n, x)] u hu) (by unfold maxLen; simp; omega) (by simp; omega) (by have := b4.size; simp; omega) ?_; intro v5 w5 hown5 hgr5 hnil5; (obtain ⟨g5, c5, e5, o5⟩ := bx_more (ys := [(n, x)]) (o4.alloc (.cells #[str n, .int .i64 x] 92)) rfl hown5 hnil5); rw [HL5.out] at e5 o5; subst e5; have b5 : Below w2.heap.size w2 w5 := (b4.alloc b4.size _).grown hgr5 (by have := b4.size; simp; omega) (fun j hj => (o4.lt j hj).1); have HN4 : Hid (∀ j u, ((bs.drop k).map boxV).flatten[j]? = some u → w5.cell? ((⟨g2, 0, none⟩ : Addr).add j) = some u) := Lib.hid (bx_news ((o2.see).below b5)))
            | (at_builtin; refine wpList_append_own _ rfl _ _ 25 rfl w2.heap.size 92 i0 (.agg #[.string ⟨#[]⟩, .int .i64 0]) 2 24 Tryz.underlying25 hi hz0 hz1 hz2 rfl (by decide) _ _ _ rfl (OwnBx.empty w2 92).row ⟨g, 0, none⟩ k k ((bs.take k).map boxV).flatten rfl (by rw [bx_len, HLT.out]) (bx_news ((HP2.out.below b2).alloc b2.size _)) (fun u hu => bx_one _ u hu) (by unfold maxLen; simp; omega) (by simp; omega) (by simp) ?_; intro v4 w4 hown4 hgr4 hnil4; (obtain ⟨g4, c4, e4, o4⟩ := bx_more (OwnBx.empty w2 92) HLT.out hown4 hnil4); rw [List.nil_append, HLT.out] at e4 o4; subst e4; have b4 : Below w2.heap.size w2 w4 := ((Below.refl _ w2).alloc (Nat.le_refl _) _).grown hgr4 (by simp) (fun j hj => by cases hj; exact Nat.le_refl _))
            | (at_builtin; refine wpList_append_own _ rfl _ _ 25 rfl w.heap.size 92 i0 (.agg #[.string ⟨#[]⟩, .int .i64 0]) 2 24 Tryz.underlying25 hi hz0 hz1 hz2 rfl (by decide) _ _ _ rfl oE.row ⟨g, 0, none⟩ (bs.length - k) 0 ((bs.drop k).map boxV).flatten rfl (by rw [bx_len, HLD.out]) (bx_news (HP1.out.alloc (Nat.le_refl _) _)) (fun u hu => bx_one _ u hu) (by unfold maxLen; simp; omega) (by simp; omega) (by simp) ?_; intro v2 w2 hown2 hgr2 hnil2; (obtain ⟨g2, c2, e2, o2⟩ := bx_more oE HLD.out hown2 hnil2); rw [List.nil_append, HLD.out] at e2 o2; subst e2; have b2 : Below w.heap.size w w2 := ((Below.refl _ w).alloc (Nat.le_refl _) _).grown hgr2 (by simp) (fun j hj => by cases hj; exact Nat.le_refl _))
          go_ret2
          have b6 : Below w2.heap.size w2 w6 := b5.grown hgr6 b5.size (fun j hj => (o5.lt j hj).1)
          refine ⟨g6, c6, by rw [HSS.out, if_neg h12n.out]; exact set_ret (by simp; try omega), ?_, .inr (Nat.le_trans b2.size (o6.lt g6 rfl).1), grown_of_below (b2.trans (b6.mono b2.size)) _, fun q => by rw [HSS.out, if_neg h12n.out] at q; cases q⟩
          rw [HSS.out, if_neg h12n.out]
          exact o6.less (Nat.le_trans hB b2.size)
      · skip
        · skip
          have HP1 : Hid (SeeBx w w.heap.size (.slice (some ⟨g, (k * 2), none⟩) (bs.length - k) (c - k)) (bs.drop k)) := Lib.hid hp1
          have HP2 : Hid (SeeBx w w.heap.size (.slice (some ⟨g, 0, none⟩) k c) (bs.take k)) := Lib.hid hp2
          have HLD : Hid ((bs.drop k).length = (bs.length - k)) := Lib.hid (by simp <;> omega)
          have HLT : Hid ((bs.take k).length = k) := Lib.hid (by simp; omega)
          have HL5 : Hid ((bs.take k ++ [(n, x)]).length = k + 1) := Lib.hid (by simp; omega)
          have oE := OwnBx.empty w 92
          by_cases h12 : bs.length = 12
          · have h12' : ((bs.length : Int) == 12) = true := by simp; omega
            have HH := Lib.hid h
            clear h
            go_wp2_with fail
            go_ret2
            refine ⟨g, c, by rw [HSS.out, if_pos h12]; exact set_ret (by show _ = bs.length; omega), ?_, .inl rfl, World.grownBy.refl _ _, fun _ => rfl⟩
            rw [HSS.out, if_pos h12]
            exact HH.out
          have h12' : ((bs.length : Int) == 12) = false := by simp; omega
          have h12n := Lib.hid h12
          clear h12
          go_wp2_with first
            | (at_builtin; refine wpList_append_own _ rfl _ _ 25 rfl w2.heap.size 92 i0 (.agg #[.string ⟨#[]⟩, .int .i64 0]) 2 24 Tryz.underlying25 hi hz0 hz1 hz2 rfl (by decide) _ _ _ rfl o5.row ⟨g2, 0, none⟩ (bs.length - k) c2 ((bs.drop k).map boxV).flatten rfl (by rw [bx_len, HLD.out]) HN4.out (fun u hu => bx_one _ u hu) (by unfold maxLen; simp; omega) (by simp; omega) (by have := b5.size; omega) ?_; intro v6 w6 hown6 hgr6 hnil6; (obtain ⟨g6, c6, rfl, o6⟩ := bx_more o5 HLD.out hown6 hnil6))
            | (at_builtin; refine wpList_append_own _ rfl _ _ 25 rfl w2.heap.size 92 i0 (.agg #[.string ⟨#[]⟩, .int .i64 0]) 2 24 Tryz.underlying25 hi hz0 hz1 hz2 rfl (by decide) _ _ _ rfl (o4.alloc _).row ⟨w4.heap.size, 0, none⟩ 1 1 [str n, .int .i64 x] rfl rfl (bx_new _ _ _ _) (fun u hu => bx_one [(n, x)] u hu) (by unfold maxLen; simp; omega) (by simp; omega) (by have := b4.size; simp; omega) ?_; intro v5 w5 hown5 hgr5 hnil5; (obtain ⟨g5, c5, e5, o5⟩ := bx_more (ys := [(n, x)]) (o4.alloc (.cells #[str n, .int .i64 x] 92)) rfl hown5 hnil5); rw [HL5.out] at e5 o5; subst e5; have b5 : Below w2.heap.size w2 w5 := (b4.alloc b4.size _).grown hgr5 (by have := b4.size; simp; omega) (fun j hj => (o4.lt j hj).1); have HN4 : Hid (∀ j u, ((bs.drop k).map boxV).flatten[j]? = some u → w5.cell? ((⟨g2, 0, none⟩ : Addr).add j) = some u) := Lib.hid (bx_news ((o2.see).below b5)))
            | (at_builtin; refine wpList_append_own _ rfl _ _ 25 rfl w2.heap.size 92 i0 (.agg #[.string ⟨#[]⟩, .int .i64 0]) 2 24 Tryz.underlying25 hi hz0 hz1 hz2 rfl (by decide) _ _ _ rfl (OwnBx.empty w2 92).row ⟨g, 0, none⟩ k c ((bs.take k).map boxV).flatten rfl (by rw [bx_len, HLT.out]) (bx_news ((HP2.out.below b2).alloc b2.size _)) (fun u hu => bx_one _ u hu) (by unfold maxLen; simp; omega) (by simp; omega) (by simp) ?_; intro v4 w4 hown4 hgr4 hnil4; (obtain ⟨g4, c4, e4, o4⟩ := bx_more (OwnBx.empty w2 92) HLT.out hown4 hnil4); rw [List.nil_append, HLT.out] at e4 o4; subst e4; have b4 : Below w2.heap.size w2 w4 := ((Below.refl _ w2).alloc (Nat.le_refl _) _).grown hgr4 (by simp) (fun j hj => by cases hj; exact Nat.le_refl _))
            | (at_builtin; refine wpList_append_own _ rfl _ _ 25 rfl w.heap.size 92 i0 (.agg #[.string ⟨#[]⟩, .int .i64 0]) 2 24 Tryz.underlying25 hi hz0 hz1 hz2 rfl (by decide) _ _ _ rfl oE.row ⟨g, (k * 2), none⟩ (bs.length - k) (c - k) ((bs.drop k).map boxV).flatten rfl (by rw [bx_len, HLD.out]) (bx_news (HP1.out.alloc (Nat.le_refl _) _)) (fun u hu => bx_one _ u hu) (by unfold maxLen; simp; omega) (by simp; omega) (by simp) ?_; intro v2 w2 hown2 hgr2 hnil2; (obtain ⟨g2, c2, e2, o2⟩ := bx_more oE HLD.out hown2 hnil2); rw [List.nil_append, HLD.out] at e2 o2; subst e2; have b2 : Below w.heap.size w w2 := ((Below.refl _ w).alloc (Nat.le_refl _) _).grown hgr2 (by simp) (fun j hj => by cases hj; exact Nat.le_refl _))
          go_ret2
          have b6 : Below w2.heap.size w2 w6 := b5.grown hgr6 b5.size (fun j hj => (o5.lt j hj).1)
          refine ⟨g6, c6, by rw [HSS.out, if_neg h12n.out]; exact set_ret (by simp; try omega), ?_, .inr (Nat.le_trans b2.size (o6.lt g6 rfl).1), grown_of_below (b2.trans (b6.mono b2.size)) _, fun q => by rw [HSS.out, if_neg h12n.out] at q; cases q⟩
          rw [HSS.out, if_neg h12n.out]
          exact o6.less (Nat.le_trans hB b2.size)

end Go.Proofs.YtigcbegeaikfcaaGreatDoor
