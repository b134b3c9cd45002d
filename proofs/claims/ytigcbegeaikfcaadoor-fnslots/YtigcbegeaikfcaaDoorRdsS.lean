/- Layer 10 (feeds): slots read from a text, by the model. No conditions but those typed. -/
import Derived.Test.YtigcbegeaikfcaaDoorRdsR
import Derived.Test.YtigcbegeaikfcaaDoorLowB
namespace Go.Proofs.YtigcbegeaikfcaaDoor
open Go.RowKit
set_option linter.unusedVariables false

theorem row_base {w w' : World} {b : UInt8} {t : List UInt8} {v : Value} (h : OwnV w' w.heap.size 9 v ((cutT b t).map str)) : ∃ g c, v = .slice (some ⟨g, 0, none⟩) (cutT b t).length c ∧ w.heap.size ≤ g ∧ g < w'.heap.size := by
  have hp := cutT_pos b t
  obtain ⟨hl, h1 | ⟨g, cap, cur, h1, hb, hg, hr⟩⟩ := h
  · have h2 := h1.2; rw [List.length_map] at h2; omega
  · refine ⟨g, cap, by rw [h1, List.length_map], hb, (Array.getElem?_eq_some_iff.1 hg).1⟩

set_option maxHeartbeats 4000000 in
set_option maxRecDepth 100000 in
theorem l10Read_any (t : List UInt8) (hl : t.length ≤ 1048576) (w : World) :
    Calls Tryd.prog 29 #[str t] w (RdIOut w (rdIntsM t)) := by
  obtain ⟨i0, hi, hz0, hz1, hz2⟩ := info_parts Tryd.infoI64
  have HCS := Lib.hid (fun x hx => Nat.le_trans (cutM_short 32 t x hx) hl)
  have oE := OwnI.empty w w.heap.size 2 (Nat.le_refl _)
  have bE := below_new w (.cells #[] 2)
  have HSP := Lib.hid (l1Split_any t hl 32 (w.alloc (.cells #[] 2)))
  have HTL := Lib.hid (cutT_le 32 t)
  obtain ⟨R, hR⟩ : ∃ R, rdIntsM t = R := ⟨_, rfl⟩
  rw [hR]
  have HE : Hid (R = mapO rdS (cutT 32 t)) := Lib.hid (by rw [← hR]; rfl)
  have hszE : (w.alloc (.cells #[] 2)).heap.size = w.heap.size + 1 := by simp
  clear hR
  go_enter Tryd.func29, Tryd.ntmps29
  go_wp2_with fail
  refine HSP.out.mono ?_
  clear HSP
  rintro e w1 ⟨v, rfl, ov, b1⟩
  obtain ⟨gt, c, rfl, hg0, hg1⟩ := row_base ov
  have sv := ov.see
  rw [hszE] at hg0
  generalize w.alloc _ = WE at *
  generalize cutT 32 t = ts at *
  have o1 := own_later oE b1
  have bb := below_then bE b1 (Nat.le_refl _)
  have hml : (ts.map str).length = ts.length := by simp
  clear oE bE b1 ov
  go_wp2_with fail
  go_loopw [4, 6] (fun l i wr => ∃ (k g' c' : Nat) (xs : List Int), k ≤ ts.length ∧ xs.length = k ∧ i = .int .i64 k ∧ l = .slice (some ⟨g', 0, none⟩) k c' ∧ OwnI wr w.heap.size 2 (.slice (some ⟨g', 0, none⟩) k c') xs ∧ mapO rdS (ts.take k) = some xs ∧ SeeV wr wr.heap.size (.slice (some ⟨gt, 0, none⟩) ts.length c) (ts.map str) ∧ g' ≠ gt ∧ gt < wr.heap.size ∧ Below w.heap.size w wr) (fun _ i _ => ts.length - (intOf i).toNat)
  case atStart => exact ⟨0, w.heap.size, 0, [], Nat.zero_le _, rfl, rfl, rfl, o1, rfl, sv, by omega, hg1, bb⟩
  case round =>
    clear o1 sv bb
    obtain ⟨k, g', c', xs, hk, hxl, rfl, rfl, ho, hm, sv, hgne, hwr, bb⟩ := hrel
    by_cases hlt : k < ts.length
    · have hx := List.getElem?_eq_getElem hlt
      generalize ts[k] = x at hx
      have hxs := HCS.out x (List.mem_of_getElem? hx)
      obtain ⟨g, p, e0, -, hcx⟩ := sv.at_ (k := k) (x := str x) (by rw [List.getElem?_map, hx]; rfl)
      injection e0 with e0
      injection e0 with e1 e2
      subst e1 e2
      rw [Nat.zero_add] at hcx
      have HI := Lib.hid (sReadWord_any x hxs wr)
      have HX := Lib.hid hx
      have HM := Lib.hid hm
      clear hx hm
      cases hr : rdS x with
      | none =>
        rw [hr] at HI
        have HN : Hid (R = none) := Lib.hid (by rw [HE.out]; exact mapO_out HX.out hr)
        go_wp2_with fail
        refine HI.out.mono ?_
        rintro e w2 ⟨rfl, rfl⟩
        have oN := OwnI.empty wr wr.heap.size 2 (Nat.le_refl _)
        have bN := below_new wr (.cells #[] 2)
        have hz := bb.size
        go_wp2_with fail
        go_ret2
        exact rdI_none HN.out (oN.less (by omega)) (below_then bb bN (Nat.le_refl _))
      | some n =>
        rw [hr] at HI
        have HM2 := Lib.hid (mapO_at HM.out HX.out hr)
        clear hr
        go_wp2_with fail
        refine HI.out.mono ?_
        rintro e w2 ⟨rfl, rfl⟩
        have hz := bb.size
        have HLT := Lib.hid ho.lt
        have bA := below_new wr (.cells #[.int .i64 n] 2)
        have oW : OwnI (wr.alloc (.cells #[.int .i64 n] 2)) w.heap.size 2 (.slice (some ⟨g', 0, none⟩) k c') xs := own_later ho bA
        have HSV := Lib.hid ((sv.below bA).more bA.size)
        have HLN := HTL.out
        clear ho sv bA
        go_wp2_with (at_builtin; refine wpList_append_own_at _ rfl _ _ 40 rfl w.heap.size 2 i0 (.int .i64 0) 1 8 Tryd.underlying40 hi hz0 hz1 hz2 rfl (by decide) _ _ _ rfl oW ⟨wr.heap.size, 0, none⟩ 1 1 [.int .i64 n] rfl rfl (cell_one_new _ _ _) (by intro u hu; simp at hu; subst hu; rfl) (by unfold maxLen; omega) (by omega) (by simp; omega) ?_; intro v9 w9 hown9 hgr9 hnil9 hat9; (obtain ⟨g9, c9, rfl⟩ := own_base hown9 (fun q => by have := (hnil9.1 q).2; cases this)))
        have o9 : OwnI w9 w.heap.size 2 (.slice (some ⟨g9, 0, none⟩) (xs.length + 1) c9) (xs ++ [n]) := own_moreR hown9
        rw [hxl] at o9
        have bb9 : Below w.heap.size w w9 := ((bb.trans ((Below.refl w.heap.size wr).alloc (by omega) (.cells #[.int .i64 n] 2)))).trans ((Below.refl _ _).grown hgr9 (by simp; omega) (fun j hj => by cases hj; exact (HLT.out g' rfl).1))
        have sv9 : SeeV w9 w9.heap.size (.slice (some ⟨gt, 0, none⟩) ts.length c) (ts.map str) := (HSV.out.off (Nat.le_refl _) hgr9 (by intro q; injection q with q; exact hgne q)).more hgr9.size
        have hg9 : g9 ≠ gt := by
          rcases hat9 with q | q
          · injection q with q
            intro z
            exact hgne (q.symm.trans z)
          · injection q with q
            replace q : g9 = _ := q
            rw [World.size_alloc] at q
            omega
        have hgr9' : wr.heap.size + 1 ≤ w9.heap.size := by simpa using hgr9.size
        have hgw : gt < w9.heap.size := by omega
        clear hown9 hgr9 hnil9 hat9 oW HSV bb hgr9'
        go_roundw
        case rel => exact ⟨k + 1, g9, c9, xs ++ [n], by omega, by simp [hxl], by go_num, by simp, o9, HM2.out, sv9, hg9, hgw, bb9⟩
        case measure => simp [intOf]; omega
    · obtain rfl : k = ts.length := by omega
      have HN : Hid (R = some xs) := Lib.hid (by rw [HE.out, ← hm, List.take_length])
      go_wp2_with fail
      go_ret2
      exact rdI_some HN.out ho bb

set_option maxHeartbeats 4000000 in
set_option maxRecDepth 100000 in
theorem sReadSlots_any (t : List UInt8) (hl : t.length ≤ 1048576) (w : World) :
    Calls Tryd.prog 11 #[str t] w (RdSOut w (rdSlotsM t)) := by
  obtain ⟨j0, hj, hy0, hy1, hy2⟩ := info_parts Tryd.infoSl
  have HCS := Lib.hid (fun x hx => Nat.le_trans (cutM_short 47 t x hx) hl)
  have oE := OwnSS.empty w
  have bE := below_new w (.cells #[] 40)
  have HSP := Lib.hid (l1Split_any t hl 47 (w.alloc (.cells #[] 40)))
  have HTL := Lib.hid (cutT_le 47 t)
  obtain ⟨R, hR⟩ : ∃ R, rdSlotsM t = R := ⟨_, rfl⟩
  rw [hR]
  have HE : Hid (R = (mapO rdSlotM (cutT 47 t)).filter slotsB) := Lib.hid (by rw [← hR]; rfl)
  have hszE : (w.alloc (.cells #[] 40)).heap.size = w.heap.size + 1 := by simp
  clear hR
  go_enter Tryd.func11, Tryd.ntmps11
  go_wp2_with fail
  refine HSP.out.mono ?_
  clear HSP
  rintro e w1 ⟨v, rfl, ov, b1⟩
  obtain ⟨gt, c, rfl, hg0, hg1⟩ := row_base ov
  have sv := ov.see
  rw [hszE] at hg0
  generalize w.alloc _ = WE at *
  generalize cutT 47 t = ts at *
  have o1 := oE.later b1
  have bb := below_then bE b1 (Nat.le_refl _)
  have hml : (ts.map str).length = ts.length := by simp
  clear oE bE b1 ov
  go_wp2_with fail
  go_loopw [4, 6] (fun l i wr => ∃ (k g' c' : Nat) (vs : List Value) (xs : List (List Int)), k ≤ ts.length ∧ xs.length = k ∧ i = .int .i64 k ∧ l = .slice (some ⟨g', 0, none⟩) k c' ∧ OwnSS wr w.heap.size (.slice (some ⟨g', 0, none⟩) k c') vs xs ∧ mapO rdSlotM (ts.take k) = some xs ∧ SeeV wr wr.heap.size (.slice (some ⟨gt, 0, none⟩) ts.length c) (ts.map str) ∧ g' ≠ gt ∧ gt < wr.heap.size ∧ Below w.heap.size w wr) (fun _ i _ => ts.length - (intOf i).toNat)
  case atStart => exact ⟨0, w.heap.size, 0, [], [], Nat.zero_le _, rfl, rfl, rfl, o1, rfl, sv, by omega, hg1, bb⟩
  case round =>
    clear o1 sv bb
    obtain ⟨k, g', c', vs, xs, hk, hxl, rfl, rfl, ho, hm, sv, hgne, hwr, bb⟩ := hrel
    by_cases hlt : k < ts.length
    · have hx := List.getElem?_eq_getElem hlt
      generalize ts[k] = x at hx
      have hxs := HCS.out x (List.mem_of_getElem? hx)
      have b0 := below_new wr (.cells #[] 2)
      obtain ⟨g, p, e0, -, hcx⟩ := ((sv.below b0).more b0.size).at_ (k := k) (x := str x) (by rw [List.getElem?_map, hx]; rfl)
      injection e0 with e0
      injection e0 with e1 e2
      subst e1 e2
      rw [Nat.zero_add] at hcx
      have hzz := bb.size
      by_cases hd : x = [45]
      · have HM2 := Lib.hid (mapO_at hm hx (show rdSlotM x = some [] by unfold rdSlotM; rw [if_pos hd]))
        have hne : (x == [45]) = true := by simpa using hd
        clear hm hx hd
        have n2 : OwnI (wr.alloc (.cells #[] 2)) wr.heap.size 2 (.slice (some ⟨wr.heap.size, 0, none⟩) 0 0) [] := OwnI.empty wr wr.heap.size 2 (Nat.le_refl _)
        have b2 := b0
        clear b0
        go_upto_region 12 with fail
        clear hcx hne
        generalize hW2 : wr.alloc (.cells #[] 2) = W2 at *
        clear hW2
        have bA := below_new W2 (.cells #[.slice (some ⟨wr.heap.size, 0, none⟩) 0 0] 40)
        have HRB := Lib.hid (fun q (e : rowsSS vs q) => (ho.blocks q e).2)
        have HLT := Lib.hid (World.ownsRow.lt ho.row g' rfl)
        have oA := (ho.later b2).later bA
        have nA := own_less (own_later n2 bA) (show w.heap.size ≤ wr.heap.size by omega)
        have NB := Lib.hid (fun q (e : (Value.slice (some ⟨wr.heap.size, 0, none⟩) 0 0).ownBlock = some q) => (n2.lt q e).1)
        have svA := (((sv.below b2).more b2.size).below bA).more bA.size
        have bb2 := below_then bb b2 (Nat.le_refl _)
        have hz := bb2.size
        have hrow := oA.row
        have hlen : vs.length = k := by rw [oA.len, hxl]
        rw [hlen] at hrow
        have HLEN := Lib.hid hlen
        have HSV := Lib.hid svA
        have HB := Lib.hid (And.intro b2.size bb.size)
        have OA := Lib.hid oA
        have NA := Lib.hid nA
        have HLN := HTL.out
        have HWA := Lib.hid (show w.heap.size ≤ (W2.alloc (.cells #[.slice (some ⟨wr.heap.size, 0, none⟩) 0 0] 40)).heap.size by have := bA.size; omega)
        clear ho b2 sv svA bA oA nA n2 hlen
        go_wp2_with (at_builtin; refine wpList_append_own_at _ rfl _ _ 24 rfl w.heap.size 40 j0 (.slice none 0 0) 1 24 Tryd.underlying24 hj hy0 hy1 hy2 rfl (by decide) _ _ _ rfl hrow ⟨W2.heap.size, 0, none⟩ 1 1 [.slice (some ⟨wr.heap.size, 0, none⟩) 0 0] rfl rfl (cell_one_new _ _ _) (by intro u hu; simp at hu; subst hu; rfl) (by unfold maxLen; omega) (by omega) HWA.out ?_; intro v9 w9 hown9 hgr9 hnil9 hat9; (obtain ⟨g9, c9, rfl⟩ := own_base hown9 (fun q => by have := (hnil9.1 q).2; cases this)))
        have o9 := OA.out.push NA.out (fun j u hu q e1 e2 => by have h1 := HRB.out q ⟨j, u, hu, e1⟩; have h2 := NB.out q e2; omega) (fun q e1 e2 => by have e' := ob_eqR e1; have h1 := HLT.out.2; have h2 := NB.out q e2; omega) (by rw [HLEN.out]; exact hown9) hgr9 hat9
        have bb9 : Below w.heap.size w w9 := ((bb2.trans ((Below.refl w.heap.size W2).alloc (by omega) (.cells #[.slice (some ⟨wr.heap.size, 0, none⟩) 0 0] 40)))).trans ((Below.refl _ _).grown hgr9 (by simp; omega) (fun j hj => by cases hj; exact HLT.out.1))
        have sv9 : SeeV w9 w9.heap.size (.slice (some ⟨gt, 0, none⟩) ts.length c) (ts.map str) := (HSV.out.off (Nat.le_refl _) hgr9 (by intro q; injection q with q; exact hgne q)).more hgr9.size
        have hg9 : g9 ≠ gt := by
          have hb2 := HB.out
          rcases hat9 with q | q
          · injection q with q
            intro z
            exact hgne (q.symm.trans z)
          · injection q with q
            replace q : g9 = _ := q
            have h2 := hb2.1
            rw [World.size_alloc] at q
            omega
        have hgw : gt < w9.heap.size := by
          have h1 := hgr9.size
          rw [World.size_alloc] at h1
          have h2 := HB.out.1
          omega
        clear hown9 hgr9 hnil9 hat9 OA NA HSV bb2 bb
        go_roundw
        case rel => exact ⟨k + 1, g9, c9, vs ++ [.slice (some ⟨wr.heap.size, 0, none⟩) 0 0], xs ++ [[]], by omega, by simp [hxl], by go_num, by simp, o9, HM2.out, sv9, hg9, hgw, bb9⟩
        case measure => simp [intOf]; omega
      · have HR0 : Hid (rdSlotM x = rdIntsM x) := Lib.hid (by unfold rdSlotM; rw [if_neg hd])
        have hne : (x == [45]) = false := by simpa using hd
        have HI := Lib.hid (l10Read_any x hxs (wr.alloc (.cells #[] 2)))
        have HX := Lib.hid hx
        have HM := Lib.hid hm
        clear hx hm hd
        cases hr : rdIntsM x with
        | none =>
          rw [hr] at HI
          have HN : Hid (R = none) := Lib.hid (by rw [HE.out, mapO_out HX.out (HR0.out.trans hr)]; rfl)
          clear hr
          go_wp2_with fail
          refine HI.out.mono ?_
          rintro e w2 ⟨v2, rfl, -, b2'⟩
          have oN := OwnSS.empty w2
          have bN := below_new w2 (.cells #[] 40)
          have bb2 := below_then (below_then bb b0 (Nat.le_refl _)) b2' (Nat.le_refl _)
          have hz := bb2.size
          go_wp2_with fail
          go_ret2
          exact rdSS_none HN.out (oN.less (by omega)) (below_then bb2 bN (Nat.le_refl _))
        | some n =>
          rw [hr] at HI
          have HM2 := Lib.hid (mapO_at HM.out HX.out (HR0.out.trans hr))
          clear hr
          go_upto_region 8 with fail
          clear hne
          go_wp2_with fail
          refine HI.out.mono ?_
          rintro e w2 ⟨v2, rfl, n2', b2'⟩
          have n2 : OwnI w2 wr.heap.size 2 v2 n := own_less n2' (by simp)
          obtain ⟨D, c2, rfl⟩ := n2.see.shape
          have b2 := below_then b0 b2' (Nat.le_refl _)
          clear b0 b2' n2' HI hcx
          have bA := below_new w2 (.cells #[.slice D n.length c2] 40)
          have HRB := Lib.hid (fun q (e : rowsSS vs q) => (ho.blocks q e).2)
          have HLT := Lib.hid (World.ownsRow.lt ho.row g' rfl)
          have oA := (ho.later b2).later bA
          have nA := own_less (own_later n2 bA) (show w.heap.size ≤ wr.heap.size by omega)
          have NB := Lib.hid (fun q (e : (Value.slice D n.length c2).ownBlock = some q) => (n2.lt q e).1)
          have svA := (((sv.below b2).more b2.size).below bA).more bA.size
          have bb2 := below_then bb b2 (Nat.le_refl _)
          have hz := bb2.size
          have hrow := oA.row
          have hlen : vs.length = k := by rw [oA.len, hxl]
          rw [hlen] at hrow
          have HLEN := Lib.hid hlen
          have HSV := Lib.hid svA
          have HB := Lib.hid (And.intro b2.size bb.size)
          have OA := Lib.hid oA
          have NA := Lib.hid nA
          have HLN := HTL.out
          have HWA := Lib.hid (show w.heap.size ≤ (w2.alloc (.cells #[.slice D n.length c2] 40)).heap.size by have := bA.size; omega)
          clear ho b2 sv svA bA oA nA n2 hlen
          go_wp2_with (at_builtin; refine wpList_append_own_at _ rfl _ _ 24 rfl w.heap.size 40 j0 (.slice none 0 0) 1 24 Tryd.underlying24 hj hy0 hy1 hy2 rfl (by decide) _ _ _ rfl hrow ⟨w2.heap.size, 0, none⟩ 1 1 [.slice D n.length c2] rfl rfl (cell_one_new _ _ _) (by intro u hu; simp at hu; subst hu; rfl) (by unfold maxLen; omega) (by omega) HWA.out ?_; intro v9 w9 hown9 hgr9 hnil9 hat9; (obtain ⟨g9, c9, rfl⟩ := own_base hown9 (fun q => by have := (hnil9.1 q).2; cases this)))
          have o9 := OA.out.push NA.out (fun j u hu q e1 e2 => by have h1 := HRB.out q ⟨j, u, hu, e1⟩; have h2 := NB.out q e2; omega) (fun q e1 e2 => by have e' := ob_eqR e1; have h1 := HLT.out.2; have h2 := NB.out q e2; omega) (by rw [HLEN.out]; exact hown9) hgr9 hat9
          have bb9 : Below w.heap.size w w9 := ((bb2.trans ((Below.refl w.heap.size w2).alloc (by omega) (.cells #[.slice D n.length c2] 40)))).trans ((Below.refl _ _).grown hgr9 (by simp; omega) (fun j hj => by cases hj; exact HLT.out.1))
          have sv9 : SeeV w9 w9.heap.size (.slice (some ⟨gt, 0, none⟩) ts.length c) (ts.map str) := (HSV.out.off (Nat.le_refl _) hgr9 (by intro q; injection q with q; exact hgne q)).more hgr9.size
          have hg9 : g9 ≠ gt := by
            have hb2 := HB.out
            rcases hat9 with q | q
            · injection q with q
              intro z
              exact hgne (q.symm.trans z)
            · injection q with q
              replace q : g9 = _ := q
              have h2 := hb2.1
              rw [World.size_alloc] at q
              omega
          have hgw : gt < w9.heap.size := by
            have h1 := hgr9.size
            rw [World.size_alloc] at h1
            have h2 := HB.out.1
            omega
          clear hown9 hgr9 hnil9 hat9 OA NA HSV bb2 bb
          go_roundw
          case rel => exact ⟨k + 1, g9, c9, vs ++ [.slice D n.length c2], xs ++ [n], by omega, by simp [hxl], by go_num, by simp, o9, HM2.out, sv9, hg9, hgw, bb9⟩
          case measure => simp [intOf]; omega
    · obtain rfl : k = ts.length := by omega
      have hm2 : mapO rdSlotM ts = some xs := by rw [← hm, List.take_length]
      have HL := Lib.hid (l9Slots_any _ _ xs wr (OwnSS.see ho))
      have hz := bb.size
      cases hs : slotsB xs
      · have HN : Hid (R = none) := Lib.hid (by rw [HE.out, hm2]; simp [Option.filter, hs])
        rw [hs] at HL
        have oN := OwnSS.empty wr
        have bN := below_new wr (.cells #[] 40)
        go_wp2_with fail
        refine HL.out.mono ?_
        rintro e w2 ⟨rfl, rfl⟩
        go_wp2_with fail
        go_ret2
        exact rdSS_none HN.out (oN.less (by omega)) (below_then bb bN (Nat.le_refl _))
      · have HN : Hid (R = some xs) := Lib.hid (by rw [HE.out, hm2]; simp [Option.filter, hs])
        rw [hs] at HL
        go_wp2_with fail
        refine HL.out.mono ?_
        rintro e w2 ⟨rfl, rfl⟩
        go_wp2_with fail
        go_ret2
        exact rdSS_some HN.out ho bb

end Go.Proofs.YtigcbegeaikfcaaDoor
