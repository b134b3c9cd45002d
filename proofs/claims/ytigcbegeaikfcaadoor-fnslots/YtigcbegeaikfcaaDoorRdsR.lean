/- Layer 10 (feeds): slots read from a text, by the program. Conditions: as in RdsP. -/
import Derived.Test.YtigcbegeaikfcaaDoorRdsP
import Derived.Test.YtigcbegeaikfcaaDoorSltO
namespace Go.Proofs.YtigcbegeaikfcaaDoor
open Go.RowKit
set_option linter.unusedVariables false

set_option maxHeartbeats 4000000 in
set_option maxRecDepth 100000 in
theorem iReadSlot_any (t : List UInt8) (hl : t.length ≤ 1048576) (w : World) (V : Vars w) (M : MaxL w) :
    Calls Tryd.prog 27 #[str t] w (RdIOut w (rdSlotP t)) := by
  by_cases h : t = [45]
  · have hr : Hid (rdSlotP t = some []) := Lib.hid (by unfold rdSlotP; rw [if_pos h])
    have ht : (t == [45]) = true := by simpa using h
    have oN := OwnI.empty w w.heap.size 2 (Nat.le_refl _)
    have bN := below_new w (.cells #[] 2)
    generalize rdSlotP t = R at *
    clear V M
    go_enter Tryd.func27, Tryd.ntmps27
    go_wp2_with fail
    go_ret2
    exact rdI_some hr.out oN bN
  · have hr : Hid (rdSlotP t = rdIntsP t) := Lib.hid (by unfold rdSlotP; rw [if_neg h])
    have ht : (t == [45]) = false := by simpa using h
    have HI := Lib.hid (iReadInts_any t hl w V M)
    generalize rdSlotP t = R at *
    generalize rdIntsP t = R' at *
    obtain rfl := hr.out
    clear V M hr
    go_enter Tryd.func27, Tryd.ntmps27
    go_wp2_with fail
    refine HI.out.mono ?_
    rintro e w1 ⟨v, rfl, o, b⟩
    go_wp2_with fail
    go_ret2
    exact ⟨v, rfl, o, b⟩

def RdSOut (w : World) (r : Option (List (List Int))) (e : Ending) (w' : World) : Prop := ∃ v us, e = .returned (.tuple #[v, .bool r.isSome]) ∧ OwnSS w' w.heap.size v us (r.getD []) ∧ Below w.heap.size w w'
theorem rdSS_none {w w' : World} {r : Option (List (List Int))} {v : Value} {us : List Value} (h : r = none) (o : OwnSS w' w.heap.size v us []) (b : Below w.heap.size w w') : RdSOut w r (.returned (.tuple #[v, .bool false])) w' := by
  subst h; exact ⟨v, us, rfl, o, b⟩
theorem rdSS_some {w w' : World} {r : Option (List (List Int))} {ss : List (List Int)} {v : Value} {us : List Value} (h : r = some ss) (o : OwnSS w' w.heap.size v us ss) (b : Below w.heap.size w w') : RdSOut w r (.returned (.tuple #[v, .bool true])) w' := by
  subst h; exact ⟨v, us, rfl, o, b⟩
theorem ob_eqR {r n c q : Nat} (e : (Value.slice (some ⟨r, 0, none⟩) n c).ownBlock = some q) : r = q := by simpa [Value.ownBlock] using e

set_option maxHeartbeats 4000000 in
set_option maxRecDepth 100000 in
theorem iReadRows_any (t : List UInt8) (hl : t.length ≤ 1048576) (w : World) (V : Vars w) (M : MaxL w) :
    Calls Tryd.prog 26 #[str t, str [47], .int .i64 4, .func (.func 27) #[] #[]] w (RdSOut w (rdSlotsP t)) := by
  obtain ⟨j0, hj, hy0, hy1, hy2⟩ := info_parts Tryd.infoSl
  have HCS := Lib.hid (fun x hx => Nat.le_trans (cutM_short 47 t x hx) hl)
  have oE := OwnSS.empty w
  have bE := below_new w (.cells #[] 40)
  have HV := Lib.hid (fun W (b : Below w.heap.size w W) => V.below b)
  have HMX := Lib.hid (fun W (b : Below w.heap.size w W) => M.below b)
  obtain ⟨q, hq, hsp⟩ := split47_any t hl (w.alloc (.cells #[] 40)) (M.below bE)
  have HSP := Lib.hid hsp
  obtain ⟨R, hR⟩ : ∃ R, rdSlotsP t = R := ⟨_, rfl⟩
  rw [hR]
  have HR := Lib.hid hR
  have hszE : (w.alloc (.cells #[] 40)).heap.size = w.heap.size + 1 := by simp
  clear V M hsp hR
  go_enter Tryd.func26, Tryd.ntmps26
  go_wp2_with fail
  refine HSP.out.mono ?_
  clear HSP
  generalize w.alloc _ = WE at *
  rintro e w1 ⟨c, rfl, ov, b1⟩
  rw [hszE] at ov
  have o1 := oE.later b1
  have bb := below_then bE b1 (Nat.le_refl _)
  have sv := ov.see
  have hw1 := b1.size
  have hw2 : w.heap.size + 2 ≤ w1.heap.size := by
    rcases ov.2 with ⟨h, _⟩ | ⟨g, c0, cu, h, _, hg, _⟩
    · cases h
    · injection h with h
      injection h with h
      injection h with h
      have := (Array.getElem?_eq_some_iff.1 hg).1
      omega
  clear oE bE b1
  rcases hq with ⟨hc, hq1, hq2⟩ | ⟨rfl, hc⟩
  · have HE : Hid (R = none) := Lib.hid (by rw [← HR.out]; unfold rdSlotsP; rw [if_neg (by omega)])
    have hgt : (4 : Int) < q.length := by omega
    have oN := OwnSS.empty w1
    have bN := below_new w1 (.cells #[] 40)
    go_wp2_with fail
    go_ret2
    exact rdSS_none HE.out (oN.less (by omega)) (below_then bb bN (Nat.le_refl _))
  have HE : Hid (R = mapO rdSlotP (cutT 47 t)) := Lib.hid (by rw [← HR.out]; unfold rdSlotsP; rw [if_pos hc])
  have hle : ¬ (4 : Int) < (cutT 47 t).length := by omega
  have HC := Lib.hid hc
  generalize cutT 47 t = ts at *
  have hml : (ts.map str).length = ts.length := by simp
  clear HR hc
  go_wp2_with fail
  clear hle
  go_loopw [10, 13, 14, 15, 29] (fun l _ _ _ i wr => ∃ (k g' c' : Nat) (vs : List Value) (xs : List (List Int)), k ≤ ts.length ∧ xs.length = k ∧ i = .int .i64 k ∧ l = .slice (some ⟨g', 0, none⟩) k c' ∧ OwnSS wr w.heap.size (.slice (some ⟨g', 0, none⟩) k c') vs xs ∧ mapO rdSlotP (ts.take k) = some xs ∧ SeeV wr wr.heap.size (.slice (some ⟨(w.heap.size + 1), 0, none⟩) ts.length c) (ts.map str) ∧ g' ≠ (w.heap.size + 1) ∧ w.heap.size + 2 ≤ wr.heap.size ∧ Below w.heap.size w wr) (fun _ _ _ _ i _ => ts.length - (intOf i).toNat)
  case atStart => exact ⟨0, w.heap.size, 0, [], [], Nat.zero_le _, rfl, rfl, rfl, o1, rfl, sv, by omega, hw2, bb⟩
  case round =>
    clear o1 sv ov bb
    obtain ⟨k, g', c', vs, xs, hk, hxl, rfl, rfl, ho, hm, sv, hgne, hwr, bb⟩ := hrel
    by_cases hlt : k < ts.length
    · have hx := List.getElem?_eq_getElem hlt
      generalize ts[k] = x at hx
      have hxs := HCS.out x (List.mem_of_getElem? hx)
      obtain ⟨g, p, e0, -, hcx⟩ := sv.at_ (k := k) (x := str x) (by rw [List.getElem?_map, hx]; rfl)
      injection e0 with e0
      injection e0 with e1 e2
      subst e1 e2
      rw [Nat.zero_add] at hcx
      have HI := Lib.hid (iReadSlot_any x hxs wr (HV.out wr bb) (HMX.out wr bb))
      have HX := Lib.hid hx
      have HM := Lib.hid hm
      clear hx hm
      cases hr : rdSlotP x with
      | none =>
        rw [hr] at HI
        have HN : Hid (R = none) := Lib.hid (by rw [HE.out]; exact mapO_out HX.out hr)
        go_wp2_with fail
        refine HI.out.mono ?_
        rintro e w2 ⟨v2, rfl, -, b2⟩
        have oN := OwnSS.empty w2
        have bN := below_new w2 (.cells #[] 40)
        have bb2 := below_then bb b2 (Nat.le_refl _)
        have hz := bb2.size
        go_wp2_with fail
        go_ret2
        exact rdSS_none HN.out (oN.less (by omega)) (below_then bb2 bN (Nat.le_refl _))
      | some n =>
        rw [hr] at HI
        have HM2 := Lib.hid (mapO_at HM.out HX.out hr)
        clear hr
        go_wp2_with fail
        refine HI.out.mono ?_
        rintro e w2 ⟨v2, rfl, n2, b2⟩
        replace n2 : OwnI w2 wr.heap.size 2 v2 n := n2
        obtain ⟨D, c2, rfl⟩ := n2.see.shape
        have bA := below_new w2 (.cells #[.slice D n.length c2] 40)
        have HRB := Lib.hid (fun q (e : rowsSS vs q) => (ho.blocks q e).2)
        have HLT := Lib.hid (World.ownsRow.lt ho.row g' rfl)
        have oA := (ho.later b2).later bA
        have nA := own_less (own_later n2 bA) (show w.heap.size ≤ wr.heap.size by omega)
        have NB := Lib.hid (fun q (e : (Value.slice D n.length c2).ownBlock = some q) => (n2.lt q e).1)
        have svA := (((sv.below b2).more b2.size).below bA).more bA.size
        have bb2 := below_then bb b2 (Nat.le_refl _)
        have hz := bb2.size
        have hrow := oA.row
        have hlen : vs.length = k := by rw [oA.len, hxl]
        rw [hlen] at hrow
        have HLEN := Lib.hid hlen
        have HSV := Lib.hid svA
        have HB := Lib.hid (And.intro b2.size bb.size)
        have OA := Lib.hid oA
        have NA := Lib.hid nA
        have h4 := HC.out
        have HWA := Lib.hid (show w.heap.size ≤ (w2.alloc (.cells #[.slice D n.length c2] 40)).heap.size by have := bA.size; omega)
        clear ho b2 sv svA bA oA nA n2 hlen
        go_wp2_with (at_builtin; refine wpList_append_own_at _ rfl _ _ 38 rfl w.heap.size 40 j0 (.slice none 0 0) 1 24 Tryd.underlying38 hj hy0 hy1 hy2 rfl (by decide) _ _ _ rfl hrow ⟨w2.heap.size, 0, none⟩ 1 1 [.slice D n.length c2] rfl rfl (cell_one_new _ _ _) (by intro u hu; simp at hu; subst hu; rfl) (by unfold maxLen; omega) (by omega) HWA.out ?_; intro v9 w9 hown9 hgr9 hnil9 hat9; (obtain ⟨g9, c9, rfl⟩ := own_base hown9 (fun q => by have := (hnil9.1 q).2; cases this)))
        have o9 := OA.out.push NA.out (fun j u hu q e1 e2 => by have h1 := HRB.out q ⟨j, u, hu, e1⟩; have h2 := NB.out q e2; omega) (fun q e1 e2 => by have e' := ob_eqR e1; have h1 := HLT.out.2; have h2 := NB.out q e2; omega) (by rw [HLEN.out]; exact hown9) hgr9 hat9
        have bb9 : Below w.heap.size w w9 := ((bb2.trans ((Below.refl w.heap.size w2).alloc (by omega) (.cells #[.slice D n.length c2] 40)))).trans ((Below.refl _ _).grown hgr9 (by simp; omega) (fun j hj => by cases hj; exact HLT.out.1))
        have sv9 : SeeV w9 w9.heap.size (.slice (some ⟨(w.heap.size + 1), 0, none⟩) ts.length c) (ts.map str) := (HSV.out.off (Nat.le_refl _) hgr9 (by intro q; injection q with q; exact hgne q)).more hgr9.size
        have hg9 : g9 ≠ (w.heap.size + 1) := by
          have hb2 := HB.out
          rcases hat9 with q | q
          · injection q with q
            intro z
            exact hgne (q.symm.trans z)
          · injection q with q
            replace q : g9 = _ := q
            have h2 := hb2.1
            rw [World.size_alloc] at q
            omega
        have hgr9' := Lib.hid (show w2.heap.size + 1 ≤ w9.heap.size by simpa using hgr9.size)
        clear hown9 hgr9 hnil9 hat9 OA NA HSV bb2 bb
        go_roundw
        case rel => exact ⟨k + 1, g9, c9, vs ++ [.slice D n.length c2], xs ++ [n], by omega, by simp [hxl], by go_num, by simp, o9, HM2.out, sv9, hg9, by have := hgr9'.out; have h2 := HB.out.1; omega, bb9⟩
        case measure => simp [intOf]; omega
    · obtain rfl : k = ts.length := by omega
      have HN : Hid (R = some xs) := Lib.hid (by rw [HE.out, ← hm, List.take_length])
      go_wp2_with fail
      go_ret2
      exact rdSS_some HN.out ho bb

set_option maxHeartbeats 4000000 in
set_option maxRecDepth 100000 in
theorem iReadSlots_any (t : List UInt8) (hl : t.length ≤ 1048576) (w : World) (V : Vars w) (M : MaxL w) :
    Calls Tryd.prog 10 #[str t] w (RdSOut w (rdSlotsM t)) := by
  have HI := Lib.hid (iReadRows_any t hl w V M)
  rw [rdSlots_same] at HI
  generalize rdSlotsM t = R at *
  clear V M
  go_enter Tryd.func10, Tryd.ntmps10
  go_wp2_with fail
  refine HI.out.mono ?_
  rintro e w1 ⟨v, us, rfl, o, b⟩
  go_wp2_with fail
  go_ret2
  exact ⟨v, us, rfl, o, b⟩

end Go.Proofs.YtigcbegeaikfcaaDoor
