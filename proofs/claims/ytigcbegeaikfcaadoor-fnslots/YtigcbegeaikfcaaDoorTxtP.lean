/- Layer 10 (feeds): slots shown as a text, by the program; the walk of FnExactShowSlots. Condition: the listed table of tens holds what the program's text lays (TabT). -/
import Derived.Test.YtigcbegeaikfcaaDoorTxtS
import Derived.Deep.RegionHeld3
namespace Go.Proofs.YtigcbegeaikfcaaDoor
open Go.RowKit
set_option linter.unusedVariables false

theorem strsT_shape {w : World} {B : Nat} {v : Value} {ss : List (List UInt8)} (h : SeeV w B v (ss.map str)) : ∃ A c, v = .slice A ss.length c := by
  obtain ⟨A, c, e⟩ := h.shape
  exact ⟨A, c, by rw [e, List.length_map]⟩
set_option maxHeartbeats 1000000 in
theorem join32_any (B : Nat) (v : Value) (ss : List (List UInt8)) (w : World) (h : SeeV w B v (ss.map str)) (hB : B ≤ w.heap.size) (hn : ss.length ≤ 1048576) (hj : (Lib.join ss [32]).length ≤ 140737488355328) :
    Calls Tryd.prog 43 #[v, str [32]] w (TxtLt w (Lib.join ss [32])) := by
  obtain ⟨A, c, e⟩ := strsT_shape h
  subst e
  match ss, h, hn, hj with
  | [], h, _, _ => exact (Tryd.strings_Join_none A c ⟨#[32]⟩ w).mono fun e w' ⟨he, hw⟩ => ⟨he, by rw [hw]; exact Below.refl _ _⟩
  | x :: r, h, hn, hj =>
    obtain ⟨_, A', c', e', hc, hcell⟩ := h
    injection e' with e1 e2 e3
    subst e1 e3
    obtain ⟨g, o, e0, hg, _⟩ := hcell 0 (str x) rfl
    subst e0
    have hl : ((x :: r).map fun l => (⟨l.toArray⟩ : ByteArray)).length = (x :: r).length := by rw [List.length_map]
    have hm : ((x :: r).map fun l => (⟨l.toArray⟩ : ByteArray)).map (·.data.toList) = x :: r := by
      rw [List.map_map]
      exact List.map_id'' (fun _ => rfl) _
    have q := Tryd.strings_Join g o c ((x :: r).map fun l => (⟨l.toArray⟩ : ByteArray)) ⟨#[32]⟩ w (fun j y hy => by
      rw [List.getElem?_map] at hy
      cases hq : (x :: r)[j]? with
      | none => rw [hq] at hy; cases hy
      | some l =>
        rw [hq] at hy
        injection hy with hy
        subst hy
        obtain ⟨g', o', he, -, hc'⟩ := hcell j (str l) (by rw [List.getElem?_map, hq]; rfl)
        injection he with he
        injection he with e1 e2
        subst e1 e2
        exact hc') (by omega) (by rw [hl]; omega) (by rw [hl]; rw [List.length_map] at hc; exact hc) (by rw [hm]; exact hj)
    rw [hm, hl] at q
    exact q

set_option maxHeartbeats 1000000 in
theorem join47_any (B : Nat) (v : Value) (ss : List (List UInt8)) (w : World) (h : SeeV w B v (ss.map str)) (hB : B ≤ w.heap.size) (hn : ss.length ≤ 1048576) (hj : (Lib.join ss [47]).length ≤ 140737488355328) :
    Calls Tryd.prog 43 #[v, str [47]] w (TxtLt w (Lib.join ss [47])) := by
  obtain ⟨A, c, e⟩ := strsT_shape h
  subst e
  match ss, h, hn, hj with
  | [], h, _, _ => exact (Tryd.strings_Join_none A c ⟨#[47]⟩ w).mono fun e w' ⟨he, hw⟩ => ⟨he, by rw [hw]; exact Below.refl _ _⟩
  | x :: r, h, hn, hj =>
    obtain ⟨_, A', c', e', hc, hcell⟩ := h
    injection e' with e1 e2 e3
    subst e1 e3
    obtain ⟨g, o, e0, hg, _⟩ := hcell 0 (str x) rfl
    subst e0
    have hl : ((x :: r).map fun l => (⟨l.toArray⟩ : ByteArray)).length = (x :: r).length := by rw [List.length_map]
    have hm : ((x :: r).map fun l => (⟨l.toArray⟩ : ByteArray)).map (·.data.toList) = x :: r := by
      rw [List.map_map]
      exact List.map_id'' (fun _ => rfl) _
    have q := Tryd.strings_Join g o c ((x :: r).map fun l => (⟨l.toArray⟩ : ByteArray)) ⟨#[47]⟩ w (fun j y hy => by
      rw [List.getElem?_map] at hy
      cases hq : (x :: r)[j]? with
      | none => rw [hq] at hy; cases hy
      | some l =>
        rw [hq] at hy
        injection hy with hy
        subst hy
        obtain ⟨g', o', he, -, hc'⟩ := hcell j (str l) (by rw [List.getElem?_map, hq]; rfl)
        injection he with he
        injection he with e1 e2
        subst e1 e2
        exact hc') (by omega) (by rw [hl]; omega) (by rw [hl]; rw [List.length_map] at hc; exact hc) (by rw [hm]; exact hj)
    rw [hm, hl] at q
    exact q

set_option maxHeartbeats 400000 in
theorem iShowWord_any (n : Int) (hn : wordB n = true) (w : World) (T : TabT w) : Calls Tryd.prog 45 #[.int .i64 n] w (TxtLt w (Lib.itoa n)) := by
  have hw := word_num hn
  have HF := Lib.hid (Tryd.strconv_FormatInt_10 n (by omega) (by omega) w T)
  obtain ⟨R, HR⟩ : ∃ R, Hid (Lib.itoa n = R) := ⟨_, Lib.hid rfl⟩
  rw [HR.out] at HF ⊢
  go_enter Tryd.func45, Tryd.ntmps45
  go_wp2_with fail
  refine HF.out.mono ?_
  rintro e w2 ⟨rfl, k, os, rfl⟩
  go_wp2_with fail
  go_ret
  exact ⟨rfl, Lib.below_grow w.heap.size w (Nat.le_refl _) k os⟩

set_option maxHeartbeats 4000000 in
set_option maxRecDepth 100000 in
theorem shownI_any (B : Nat) (v : Value) (zs : List (Int)) (w : World) (h : SeeI w B v zs) (hB : B ≤ w.heap.size) (hz : slotB zs = true) (T : TabT w) :
    Calls Tryd.prog 44 #[v, str [32], .func (.func 45) #[] #[]] w (TxtLt w (Lib.join (zs.map Lib.itoa) [32])) := by
  obtain ⟨i0, hi, hz0, hz1, hz2⟩ := info_parts Tryd.infoStr
  obtain ⟨h40, hw⟩ := slot_words hz; have HJ := Lib.hid (ints_len hz)
  have HT := Lib.hid T
  clear T
  obtain ⟨A, c, rfl⟩ := h.shape
  obtain ⟨R, HR⟩ : ∃ R, Hid (Lib.join (zs.map Lib.itoa) [32] = R) := ⟨_, Lib.hid rfl⟩
  rw [HR.out]
  have oE := OwnV.empty w w.heap.size 9 (Nat.le_refl _)
  have bE : Below w.heap.size w (w.alloc (.cells #[] 9)) := (Below.refl _ w).alloc (Nat.le_refl _) _
  go_enter Tryd.func44, Tryd.ntmps44
  go_wp2_with fail
  generalize w.alloc _ = WE at oE bE ⊢
  go_loopw [7, 9, 13] (fun tx _ i wr => ∃ (k g' c' : Nat), k ≤ zs.length ∧ i = .int .i64 k ∧ tx = .slice (some ⟨g', 0, none⟩) k c' ∧ OwnV wr w.heap.size 9 (.slice (some ⟨g', 0, none⟩) k c') (((zs.take k).map Lib.itoa).map str) ∧ Below w.heap.size w wr) (fun _ _ i _ => zs.length - (intOf i).toNat)
  case atStart => exact ⟨0, w.heap.size, 0, Nat.zero_le _, rfl, rfl, oE, bE⟩
  case round =>
    clear oE bE
    obtain ⟨k, g', c', hk, rfl, rfl, ho, bb2⟩ := hrel
    by_cases hlt : k < zs.length
    · have hx := List.getElem?_eq_getElem hlt
      generalize zs[k] = x at hx
      have hwx := hw x (List.mem_of_getElem? hx)
      obtain ⟨g, p, x', rfl, -, hx', hcx⟩ := (h.below (bb2.mono hB)).at_ hlt
      obtain rfl : x = x' := by rw [hx] at hx'; injection hx' with e
      have HI := Lib.hid (iShowWord_any x hwx wr (HT.out.below bb2))
      clear hx'
      have HLT : Hid (((zs.take k).map Lib.itoa).length = k) := Lib.hid (by simp; omega)
      have HM : Hid ((zs.take (k + 1)).map Lib.itoa = (zs.take k).map Lib.itoa ++ [Lib.itoa x]) := Lib.hid (by rw [List.take_add_one, hx]; simp)
      generalize Lib.itoa x = tx at HI HM
      generalize hxs : (zs.take k).map Lib.itoa = xs at ho HM HLT
      clear hx hxs
      go_wp2_with fail
      refine HI.out.mono ?_
      rintro e w2 ⟨rfl, b2⟩
      have o2 := ho.later b2
      replace bb2 := bb2.trans (b2.mono bb2.size)
      clear ho b2 HI
      have oW := OwnV.alloc o2 (.cells #[str (tx)] 9)
      have hs2 := bb2.size
      have hxl := HLT.out
      go_wp2_with (at_builtin; refine wpList_append_own _ rfl _ _ 47 rfl w.heap.size 9 i0 (.string ⟨#[]⟩) 1 16 Tryd.underlying47 hi hz0 hz1 hz2 rfl (by decide) _ _ _ rfl oW ⟨w2.heap.size, 0, none⟩ 1 1 [str (tx)] rfl rfl ?c1 ?c2 ?c3 ?c4 ?c5 ?_)
      case c1 =>
        intro j u hj
        match j, hj with
        | 0, hj => simp at hj; subst hj; simp [Addr.add]
      case c2 => intro u hu; simp at hu; subst hu; rfl
      case c3 => unfold maxLen; rw [List.length_map, HLT.out]; omega
      case c4 => rw [List.length_map, HLT.out]; omega
      case c5 => simp; omega
      intro v9 w9 hown9 hgr9 _
      obtain ⟨g9, c9, rfl, o9, b9⟩ := app_moreT oW (by simp; omega) (y := tx) (by rw [List.length_map, HLT.out]; exact hown9) hgr9
      have bb9 := (bb2.trans ((Below.refl w.heap.size w2).alloc (by omega) (.cells #[str (tx)] 9))).trans b9
      rw [hxl, ← HM.out] at o9
      clear hown9 hgr9 oW o2 b9 bb2
      go_wp2
      go_roundw
      case rel => exact ⟨k + 1, g9, c9, by omega, by go_num, by rw [hxl], o9, bb9⟩
      case measure => simp [intOf]; omega
    · obtain rfl : k = zs.length := by omega
      rw [List.take_length] at ho
      have HS := Lib.hid (ho.see)
      go_wp2_with fail
      refine (join32_any _ _ (zs.map Lib.itoa) _ HS.out (Nat.le_refl _) (by rw [List.length_map]; omega) (by have := HJ.out; omega)).mono ?_
      rintro e w3 ⟨rfl, b3⟩
      go_wp2_with fail
      go_ret
      exact ⟨ret_txtT HR.out, below_then bb2 b3 (Nat.le_refl _)⟩

set_option maxHeartbeats 1000000 in
theorem iShowSlot_any (B : Nat) (v : Value) (zs : List Int) (w : World) (h : SeeI w B v zs) (hB : B ≤ w.heap.size) (hz : slotB zs = true) (T : TabT w) :
    Calls Tryd.prog 23 #[v] w (TxtLt w (showSlotS zs)) := by
  have hm := h.1
  unfold maxLen at hm
  have HC := Lib.hid (shownI_any B v zs w h hB hz T)
  obtain ⟨A, c, rfl⟩ := h.shape
  clear T h
  by_cases hl : zs.length = 0
  · have HE : Hid (showSlotS zs = [45]) := Lib.hid (by rw [List.length_eq_zero_iff.1 hl]; rfl)
    have hll : ((zs.length : Int) == 0) = true := by simp [hl]
    clear hl
    go_enter Tryd.func23, Tryd.ntmps23
    go_wp2_with fail
    go_ret
    exact ⟨ret_txtT HE.out.symm, Below.refl _ _⟩
  · have HE : Hid (showSlotS zs = Lib.join (zs.map Lib.itoa) [32]) := Lib.hid (by unfold showSlotS; rw [if_neg (fun e => hl (by rw [e]; rfl))])
    have hll : ((zs.length : Int) == 0) = false := by rw [beq_eq_false_iff_ne]; omega
    go_enter Tryd.func23, Tryd.ntmps23
    go_wp2_with fail
    refine HC.out.mono ?_
    rintro e w2 ⟨rfl, b2⟩
    go_wp2_with fail
    go_ret
    exact ⟨ret_txtT HE.out.symm, b2⟩

set_option maxHeartbeats 4000000 in
set_option maxRecDepth 100000 in
theorem shownSS_any (B : Nat) (v : Value) (zs : List (List Int)) (w : World) (h : SeeSS w B v zs) (hB : B ≤ w.heap.size) (hz : slotsB zs = true) (T : TabT w) :
    Calls Tryd.prog 22 #[v, str [47], .func (.func 23) #[] #[]] w (TxtLt w (Lib.join (zs.map showSlotS) [47])) := by
  obtain ⟨i0, hi, hz0, hz1, hz2⟩ := info_parts Tryd.infoStr
  obtain ⟨-, h40, hw⟩ := slots_each hz; have HJ := Lib.hid (showAll_len hz); unfold showAll at HJ
  have HT := Lib.hid T
  clear T
  obtain ⟨A, c, rfl⟩ := h.shape
  obtain ⟨R, HR⟩ : ∃ R, Hid (Lib.join (zs.map showSlotS) [47] = R) := ⟨_, Lib.hid rfl⟩
  rw [HR.out]
  have oE := OwnV.empty w w.heap.size 9 (Nat.le_refl _)
  have bE : Below w.heap.size w (w.alloc (.cells #[] 9)) := (Below.refl _ w).alloc (Nat.le_refl _) _
  go_enter Tryd.func22, Tryd.ntmps22
  go_wp2_with fail
  generalize w.alloc _ = WE at oE bE ⊢
  go_loopw [7, 9, 13] (fun tx _ i wr => ∃ (k g' c' : Nat), k ≤ zs.length ∧ i = .int .i64 k ∧ tx = .slice (some ⟨g', 0, none⟩) k c' ∧ OwnV wr w.heap.size 9 (.slice (some ⟨g', 0, none⟩) k c') (((zs.take k).map showSlotS).map str) ∧ Below w.heap.size w wr) (fun _ _ i _ => zs.length - (intOf i).toNat)
  case atStart => exact ⟨0, w.heap.size, 0, Nat.zero_le _, rfl, rfl, oE, bE⟩
  case round =>
    clear oE bE
    obtain ⟨k, g', c', hk, rfl, rfl, ho, bb2⟩ := hrel
    by_cases hlt : k < zs.length
    · have hx := List.getElem?_eq_getElem hlt
      generalize zs[k] = x at hx
      have hwx := hw x (List.mem_of_getElem? hx)
      obtain ⟨g, p, D, q, rfl, hcx, hsee⟩ := (h.below (bb2.mono hB)).at_ hx
      have HI := Lib.hid (iShowSlot_any B _ x wr hsee (Nat.le_trans hB bb2.size) hwx (HT.out.below bb2))
      clear hsee
      have HLT : Hid (((zs.take k).map showSlotS).length = k) := Lib.hid (by simp; omega)
      have HM : Hid ((zs.take (k + 1)).map showSlotS = (zs.take k).map showSlotS ++ [showSlotS x]) := Lib.hid (by rw [List.take_add_one, hx]; simp)
      generalize showSlotS x = tx at HI HM
      generalize hxs : (zs.take k).map showSlotS = xs at ho HM HLT
      clear hx hxs
      go_wp2_with fail
      refine HI.out.mono ?_
      rintro e w2 ⟨rfl, b2⟩
      have o2 := ho.later b2
      replace bb2 := bb2.trans (b2.mono bb2.size)
      clear ho b2 HI
      have oW := OwnV.alloc o2 (.cells #[str (tx)] 9)
      have hs2 := bb2.size
      have hxl := HLT.out
      go_wp2_with (at_builtin; refine wpList_append_own _ rfl _ _ 47 rfl w.heap.size 9 i0 (.string ⟨#[]⟩) 1 16 Tryd.underlying47 hi hz0 hz1 hz2 rfl (by decide) _ _ _ rfl oW ⟨w2.heap.size, 0, none⟩ 1 1 [str (tx)] rfl rfl ?c1 ?c2 ?c3 ?c4 ?c5 ?_)
      case c1 =>
        intro j u hj
        match j, hj with
        | 0, hj => simp at hj; subst hj; simp [Addr.add]
      case c2 => intro u hu; simp at hu; subst hu; rfl
      case c3 => unfold maxLen; rw [List.length_map, HLT.out]; omega
      case c4 => rw [List.length_map, HLT.out]; omega
      case c5 => simp; omega
      intro v9 w9 hown9 hgr9 _
      obtain ⟨g9, c9, rfl, o9, b9⟩ := app_moreT oW (by simp; omega) (y := tx) (by rw [List.length_map, HLT.out]; exact hown9) hgr9
      have bb9 := (bb2.trans ((Below.refl w.heap.size w2).alloc (by omega) (.cells #[str (tx)] 9))).trans b9
      rw [hxl, ← HM.out] at o9
      clear hown9 hgr9 oW o2 b9 bb2
      go_wp2
      go_roundw
      case rel => exact ⟨k + 1, g9, c9, by omega, by go_num, by rw [hxl], o9, bb9⟩
      case measure => simp [intOf]; omega
    · obtain rfl : k = zs.length := by omega
      rw [List.take_length] at ho
      have HS := Lib.hid (ho.see)
      go_wp2_with fail
      refine (join47_any _ _ (zs.map showSlotS) _ HS.out (Nat.le_refl _) (by rw [List.length_map]; omega) (by have := HJ.out; omega)).mono ?_
      rintro e w3 ⟨rfl, b3⟩
      go_wp2_with fail
      go_ret
      exact ⟨ret_txtT HR.out, below_then bb2 b3 (Nat.le_refl _)⟩

set_option maxHeartbeats 1000000 in
theorem iShowSlots_any (B : Nat) (v : Value) (ss : List (List Int)) (w : World) (h : SeeSS w B v ss) (hB : B ≤ w.heap.size) (T : TabT w) :
    Calls Tryd.prog 8 #[v] w (TxtLt w (showSlotsS ss)) := by
  obtain ⟨A, c, rfl⟩ := h.shape
  have HC := Lib.hid (iSlotsOk_any B _ ss w h)
  have HD := Lib.hid (fun hs => shownSS_any B _ ss w h hB hs T)
  clear T
  cases hs : slotsB ss
  · have HE : Hid (showSlotsS ss = []) := Lib.hid (by simp [showSlotsS, hs])
    rw [hs] at HC
    go_enter Tryd.func8, Tryd.ntmps8
    go_wp2_with fail
    refine HC.out.mono ?_
    rintro e w' ⟨rfl, rfl⟩
    go_wp2_with fail
    go_ret
    exact ⟨ret_txtT HE.out.symm, Below.refl _ _⟩
  · have HE : Hid (showSlotsS ss = Lib.join (ss.map showSlotS) [47]) := Lib.hid (by simp [showSlotsS, hs, showAll])
    rw [hs] at HC
    go_enter Tryd.func8, Tryd.ntmps8
    go_wp2_with fail
    refine HC.out.mono ?_
    rintro e w' ⟨rfl, rfl⟩
    go_wp2_with fail
    refine (HD.out hs).mono ?_
    rintro e w2 ⟨rfl, b2⟩
    go_wp2_with fail
    go_ret
    exact ⟨ret_txtT HE.out.symm, b2⟩

end Go.Proofs.YtigcbegeaikfcaaDoor
