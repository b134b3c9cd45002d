/- Layer 10 (feeds): slots shown as a text: what it is (twins), the model's l1Ints, l10Show, ShowSlots and the program's showWord, showSlot, list.shown, ShowSlots. Condition of the program's: the listed table of tens holds what the program's text lays (TabT). -/
import Derived.Test.YtigcbegeaikfcaaDoorShelf
import Derived.Test.YtigcbegeaikfcaaDoorSltK
import Derived.Test.YtigcbegeaikfcaaDoorWordsA
import Derived.Test.YtigcbegeaikfcaaDoorLowT
import Derived.Lib.LaidTab
import Derived.Lib.AppendIntMem
import Derived.Lib.ItoaLen
import Derived.RangeFuncBox
namespace Go.Proofs.YtigcbegeaikfcaaDoor
open Go.RowKit
set_option linter.unusedVariables false

abbrev TabT (w : World) : Prop := Lib.TabIs Tryd.prog w "internal/strconv.uint64pow10" .u64 Lib.pow10Tab
theorem TabT.below {w w' : World} (h : TabT w) (hb : Below w.heap.size w w') : TabT w' := Lib.tabBelow_of_tabIs h w' hb

/-- The text of a slot. -/
def showSlotS (s : List Int) : List UInt8 := if s = [] then [45] else Lib.join (s.map Lib.itoa) [32]
def showAll (ss : List (List Int)) : List UInt8 := Lib.join (ss.map showSlotS) [47]
/-- The text of slots; empty where they are none. -/
def showSlotsS (ss : List (List Int)) : List UInt8 := if slotsB ss then showAll ss else []

theorem tailT_len (b : UInt8) (M : Nat) : ∀ r : List (List UInt8), (∀ s ∈ r, s.length ≤ M) → (Lib.joinTail [b] r).length ≤ r.length * (M + 1)
  | [], _ => by simp [Lib.joinTail]
  | x :: r, h => by
    have h1 := tailT_len b M r (fun s hs => h s (List.mem_cons_of_mem _ hs))
    have h2 := h x (by simp)
    have e : Lib.joinTail [b] (x :: r) = [b] ++ x ++ Lib.joinTail [b] r := by simp [Lib.joinTail]
    have e3 : (x :: r).length * (M + 1) = r.length * (M + 1) + (M + 1) := by rw [List.length_cons, Nat.add_mul, Nat.one_mul]
    have e4 : ([b] : List UInt8).length = 1 := rfl
    rw [e, List.length_append, List.length_append, e3, e4]
    omega
theorem joinT_len (b : UInt8) (M : Nat) {ss : List (List UInt8)} (h : ∀ s ∈ ss, s.length ≤ M) : (Lib.join ss [b]).length ≤ ss.length * (M + 1) := by
  match ss, h with
  | [], _ => simp [Lib.join]
  | x :: r, h =>
    rw [Lib.join_cons, List.length_append]
    have h1 := tailT_len b M r (fun s hs => h s (List.mem_cons_of_mem _ hs))
    have h2 := h x (by simp)
    have e3 : (x :: r).length * (M + 1) = r.length * (M + 1) + (M + 1) := by rw [List.length_cons, Nat.add_mul, Nat.one_mul]
    omega
theorem word_num {x : Int} (h : wordB x = true) : -2147483648 ≤ x ∧ x ≤ 2147483647 := wordB_iff.1 h
theorem itoa_21 {x : Int} (h : wordB x = true) : (Lib.itoa x).length ≤ 21 := by
  have := word_num h
  exact Lib.itoa_length_le x (by omega) (by omega)
theorem slot_words {s : List Int} (h : slotB s = true) : s.length ≤ 40 ∧ ∀ x ∈ s, wordB x = true := by
  simp only [slotB, Bool.and_eq_true, decide_eq_true_eq, List.all_eq_true] at h
  exact h
theorem slots_each {ss : List (List Int)} (h : slotsB ss = true) : 1 ≤ ss.length ∧ ss.length ≤ 4 ∧ ∀ s ∈ ss, slotB s = true := by
  simp only [slotsB, Bool.and_eq_true, decide_eq_true_eq, List.all_eq_true] at h
  exact ⟨h.1.1, h.1.2, h.2⟩
theorem ints_len {s : List Int} (h : slotB s = true) : (Lib.join (s.map Lib.itoa) [32]).length ≤ 880 := by
  obtain ⟨h1, h2⟩ := slot_words h
  have := joinT_len 32 21 (ss := s.map Lib.itoa) (fun t ht => by
    obtain ⟨x, hx, rfl⟩ := List.mem_map.1 ht
    exact itoa_21 (h2 x hx))
  rw [List.length_map] at this
  have h3 : s.length * (21 + 1) ≤ 40 * 22 := Nat.mul_le_mul_right _ h1
  omega
theorem showSlot_len {s : List Int} (h : slotB s = true) : (showSlotS s).length ≤ 880 := by
  unfold showSlotS
  split
  · simp
  · exact ints_len h
theorem showAll_len {ss : List (List Int)} (h : slotsB ss = true) : (showAll ss).length ≤ 3524 := by
  obtain ⟨h1, h2, h3⟩ := slots_each h
  have := joinT_len 47 880 (ss := ss.map showSlotS) (fun t ht => by
    obtain ⟨x, hx, rfl⟩ := List.mem_map.1 ht
    exact showSlot_len (h3 x hx))
  rw [List.length_map] at this
  have h4 : ss.length * (880 + 1) ≤ 4 * 881 := Nat.mul_le_mul_right _ h2
  unfold showAll
  omega

theorem app_moreT {W w1 : World} {B gv k c : Nat} {v' : Value} {xs : List (List UInt8)} {y : List UInt8} (ho : OwnV W B 9 (.slice (some ⟨gv, 0, none⟩) k c) (xs.map str)) (hB : B ≤ W.heap.size)
    (h1 : w1.ownsRow B 9 1 v' ((xs.map str).length + 1) (xs.map str ++ [str y])) (hgr : W.grownBy w1 (some gv)) :
    ∃ g4 c4, v' = .slice (some ⟨g4, 0, none⟩) (xs.length + 1) c4 ∧ OwnV w1 B 9 (.slice (some ⟨g4, 0, none⟩) (xs.length + 1) c4) ((xs ++ [y]).map str) ∧ Below B W w1 := by
  have hr : B ≤ gv := (ho.lt gv rfl).1
  rw [List.length_map] at h1
  have hoo : OwnV w1 B 9 v' ((xs ++ [y]).map str) := by
    unfold OwnV
    rw [List.length_map, List.length_append, List.map_append]
    exact h1
  obtain ⟨g4, c4, rfl⟩ := ownsRow_succ h1
  exact ⟨g4, c4, rfl, hoo, (Below.refl _ W).grown hgr hB (fun j hj => by cases hj; exact hr)⟩
def TxtLt (w : World) (t : List UInt8) (e : Ending) (w' : World) : Prop := e = .returned (str t) ∧ Below w.heap.size w w'
theorem ret_txtT {s t : List UInt8} (h : s = t) : Ending.returned (str s) = .returned (str t) := by rw [h]

set_option maxHeartbeats 4000000 in
set_option maxRecDepth 100000 in
theorem l1Ints_any (B : Nat) (v : Value) (zs : List Int) (w : World) (h : SeeI w B v zs) (hB : B ≤ w.heap.size) (hz : slotB zs = true) :
    Calls Tryd.prog 52 #[v] w (TxtLt w (Lib.join (zs.map Lib.itoa) [32])) := by
  obtain ⟨i0, hi, hz0, hz1, hz2⟩ := info_parts Tryd.infoStr
  obtain ⟨h40, hw⟩ := slot_words hz
  have HJ := Lib.hid (ints_len hz)
  obtain ⟨A, c, rfl⟩ := h.shape
  obtain ⟨R, HR⟩ : ∃ R, Hid (Lib.join (zs.map Lib.itoa) [32] = R) := ⟨_, Lib.hid rfl⟩
  rw [HR.out]
  have oE := OwnV.empty w w.heap.size 9 (Nat.le_refl _)
  have bE : Below w.heap.size w (w.alloc (.cells #[] 9)) := (Below.refl _ w).alloc (Nat.le_refl _) _
  go_enter Tryd.func52, Tryd.ntmps52
  go_wp2_with fail
  generalize w.alloc _ = WE at oE bE ⊢
  go_loopw [3, 4] (fun tx i wr => ∃ (k g' c' : Nat), k ≤ zs.length ∧ i = .int .i64 k ∧ tx = .slice (some ⟨g', 0, none⟩) k c' ∧ OwnV wr w.heap.size 9 (.slice (some ⟨g', 0, none⟩) k c') (((zs.take k).map Lib.itoa).map str) ∧ Below w.heap.size w wr) (fun _ i _ => zs.length - (intOf i).toNat)
  case atStart => exact ⟨0, w.heap.size, 0, Nat.zero_le _, rfl, rfl, oE, bE⟩
  case round =>
    clear oE bE
    obtain ⟨k, g', c', hk, rfl, rfl, ho, bb2⟩ := hrel
    by_cases hlt : k < zs.length
    · obtain ⟨g, p, x, rfl, -, hx, hcx⟩ := (h.below (bb2.mono hB)).at_ hlt
      have hwx := word_num (hw x (List.mem_of_getElem? hx))
      have HLT : Hid (((zs.take k).map Lib.itoa).length = k) := Lib.hid (by simp; omega)
      have HM : Hid ((zs.take (k + 1)).map Lib.itoa = (zs.take k).map Lib.itoa ++ [Lib.itoa x]) := Lib.hid (by rw [List.take_add_one, hx]; simp)
      have HI := Lib.hid (fun W => l1Int_any x (by omega) (by omega) W)
      generalize Lib.itoa x = tx at HI HM
      generalize hxs : (zs.take k).map Lib.itoa = xs at ho HM HLT
      clear hx hxs
      go_wp2_with fail
      refine (HI.out _).mono ?_
      rintro e w2 ⟨rfl, b2⟩
      have o2 := ho.later b2
      replace bb2 := bb2.trans (b2.mono bb2.size)
      clear ho b2
      have oW := OwnV.alloc o2 (.cells #[str (tx)] 9)
      have hs2 := bb2.size
      have hxl := HLT.out
      go_wp2_with (at_builtin; refine wpList_append_own _ rfl _ _ 47 rfl w.heap.size 9 i0 (.string ⟨#[]⟩) 1 16 Tryd.underlying47 hi hz0 hz1 hz2 rfl (by decide) _ _ _ rfl oW ⟨w2.heap.size, 0, none⟩ 1 1 [str (tx)] rfl rfl ?c1 ?c2 ?c3 ?c4 ?c5 ?_)
      case c1 =>
        intro j u hj
        match j, hj with
        | 0, hj => simp at hj; subst hj; simp [Addr.add]
      case c2 => intro u hu; simp at hu; subst hu; rfl
      case c3 => unfold maxLen; rw [List.length_map, HLT.out]; omega
      case c4 => rw [List.length_map, HLT.out]; omega
      case c5 => simp; omega
      intro v9 w9 hown9 hgr9 _
      obtain ⟨g9, c9, rfl, o9, b9⟩ := app_moreT oW (by simp; omega) (y := tx) (by rw [List.length_map, HLT.out]; exact hown9) hgr9
      have bb9 := (bb2.trans ((Below.refl w.heap.size w2).alloc (by omega) (.cells #[str (tx)] 9))).trans b9
      rw [hxl, ← HM.out] at o9
      clear hown9 hgr9 oW o2 b9 bb2
      go_wp2
      go_roundw
      case rel => exact ⟨k + 1, g9, c9, by omega, by go_num, by rw [hxl], o9, bb9⟩
      case measure => simp [intOf]; omega
    · obtain rfl : k = zs.length := by omega
      rw [List.take_length] at ho
      have hml : ((zs.map Lib.itoa).map str).length = zs.length := by simp
      have HS := Lib.hid (ho.see)
      go_wp2_with fail
      refine (l1Words_any _ _ (zs.map Lib.itoa) [32] _ HS.out (by have := HJ.out; omega)).mono ?_
      rintro e w' ⟨rfl, rfl⟩
      go_wp2_with fail
      go_ret
      exact ⟨ret_txtT HR.out, bb2⟩

theorem itoa_ne (x : Int) (h : wordB x = true) : Lib.itoa x ≠ [] := fun e => by
  have h2 := rdS_itoa h
  rw [e] at h2
  cases h2
theorem join_ne {x : List UInt8} {r : List (List UInt8)} (h : x ≠ []) : Lib.join (x :: r) [32] ≠ [] := by
  rw [Lib.join_cons]
  intro e
  exact h (List.append_eq_nil_iff.1 e).1
theorem show_empty {s : List Int} (h : slotB s = true) : showSlotS s = if Lib.join (s.map Lib.itoa) [32] = [] then [45] else Lib.join (s.map Lib.itoa) [32] := by
  unfold showSlotS
  cases s with
  | nil => simp [Lib.join]
  | cons x r =>
    have hx := (slot_words h).2 x (by simp)
    rw [if_neg (by simp), List.map_cons, if_neg (join_ne (itoa_ne x hx))]

set_option maxHeartbeats 4000000 in
set_option maxRecDepth 100000 in
theorem l10Show_any (B : Nat) (v : Value) (ss : List (List Int)) (w : World) (h : SeeSS w B v ss) (hB : B ≤ w.heap.size) (hz : slotsB ss = true) :
    Calls Tryd.prog 32 #[v] w (TxtLt w (showAll ss)) := by
  obtain ⟨i0, hi, hz0, hz1, hz2⟩ := info_parts Tryd.infoStr
  obtain ⟨-, h4, hw⟩ := slots_each hz
  have HJ := Lib.hid (showAll_len hz)
  obtain ⟨A, c, rfl⟩ := h.shape
  obtain ⟨R, HR⟩ : ∃ R, Hid (showAll ss = R) := ⟨_, Lib.hid rfl⟩
  rw [HR.out]
  have oE := OwnV.empty w w.heap.size 9 (Nat.le_refl _)
  have bE : Below w.heap.size w (w.alloc (.cells #[] 9)) := (Below.refl _ w).alloc (Nat.le_refl _) _
  go_enter Tryd.func32, Tryd.ntmps32
  go_wp2_with fail
  generalize w.alloc _ = WE at oE bE ⊢
  go_loopw [3, 4, 5] (fun tx i _ wr => ∃ (k g' c' : Nat), k ≤ ss.length ∧ i = .int .i64 k ∧ tx = .slice (some ⟨g', 0, none⟩) k c' ∧ OwnV wr w.heap.size 9 (.slice (some ⟨g', 0, none⟩) k c') (((ss.take k).map showSlotS).map str) ∧ Below w.heap.size w wr) (fun _ i _ _ => ss.length - (intOf i).toNat)
  case atStart => exact ⟨0, w.heap.size, 0, Nat.zero_le _, rfl, rfl, oE, bE⟩
  case round =>
    clear oE bE
    obtain ⟨k, g', c', hk, rfl, rfl, ho, bb2⟩ := hrel
    by_cases hlt : k < ss.length
    · have hx := List.getElem?_eq_getElem hlt
      generalize ss[k] = s at hx
      obtain ⟨g, p, D, q, rfl, hcx, hsee⟩ := (h.below (bb2.mono hB)).at_ hx
      have hws := hw s (List.mem_of_getElem? hx)
      have HLT : Hid (((ss.take k).map showSlotS).length = k) := Lib.hid (by simp; omega)
      have HM : Hid ((ss.take (k + 1)).map showSlotS = (ss.take k).map showSlotS ++ [showSlotS s]) := Lib.hid (by rw [List.take_add_one, hx]; simp)
      have HI := Lib.hid (l1Ints_any B _ s wr hsee (Nat.le_trans hB bb2.size) hws)
      have HE := Lib.hid (show_empty hws)
      generalize hxs : (ss.take k).map showSlotS = xs at ho HM HLT
      clear hx hxs hsee hws
      generalize showSlotS s = tx at HE HM
      generalize Lib.join (s.map Lib.itoa) [32] = jt at HI HE
      go_wp2_with fail
      refine HI.out.mono ?_
      rintro e w2 ⟨rfl, b2⟩
      have o2 := ho.later b2
      replace bb2 := bb2.trans (b2.mono bb2.size)
      clear ho b2 HI
      by_cases hj : jt = []
      · have e1 : tx = [45] := by rw [HE.out, if_pos hj]
        subst hj e1
        clear HE
        have oW := OwnV.alloc o2 (.cells #[str ([45])] 9)
        have hs2 := bb2.size
        have hxl := HLT.out
        go_wp2_with (at_builtin; refine wpList_append_own _ rfl _ _ 47 rfl w.heap.size 9 i0 (.string ⟨#[]⟩) 1 16 Tryd.underlying47 hi hz0 hz1 hz2 rfl (by decide) _ _ _ rfl oW ⟨w2.heap.size, 0, none⟩ 1 1 [str ([45])] rfl rfl ?c1 ?c2 ?c3 ?c4 ?c5 ?_)
        case c1 =>
          intro j u hj
          match j, hj with
          | 0, hj => simp at hj; subst hj; simp [Addr.add]
        case c2 => intro u hu; simp at hu; subst hu; rfl
        case c3 => unfold maxLen; rw [List.length_map, HLT.out]; omega
        case c4 => rw [List.length_map, HLT.out]; omega
        case c5 => simp; omega
        intro v9 w9 hown9 hgr9 _
        obtain ⟨g9, c9, rfl, o9, b9⟩ := app_moreT oW (by simp; omega) (y := [45]) (by rw [List.length_map, HLT.out]; exact hown9) hgr9
        have bb9 := (bb2.trans ((Below.refl w.heap.size w2).alloc (by omega) (.cells #[str ([45])] 9))).trans b9
        rw [hxl, ← HM.out] at o9
        clear hown9 hgr9 oW o2 b9 bb2
        go_wp2
        go_roundw
        case rel => exact ⟨k + 1, g9, c9, by omega, by go_num, by rw [hxl], o9, bb9⟩
        case measure => simp [intOf]; omega
      · have e1 : tx = jt := by rw [HE.out, if_neg hj]
        have hne : (jt == []) = false := by simpa using hj
        subst e1
        clear HE
        have oW := OwnV.alloc o2 (.cells #[str (tx)] 9)
        have hs2 := bb2.size
        have hxl := HLT.out
        go_wp2_with (at_builtin; refine wpList_append_own _ rfl _ _ 47 rfl w.heap.size 9 i0 (.string ⟨#[]⟩) 1 16 Tryd.underlying47 hi hz0 hz1 hz2 rfl (by decide) _ _ _ rfl oW ⟨w2.heap.size, 0, none⟩ 1 1 [str (tx)] rfl rfl ?c1 ?c2 ?c3 ?c4 ?c5 ?_)
        case c1 =>
          intro j u hj
          match j, hj with
          | 0, hj => simp at hj; subst hj; simp [Addr.add]
        case c2 => intro u hu; simp at hu; subst hu; rfl
        case c3 => unfold maxLen; rw [List.length_map, HLT.out]; omega
        case c4 => rw [List.length_map, HLT.out]; omega
        case c5 => simp; omega
        intro v9 w9 hown9 hgr9 _
        obtain ⟨g9, c9, rfl, o9, b9⟩ := app_moreT oW (by simp; omega) (y := tx) (by rw [List.length_map, HLT.out]; exact hown9) hgr9
        have bb9 := (bb2.trans ((Below.refl w.heap.size w2).alloc (by omega) (.cells #[str (tx)] 9))).trans b9
        rw [hxl, ← HM.out] at o9
        clear hown9 hgr9 oW o2 b9 bb2
        go_wp2
        go_roundw
        case rel => exact ⟨k + 1, g9, c9, by omega, by go_num, by rw [hxl], o9, bb9⟩
        case measure => simp [intOf]; omega
    · obtain rfl : k = ss.length := by omega
      rw [List.take_length] at ho
      have hml : ((ss.map showSlotS).map str).length = ss.length := by simp
      have HS := Lib.hid (ho.see)
      have HJ2 : Hid ((Lib.join (ss.map showSlotS) [47]).length ≤ 3524) := Lib.hid HJ.out
      go_wp2_with fail
      refine (l1Words_any _ _ (ss.map showSlotS) [47] _ HS.out (by have := HJ2.out; omega)).mono ?_
      rintro e w' ⟨rfl, rfl⟩
      go_wp2_with fail
      go_ret
      exact ⟨ret_txtT HR.out, bb2⟩

set_option maxHeartbeats 1000000 in
theorem sShowSlots_any (B : Nat) (v : Value) (ss : List (List Int)) (w : World) (h : SeeSS w B v ss) (hB : B ≤ w.heap.size) :
    Calls Tryd.prog 13 #[v] w (TxtLt w (showSlotsS ss)) := by
  obtain ⟨A, c, rfl⟩ := h.shape
  have HC := Lib.hid (l9Slots_any B _ ss w h)
  cases hs : slotsB ss
  · have HE : Hid (showSlotsS ss = []) := Lib.hid (by simp [showSlotsS, hs])
    rw [hs] at HC
    go_enter Tryd.func13, Tryd.ntmps13
    go_wp2_with fail
    refine HC.out.mono ?_
    rintro e w' ⟨rfl, rfl⟩
    go_wp2_with fail
    go_ret
    exact ⟨ret_txtT HE.out.symm, Below.refl _ _⟩
  · have HE : Hid (showSlotsS ss = showAll ss) := Lib.hid (by simp [showSlotsS, hs])
    rw [hs] at HC
    go_enter Tryd.func13, Tryd.ntmps13
    go_wp2_with fail
    refine HC.out.mono ?_
    rintro e w' ⟨rfl, rfl⟩
    go_wp2_with fail
    refine (l10Show_any B _ ss _ h hB hs).mono ?_
    rintro e w2 ⟨rfl, b2⟩
    go_wp2_with fail
    go_ret
    exact ⟨ret_txtT HE.out.symm, b2⟩

end Go.Proofs.YtigcbegeaikfcaaDoor
