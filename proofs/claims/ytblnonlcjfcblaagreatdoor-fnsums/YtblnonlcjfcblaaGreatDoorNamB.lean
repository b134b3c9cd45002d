/- Layer 6 (sums): NamesIn, of the model and of the program. Condition for the program's: the listed variables hold what the program's text lays (Vars). -/
import Derived.Test.YtblnonlcjfcblaaGreatDoorNamA
import Derived.Test.YtblnonlcjfcblaaGreatDoorSumE
import Derived.Test.YtblnonlcjfcblaaGreatDoorSumH
import Derived.Sort.OwnSorted
namespace Go.Proofs.YtblnonlcjfcblaaGreatDoor
open Go.RowKit Go.Sort
set_option linter.unusedVariables false

theorem putAll_yes {l : List Txt} {p : Nat} {x : Txt} (hx : l[p]? = some x) (h : nameB x = true) : putAll ((l.take (p + 1)).filter nameB) = putS (putAll ((l.take p).filter nameB)) x := by
  unfold putAll
  rw [List.take_add_one, hx, List.filter_append, List.foldl_append]
  simp [h]
theorem filt_yes {l : List Txt} {p : Nat} {x : Txt} (hx : l[p]? = some x) (h : nameB x = true) : (l.take (p + 1)).filter nameB = (l.take p).filter nameB ++ [x] := by
  rw [List.take_add_one, hx, List.filter_append]
  simp [h]
theorem filt_no {l : List Txt} {p : Nat} {x : Txt} (hx : l[p]? = some x) (h : nameB x = false) : (l.take (p + 1)).filter nameB = (l.take p).filter nameB := by
  rw [List.take_add_one, hx, List.filter_append]
  simp [h]
theorem names_no {ss : List Txt} {a : Int} (h : sumEndS ss a < 0) : namesS ss a = [] := by unfold namesS; rw [signs_no h]; rfl
theorem names_tree {ss : List Txt} {k : Nat} {t : Sum} (h : SumAt ss k t) : namesS ss (k : Int) = putAll (t.flat.filter nameB) := by unfold namesS; rw [signs_tree h]
theorem putAll_le (l : List Txt) (p : Nat) : (putAll ((l.take p).filter nameB)).length ≤ p := by
  have h1 := putAll_len ((l.take p).filter nameB) []
  have h2 := List.length_filter_le nameB (l.take p)
  rw [List.length_take] at h2
  unfold putAll
  simp at h1
  omega

set_option maxHeartbeats 4000000 in
theorem sNamesIn_any (B : Nat) (v : Value) (ss : List Txt) (a : Int) (w : World) (h : SeeV w B v (ss.map str)) (hB : B ≤ w.heap.size) (hS : shortS ss) (hn : ss.length ≤ 1048576) :
    Calls Tryz.prog 48 #[v, .int .i64 a] w (PutOut w.heap.size (namesS ss a) w) := by
  obtain ⟨A, c, e⟩ := strs_shape h
  subst e
  have bA : Below w.heap.size w (w.alloc (.cells #[] 9)) := (Below.refl _ w).alloc (Nat.le_refl _) _
  have oA := OwnV.empty w w.heap.size 9 (Nat.le_refl _)
  rcases end_dec ss a with hq | hq
  · have HE := Lib.hid (names_no (show sumEndS ss a < 0 by omega))
    have HQ := Lib.hid hq
    clear hq
    rw [HE.out]
    go_enter Tryz.func48, Tryz.ntmps48
    go_wp2_with fail
    generalize w.alloc _ = WA at bA oA ⊢
    refine (sSumEnd_any B _ ss a _ (h.below (bA.mono hB)) (Nat.le_trans hB bA.size) hS hn).mono ?_
    rintro e w1 ⟨rfl, b1⟩
    rw [HQ.out]
    have o1 := oA.later b1
    replace b1 := below_then bA b1 (Nat.le_refl _)
    go_wp2_with fail
    go_loopw [1, 5] (fun i j wr => i = .int .i64 a ∧ j = .slice (some ⟨w.heap.size, 0, none⟩) 0 0 ∧ wr = w1) (fun _ _ _ => 0)
    case atStart => exact ⟨rfl, rfl, rfl⟩
    case round =>
      obtain ⟨rfl, rfl, rfl⟩ := hrel
      by_cases ha : a < 0
      · have hd : decide (0 ≤ a) = false := by simp; omega
        go_wp2_with fail
        go_ret
        exact ⟨_, _, rfl, o1, b1⟩
      · have hd : decide (0 ≤ a) = true := by simp; omega
        go_wp2_with fail
        go_ret
        exact ⟨_, _, rfl, o1, b1⟩
  · obtain ⟨k, t, rfl, ht⟩ := sum_of_end hq
    have HT := Lib.hid ht
    have HQ := Lib.hid (sum_end ht)
    have hl := sum_len ht
    have HM := Lib.hid (names_tree ht)
    clear ht hq
    rw [HM.out]
    generalize hm : t.flat.length = m at HQ hl
    have HL := Lib.hid hm
    clear hm
    go_enter Tryz.func48, Tryz.ntmps48
    go_wp2_with fail
    generalize w.alloc _ = WA at bA oA ⊢
    refine (sSumEnd_any B _ ss _ _ (h.below (bA.mono hB)) (Nat.le_trans hB bA.size) hS hn).mono ?_
    rintro e w1 ⟨rfl, b1⟩
    rw [HQ.out]
    have o1 := oA.later b1
    replace b1 := below_then bA b1 (Nat.le_refl _)
    go_wp2_with fail
    go_loopw [1, 5] (fun i j wr => ∃ (p g c : Nat) (xs : List Txt), p ≤ m ∧ i = .int .i64 ((k + p : Nat) : Int) ∧ j = .slice (some ⟨g, 0, none⟩) xs.length c ∧ xs = putAll ((t.flat.take p).filter nameB) ∧ OwnV wr w.heap.size 9 (.slice (some ⟨g, 0, none⟩) xs.length c) (xs.map str) ∧ Below w.heap.size w wr) (fun i _ _ => k + m - (intOf i).toNat)
    case atStart => exact ⟨0, _, _, [], Nat.zero_le _, rfl, rfl, rfl, o1, b1⟩
    case round =>
      obtain ⟨p, g, c2, xs, hp, rfl, rfl, hxs, ho, hbw⟩ := hrel
      have HXS := Lib.hid hxs
      have hlx : xs.length ≤ p := by rw [hxs]; exact putAll_le _ _
      clear hxs
      by_cases hlt : p < m
      · have hx := List.getElem?_eq_getElem (show k + p < ss.length by omega)
        generalize ss[k + p]'(_) = x at hx
        have hsx := hS x (List.mem_of_getElem? hx)
        obtain ⟨g2, o2, rfl, -, hcx⟩ := strs_at (h.below (hbw.mono hB)) hx
        have HX : Hid (t.flat[p]? = some x) := Lib.hid (by rw [← sign_at HT.out (by have := HL.out; omega)]; exact hx)
        clear hx
        cases hnm : nameB x
        · have HE : Hid (xs = putAll ((t.flat.take (p + 1)).filter nameB)) := Lib.hid (by rw [filt_no HX.out hnm]; exact HXS.out)
          have HNM := Lib.hid hnm
          clear hnm
          go_wp2_with fail
          refine (sNameOk_any x hsx _).mono ?_
          rintro e w' ⟨rfl, rfl⟩
          rw [HNM.out]
          go_wp2_with fail
          go_roundw
          case rel => exact ⟨p + 1, g, c2, xs, by omega, by go_num, rfl, HE.out, ho, hbw⟩
          case measure => simp [intOf]; omega
        · have HE : Hid (putS xs x = putAll ((t.flat.take (p + 1)).filter nameB)) := Lib.hid (by rw [putAll_yes HX.out hnm, ← HXS.out])
          have HNM := Lib.hid hnm
          clear hnm
          go_wp2_with fail
          refine (sNameOk_any x hsx _).mono ?_
          rintro e w' ⟨rfl, rfl⟩
          rw [HNM.out]
          go_wp2_with fail
          refine (l6Put_any _ g c2 xs x _ ho hbw.size (by omega)).mono ?_
          rintro e w2 ⟨g3, c3, rfl, o3, b3⟩
          go_wp2_with fail
          go_roundw
          case rel => exact ⟨p + 1, g3, c3, putS xs x, by omega, by go_num, rfl, HE.out, o3, below_then hbw b3 (Nat.le_refl _)⟩
          case measure => simp [intOf]; omega
      · have HE : Hid (xs = putAll (t.flat.filter nameB)) := Lib.hid (by
          have := HXS.out
          rwa [List.take_of_length_le (by have := HL.out; omega)] at this)
        go_wp2_with fail
        go_ret
        rw [← HE.out]
        exact ⟨_, _, rfl, ho, hbw⟩

set_option maxHeartbeats 1000000 in
theorem sort_any (B g c : Nat) (xs : List Txt) (w : World) (h : OwnV w B 9 (.slice (some ⟨g, 0, none⟩) xs.length c) (xs.map str)) (hB : B ≤ w.heap.size) (hn : xs.length ≤ 1048576) :
    Calls Tryz.prog 115 #[.slice (some ⟨g, 0, none⟩) xs.length c] w fun e w' => e = .returned (.tuple #[]) ∧ OwnV w' B 9 (.slice (some ⟨g, 0, none⟩) xs.length c) ((xs.mergeSort fun x y => decide (x ≤ y)).map str) ∧ Below B w w' := by
  cases hx : xs with
  | nil =>
    subst hx
    exact (Tryz.slices_Sort_string_none (some ⟨g, 0, none⟩) c w).mono fun e w' ⟨he, hw⟩ => ⟨he, by rw [hw, List.mergeSort_nil]; exact h, by rw [hw]; exact Below.refl _ _⟩
  | cons x0 r =>
    rw [← hx]
    clear hx
    have hl := h
    obtain ⟨_, hl⟩ := hl
    rcases hl with ⟨q, _⟩ | ⟨g2, c2, cur, q, hb, hg, h1, h2, h3, h4⟩
    · cases q
    injection q with q1 q2 q3
    injection q1 with q1
    injection q1 with q1
    subst q1 q3
    rw [List.length_map] at h1 h4
    refine (Tryz.slices_Sort_string g 0 c xs w (holds_of_block hg (by simpa using h4)) (Array.getElem?_eq_some_iff.1 hg).1 (by omega)).mono ?_
    rintro e w' ⟨rfl, n, os, rfl⟩
    refine ⟨rfl, ?_, (Below.refl B w).grown (grownBy_sorted _) hB (fun j hj => by cases hj; exact hb)⟩
    have := ownsRow_sorted (w := w) (n := n) (os := os) (ss := xs) (ts := xs.mergeSort fun x y => decide (x ≤ y)) (by simp) hb hg h1 h2 h3
    unfold OwnV
    rw [List.length_map, List.length_mergeSort]
    exact this

set_option maxHeartbeats 1000000 in
theorem compact_any (B g n c : Nat) (xs : List Txt) (hxn : xs.length = n) (w : World) (h : OwnV w B 9 (.slice (some ⟨g, 0, none⟩) n c) (xs.map str)) (hB : B ≤ w.heap.size) (hn : xs.length ≤ 1048576) :
    Calls Tryz.prog 116 #[.slice (some ⟨g, 0, none⟩) n c] w fun e w' => e = .returned (.slice (some ⟨g, 0, none⟩) (Lib.compact xs).length c) ∧ OwnV w' B 9 (.slice (some ⟨g, 0, none⟩) (Lib.compact xs).length c) ((Lib.compact xs).map str) ∧ Below B w w' := by
  subst hxn
  have hl := h
  obtain ⟨_, hl⟩ := hl
  rcases hl with ⟨q, _⟩ | ⟨g2, c2, cur, q, hb, hg, h1, h2, h3, h4⟩
  · cases q
  injection q with q1 q2 q3
  injection q1 with q1
  injection q1 with q1
  subst q1 q3
  rw [List.length_map] at h1 h4
  have hcl := Lib.compact_length_le xs
  refine (Tryz.slices_Compact_string g 0 c xs w (holds_of_block hg (by simpa using h4)) (by omega) h1).mono ?_
  rintro e w' ⟨rfl, q, rfl⟩
  have hg0 := grownBy_sorted (w := w) (g := g) (n := q) (os := #[]) (Lib.compact xs ++ List.replicate (xs.length - (Lib.compact xs).length) []).toArray
  rw [grow_empty] at hg0
  refine ⟨rfl, ?_, (Below.refl B w).grown hg0 hB (fun j hj => by cases hj; exact hb)⟩
  have := ownsRow_sorted (w := w) (n := q) (os := #[]) (ss := xs) (ts := Lib.compact xs ++ List.replicate (xs.length - (Lib.compact xs).length) []) (by simp; omega) hb hg h1 h2 h3
  rw [grow_empty] at this
  have h5 := row_cut this (j := (Lib.compact xs).length) hcl
  rw [List.map_append, List.take_left' (by rw [List.length_map])] at h5
  unfold OwnV
  rw [List.length_map]
  exact h5

set_option maxHeartbeats 1000000 in
theorem rising_some (B g c : Nat) (xs : List Txt) (w : World) (h : OwnV w B 9 (.slice (some ⟨g, 0, none⟩) xs.length c) (xs.map str)) (hB : B ≤ w.heap.size) (hn : xs.length ≤ 1048576) :
    Calls Tryz.prog 78 #[.slice (some ⟨g, 0, none⟩) xs.length c] w fun e w' => e = .returned (.slice (some ⟨g, 0, none⟩) (putAll xs).length c) ∧ OwnV w' B 9 (.slice (some ⟨g, 0, none⟩) (putAll xs).length c) ((putAll xs).map str) ∧ Below B w w' := by
  have HSP : Hid (Lib.compact (xs.mergeSort fun x y => decide (x ≤ y)) = putAll xs) := Lib.hid (sort_put xs)
  go_enter Tryz.func78, Tryz.ntmps78
  go_wp2_with fail
  refine (sort_any _ g c xs _ h hB hn).mono ?_
  rintro e w4 ⟨rfl, o4, b4⟩
  have hsz4 := b4.size
  go_wp2_with fail
  refine (compact_any _ g xs.length c (xs.mergeSort fun x y => decide (x ≤ y)) (by simp) _ o4 (by omega) (by simp; omega)).mono ?_
  rintro e w5 ⟨rfl, o5, b5⟩
  rw [HSP.out] at o5 ⊢
  obtain ⟨R, HRR⟩ : ∃ R, Hid (putAll xs = R) := ⟨_, Lib.hid rfl⟩
  rw [HRR.out] at o5 ⊢
  go_wp2_with fail
  go_ret
  rw [HRR.out]
  exact ⟨rfl, o5, b4.trans b5⟩

set_option maxHeartbeats 1000000 in
theorem rising_none (w : World) : Calls Tryz.prog 78 #[.slice none 0 0] w fun e w' => e = .returned (.slice none 0 0) ∧ w' = w := by
  go_enter Tryz.func78, Tryz.ntmps78
  go_wp2_with fail
  refine (Tryz.slices_Sort_string_none none 0 w).mono ?_
  rintro e w4 ⟨rfl, rfl⟩
  go_wp2_with fail
  refine (Tryz.slices_Compact_string_empty none 0 w4).mono ?_
  rintro e w5 ⟨rfl, rfl⟩
  go_wp2_with fail
  go_ret
  exact ⟨rfl, rfl⟩

set_option maxHeartbeats 4000000 in
theorem iNamesIn_any (B : Nat) (v : Value) (ss : List Txt) (a : Int) (w : World) (V : Vars w) (h : SeeV w B v (ss.map str)) (hB : B ≤ w.heap.size) (hS : shortS ss) (hn : ss.length ≤ 1048576) :
    Calls Tryz.prog 47 #[v, .int .i64 a] w (PutOut w.heap.size (namesS ss a) w) := by
  obtain ⟨A, c, e⟩ := strs_shape h
  subst e
  obtain ⟨i0, hi, hz0, hz1, hz2⟩ := info_parts Tryz.infoStr
  have bA : Below w.heap.size w (w.alloc (.cells #[] 9)) := (Below.refl _ w).alloc (Nat.le_refl _) _
  have oA := OwnV.empty w w.heap.size 9 (Nat.le_refl _)
  have HV := Lib.hid V
  clear V
  have HSH : Hid (shortS (signsS ss a)) := Lib.hid (signs_short hS)
  have hln : (signsS ss a).length ≤ 1048576 := by
    unfold signsS
    split
    · rw [List.length_take, List.length_drop]; omega
    · simp
  have HNS : Hid (namesS ss a = putAll ((signsS ss a).filter nameB)) := Lib.hid rfl
  rw [HNS.out]
  go_enter Tryz.func47, Tryz.ntmps47
  go_wp2_with fail
  generalize w.alloc _ = WA at bA oA ⊢
  refine (sumAt_any B _ ss a _ (HV.out.below bA) (h.below (bA.mono hB)) (Nat.le_trans hB bA.size) hS hn).mono ?_
  rintro e w1 ⟨v1, rfl, h1, b1⟩
  have o1 := oA.later b1
  replace b1 := below_then bA b1 (Nat.le_refl _)
  generalize signsS ss a = ts at *
  obtain ⟨A1, c1, e1⟩ := strs_shape h1
  subst e1
  have hB1 := Nat.le_trans hB b1.size
  go_wp2_with fail
  go_loopw [5, 13] (fun j i wr => ∃ (p g c : Nat) (xs : List Txt), p ≤ ts.length ∧ i = .int .i64 (p : Int) ∧ j = .slice (some ⟨g, 0, none⟩) xs.length c ∧ xs = (ts.take p).filter nameB ∧ OwnV wr w.heap.size 9 (.slice (some ⟨g, 0, none⟩) xs.length c) (xs.map str) ∧ Below w.heap.size w wr ∧ Below B w1 wr) (fun _ i _ => ts.length - (intOf i).toNat)
  case atStart => exact ⟨0, _, _, [], Nat.zero_le _, rfl, rfl, rfl, o1, b1, Below.refl _ _⟩
  case round =>
    obtain ⟨p, g, c2, xs, hp, rfl, rfl, hxs, ho, hbw, hb1⟩ := hrel
    have HXS := Lib.hid hxs
    have hlx : xs.length ≤ p := by
      rw [hxs]
      have h2 := List.length_filter_le nameB (ts.take p)
      rw [List.length_take] at h2
      omega
    clear hxs
    by_cases hlt : p < ts.length
    · have hx := List.getElem?_eq_getElem hlt
      generalize ts[p] = x at hx
      have hsx := HSH.out x (List.mem_of_getElem? hx)
      obtain ⟨g2, o2, rfl, -, hcx⟩ := strs_at (h1.below hb1) hx
      have HX := Lib.hid hx
      clear hx
      cases hnm : nameB x
      · have HE : Hid (xs = (ts.take (p + 1)).filter nameB) := Lib.hid (by rw [filt_no HX.out hnm]; exact HXS.out)
        have HNM := Lib.hid hnm
        clear hnm
        go_wp2_with fail
        refine (iNameOk_any x hsx _).mono ?_
        rintro e w' ⟨rfl, rfl⟩
        rw [HNM.out]
        go_wp2_with fail
        go_roundw
        case rel => exact ⟨p + 1, g, c2, xs, by omega, by go_num, rfl, HE.out, ho, hbw, hb1⟩
        case measure => simp [intOf]; omega
      · have HE : Hid (xs ++ [x] = (ts.take (p + 1)).filter nameB) := Lib.hid (by rw [filt_yes HX.out hnm, ← HXS.out])
        have HNM := Lib.hid hnm
        clear hnm
        have hsz := hbw.size
        have HOR : Hid (wr.ownsRow w.heap.size 9 1 (.slice (some ⟨g, 0, none⟩) xs.length c2) xs.length (xs.map str)) := Lib.hid (by
          have := ho
          unfold OwnV at this
          rwa [List.length_map] at this)
        go_wp2_with fail
        refine (iNameOk_any x hsx _).mono ?_
        rintro e w' ⟨rfl, rfl⟩
        rw [HNM.out]
        go_wp2_with (at_builtin; refine wpList_append_own _ rfl _ _ 22 rfl w.heap.size 9 i0 (.string ⟨#[]⟩) 1 16 Tryz.underlying22 hi hz0 hz1 hz2 rfl (by decide) _ _ _ rfl (World.ownsRow.alloc HOR.out _) ⟨wr.heap.size, 0, none⟩ 1 1 [str x] rfl rfl (cell_one_new _ _ _) (by simp [Value.oneCell']) (by unfold maxLen; omega) (by omega) (by simp; omega) ?_; intro v3 w3 hown3 hgrow3 hnil3; obtain ⟨g3, c3, rfl⟩ := ownsRow_succ hown3)
        have b3 : Below w.heap.size wr w3 := ((Below.refl _ wr).alloc hsz _).grown hgrow3 (by simp; omega) (fun j hj => (World.ownsRow.lt HOR.out j hj).1)
        go_roundw
        case rel => exact ⟨p + 1, g3, c3, xs ++ [x], by omega, by go_num, by rw [List.length_append]; rfl, HE.out, by (unfold OwnV; rw [List.length_map, List.length_append, List.map_append]; exact hown3), hbw.trans b3, hb1.trans (b3.mono hB)⟩
        case measure => simp [intOf]; omega
    · have HE : Hid (xs = ts.filter nameB) := Lib.hid (by
        have := HXS.out
        rwa [List.take_of_length_le (by omega)] at this)
      have HSP : Hid (putAll xs = putAll (ts.filter nameB)) := Lib.hid (by rw [HE.out])
      have hsz := hbw.size
      go_wp2_with fail
      refine (rising_some _ g c2 xs _ ho hsz (by omega)).mono ?_
      rintro e w5 ⟨rfl, o5, b5⟩
      rw [HSP.out] at o5 ⊢
      obtain ⟨R, HRR⟩ : ∃ R, Hid (putAll (ts.filter nameB) = R) := ⟨_, Lib.hid rfl⟩
      rw [HRR.out] at o5 ⊢
      go_wp2_with fail
      go_ret
      rw [HRR.out]
      exact ⟨_, _, rfl, o5, hbw.trans b5⟩

end Go.Proofs.YtblnonlcjfcblaaGreatDoor
