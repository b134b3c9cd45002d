/- The walk of FnPlays. Conditions: the listed variables hold what the program's text lays (Vars); internal/bytealg.MaxLen holds a number. -/
import Derived.Test.YtbpgleebfiiggaaGreatDoorPlaR
namespace Go.Proofs.YtbpgleebfiiggaaGreatDoor
open Go.RowKit
set_option linter.unusedVariables false

theorem SeeV.next {w w' : World} {v : Value} {xs : List Value} (h : SeeV w w.heap.size v xs) (b : Below w.heap.size w w') : SeeV w' w'.heap.size v xs := (h.below b).more b.size

set_option maxHeartbeats 8000000 in
set_option maxRecDepth 100000 in
theorem plays_core (A : Option Addr) (n c : Nat) (m : Int) (w : World) (hs : SeeB w w.heap.size A n) (V : Vars w) (hm : w.cell? ⟨1, 0, none⟩ = some (.int .i64 m)) :
    Calls Tryz.prog 3 #[.slice A n c] w fun e w' => e = .returned (.bool true) ∧ Below w.heap.size w w' := by
  obtain ⟨i0, hi, hz0, hz1, hz2⟩ := info_parts Tryz.infoStr
  have hgl := World.block_lt_of_cell? w _ hm
  have hmx : ∀ w', Below w.heap.size w w' → w'.cell? ⟨1, 0, none⟩ = some (.int .i64 m) := fun w' b => (b.cell hgl).trans hm
  clear hm
  by_cases hbig : 4096 < n
  · go_enter Tryz.func3, Tryz.ntmps3
    go_wp2_with fail
    refine (big_any A n c _ hs.1).mono ?_
    rintro e w' ⟨rfl, rfl⟩
    rw [decide_eq_true (by omega)]
    go_wp2_with fail
    go_ret
    exact ⟨rfl, Below.refl _ _⟩
  go_enter Tryz.func3, Tryz.ntmps3
  go_wp2_with fail
  refine (big_any A n c _ hs.1).mono ?_
  rintro e w' ⟨rfl, rfl⟩
  rw [decide_eq_false (by omega)]
  go_wp2_with fail
  refine (drawShowPlay_any A n c (by omega) _ hs).mono ?_
  rintro e w1 ⟨g1, c1, xs, rfl, s1, hxl, hxu, -, b1⟩
  have hS := upTo_short hxu
  have hxn : xs.length ≤ 1048576 := by omega
  have hSl := show_up hxu hxl
  go_wp2_with fail
  refine (iShowPlay_any _ _ xs _ (V.below b1) s1 (Nat.le_refl _) hS hxn).mono ?_
  rintro e w2 ⟨rfl, b2⟩
  have s2 := s1.next b2
  have bb := below_then b1 b2 (Nat.le_refl _)
  have hs2 := (hs.keep fun p hp => bb.cell hp).more bb.size
  generalize hSS : showP xs = S at hSl ⊢
  have HS := Lib.hid hSS
  clear b1 b2 s1 hSS
  go_wp2_with fail
  refine (drawReadPlay_any A n c (by omega) _ hs2).mono ?_
  rintro e w3 ⟨t, rfl, htl, b3⟩
  replace bb := below_then bb b3 (Nat.le_refl _)
  have s3 := s2.next b3
  clear b3 s2 hs2
  have hrf := read_fits (l := t) (by omega)
  generalize hrr : readP t = r at hrf
  have HR := Lib.hid hrr
  clear hrr
  go_wp2_with fail
  refine (iReadPlay_any t (by omega) m _ (V.below bb) (hmx _ bb)).mono ?_
  rw [HR.out]
  rintro e w4 ⟨v4, rfl, o4, b4⟩
  replace bb := below_then bb b4 (Nat.le_refl _)
  have s4 := s3.next b4
  have x4 := o4.see
  obtain ⟨A4, c4, e4⟩ := strs_shape x4
  subst e4
  clear b4 s3 o4
  go_wp2_with fail
  refine (sReadPlay_any t (by omega) _).mono ?_
  rw [HR.out]
  rintro e w5 ⟨v5, rfl, o5, b5⟩
  replace bb := below_then bb b5 (Nat.le_refl _)
  have s5 := s4.next b5
  have x5 := x4.next b5
  have y5 := o5.see
  obtain ⟨A5, c5, e5⟩ := strs_shape y5
  subst e5
  clear b5 s4 x4 o5
  have hneq : (r.isSome != r.isSome) = false := by simp
  go_wp2_with fail
  refine (likeTexts_any _ _ _ _ _ _ x5 y5).mono ?_
  rintro e w6 ⟨rfl, n6, rfl⟩
  have b6 : Below w5.heap.size w5 (w5.drewN n6) := below_drewN (Below.refl _ _) _
  replace bb := below_then bb b6 (Nat.le_refl _)
  have s6 := s5.next b6
  have x6 := x5.next b6
  clear b6 s5 x5 y5 hneq
  rw [eqT_same]
  generalize w5.drewN n6 = w6 at bb s6 x6 ⊢
  have hSn : (!(S == S)) = false := by simp
  go_wp2_with fail
  refine (sShowPlay_any _ _ xs _ s6 (Nat.le_refl _) hS hxn).mono ?_
  rintro e w7 ⟨rfl, b7⟩
  rw [HS.out]
  replace bb := below_then bb b7 (Nat.le_refl _)
  have s7 := s6.next b7
  have x7 := x6.next b7
  clear b7 s6 x6
  go_wp2_with fail
  refine (iPlayOk_any _ _ xs _ (V.below bb) s7 (Nat.le_refl _) hS hxn).mono ?_
  rintro e w8 ⟨rfl, b8⟩
  replace bb := below_then bb b8 (Nat.le_refl _)
  have s8 := s7.next b8
  have x8 := x7.next b8
  clear b8 s7 x7
  have hpn : (playB xs != playB xs) = false := by simp
  go_wp2_with fail
  refine (sPlayOk_any _ _ xs _ s8 (Nat.le_refl _) hS hxn).mono ?_
  rintro e w9 ⟨rfl, b9⟩
  replace bb := below_then bb b9 (Nat.le_refl _)
  have s9 := s8.next b9
  have x9 := x8.next b9
  clear b9 s8 x8
  cases r with
  | none =>
    simp only [Option.isSome_none, Option.getD_none, List.length_nil] at x9 ⊢
    have sx := s9
    clear s9 x9
    go_wp2_with fail
    refine (sPlayOk_any _ _ xs _ sx (Nat.le_refl _) hS hxn).mono ?_
    rintro e wA ⟨rfl, bA⟩
    replace bb := below_then bb bA (Nat.le_refl _)
    have sA := sx.next bA
    clear bA sx
    cases hp : playB xs with
    | false =>
      have HSE : Hid (S = []) := Lib.hid (by rw [← HS.out]; unfold showP; rw [hp]; rfl)
      rw [HSE.out]
      go_wp2_with fail
      go_ret
      exact ⟨ret_bool (by simp), bb⟩
    | true =>
      have HR2 : Hid (readP S = some xs) := Lib.hid (by rw [← HS.out]; exact show_read7 hp)
      have H2 := Lib.hid (play_two hp)
      clear hp
      go_wp2_with fail
      refine (iReadPlay_any S (by omega) m _ (V.below bb) (hmx _ bb)).mono ?_
      rw [HR2.out]
      rintro e wB ⟨vB, rfl, oB, bB⟩
      simp only [Option.isSome_some, Option.getD_some] at oB ⊢
      replace bb := below_then bb bB (Nat.le_refl _)
      have sB := sA.next bB
      have yB := oB.see
      obtain ⟨AB, cB, eB⟩ := strs_shape yB
      subst eB
      clear bB sA oB
      have bE : Below wB.heap.size wB (wB.alloc (.cells #[] 9)) := (Below.refl _ _).alloc (Nat.le_refl _) _
      have SB := Lib.hid sB
      have YB := Lib.hid yB
      obtain ⟨N, hN⟩ : ∃ N, N = wB.heap.size := ⟨_, rfl⟩
      have oE : OwnV (wB.alloc (.cells #[] 9)) N 9 (.slice (some ⟨wB.heap.size, 0, none⟩) 0 0) (([] : List Txt).map str) := by rw [hN]; exact OwnV.empty wB wB.heap.size 9 (Nat.le_refl _)
      rw [← hN] at bE SB YB
      have hNle : N ≤ (wB.alloc (.cells #[] 9)).heap.size := by rw [hN]; exact bE.size
      clear sB yB
      go_wp2_with first
        | (at_builtin; refine wpList_append_own _ rfl _ _ 24 rfl N 9 i0 (.string ⟨#[]⟩) 1 16 Tryz.underlying24 hi hz0 hz1 hz2 rfl (by decide) _ _ _ rfl o9 ⟨g1, 0, none⟩ xs.length c1 (xs.map str) rfl (by simp) (news_of (SB.out.below B9.out)) (fun u hu => str_one u _ hu) (by unfold maxLen; simp; omega) (by simp; omega) (by have := B9.out.size; omega) ?_; intro v8 w8 hown8 hgr8 hnil8; obtain ⟨g8, k8, rfl, o8, b8⟩ := app_more (ys := xs) o9 (by have := B9.out.size; omega) rfl hown8 hgr8 hnil8; have B8 := Lib.hid (B9.out.trans b8); clear hown8 hgr8 hnil8)
        | (at_builtin; refine wpList_append_own _ rfl _ _ 24 rfl N 9 i0 (.string ⟨#[]⟩) 1 16 Tryz.underlying24 hi hz0 hz1 hz2 rfl (by decide) _ _ _ rfl oE ⟨g1, 0, none⟩ xs.length c1 (xs.map str) rfl (by simp) (news_of (SB.out.below bE)) (fun u hu => str_one u _ hu) (by unfold maxLen; simp; omega) (by simp; omega) hNle ?_; intro v9 w9 hown9 hgr9 hnil9; obtain ⟨g9, k9, rfl, o9, b9⟩ := app_more (xs := []) (ys := xs) oE hNle rfl hown9 hgr9 hnil9; have B9 := Lib.hid (bE.trans b9); clear hown9 hgr9 hnil9)
      have o8' : OwnV w8 N 9 (.slice (some ⟨g8, 0, none⟩) (xs ++ xs).length k8) ((xs ++ xs).map str) := o8
      have bb8 : Below w.heap.size w w8 := below_then bb (by rw [← hN]; exact B8.out) (Nat.le_refl _)
      have s8 := SB.out.below B8.out
      have y8 := YB.out.below B8.out
      have hN8 : N ≤ w8.heap.size := by have := B8.out.size; omega
      clear bE oE SB YB B8 B9 o8 o9 b8 b9 bb hN hNle
      refine (likeTexts_any _ _ _ _ _ _ y8 s8).mono ?_
      rintro e wC ⟨rfl, nC, rfl⟩
      have bC : Below w8.heap.size w8 (w8.drewN nC) := below_drewN (Below.refl _ _) _
      have oC := (o8'.later bC).see
      have bbC := below_then bb8 bC (Nat.le_refl _)
      clear s8 y8 bC bb8 o8'
      rw [eqT_same]
      rw [List.length_append] at oC
      have hSS : shortS (xs ++ xs) := fun s hs => by
        rcases List.mem_append.1 hs with q | q
        · exact hS s q
        · exact hS s q
      have HP := Lib.hid (iPlayOk_any _ _ (xs ++ xs) _ (V.below bbC) oC (Nat.le_refl _) hSS (by rw [List.length_append]; omega))
      rw [H2.out] at HP
      by_cases hle : xs.length + xs.length ≤ 100
      · have hi2 : (xs.length : Int) + (xs.length : Int) ≤ 100 := by omega
        rw [decide_eq_true (show (xs ++ xs).length ≤ 100 by rw [List.length_append]; exact hle)] at HP
        go_wp2_with fail
        refine HP.out.mono ?_
        rintro e wD ⟨rfl, bD⟩
        go_wp2_with fail
        go_ret
        exact ⟨ret_bool (by simp <;> omega), below_then bbC bD (Nat.le_refl _)⟩
      · have hi2 : ¬ (xs.length : Int) + (xs.length : Int) ≤ 100 := by omega
        rw [decide_eq_false (show ¬ (xs ++ xs).length ≤ 100 by rw [List.length_append]; exact hle)] at HP
        go_wp2_with fail
        refine HP.out.mono ?_
        rintro e wD ⟨rfl, bD⟩
        go_wp2_with fail
        go_ret
        exact ⟨ret_bool (by simp <;> omega), below_then bbC bD (Nat.le_refl _)⟩
  | some zs =>
    have HT := Lib.hid (read_show7 HR.out)
    simp only [Option.isSome_some, Option.getD_some] at x9 hrf ⊢
    have hzS : shortS zs := read_short HR.out (by omega)
    have htn : (!(t == t)) = false := by simp
    go_wp2_with fail
    refine (iShowPlay_any _ _ zs _ (V.below bb) x9 (Nat.le_refl _) hzS hrf).mono ?_
    rintro e w10 ⟨rfl, b10⟩
    rw [HT.out]
    replace bb := below_then bb b10 (Nat.le_refl _)
    have sx := s9.next b10
    clear b10 s9 x9
    go_wp2_with fail
    refine (sPlayOk_any _ _ xs _ sx (Nat.le_refl _) hS hxn).mono ?_
    rintro e wA ⟨rfl, bA⟩
    replace bb := below_then bb bA (Nat.le_refl _)
    have sA := sx.next bA
    clear bA sx
    cases hp : playB xs with
    | false =>
      have HSE : Hid (S = []) := Lib.hid (by rw [← HS.out]; unfold showP; rw [hp]; rfl)
      rw [HSE.out]
      go_wp2_with fail
      go_ret
      exact ⟨ret_bool (by simp), bb⟩
    | true =>
      have HR2 : Hid (readP S = some xs) := Lib.hid (by rw [← HS.out]; exact show_read7 hp)
      have H2 := Lib.hid (play_two hp)
      clear hp
      go_wp2_with fail
      refine (iReadPlay_any S (by omega) m _ (V.below bb) (hmx _ bb)).mono ?_
      rw [HR2.out]
      rintro e wB ⟨vB, rfl, oB, bB⟩
      simp only [Option.isSome_some, Option.getD_some] at oB ⊢
      replace bb := below_then bb bB (Nat.le_refl _)
      have sB := sA.next bB
      have yB := oB.see
      obtain ⟨AB, cB, eB⟩ := strs_shape yB
      subst eB
      clear bB sA oB
      have bE : Below wB.heap.size wB (wB.alloc (.cells #[] 9)) := (Below.refl _ _).alloc (Nat.le_refl _) _
      have SB := Lib.hid sB
      have YB := Lib.hid yB
      obtain ⟨N, hN⟩ : ∃ N, N = wB.heap.size := ⟨_, rfl⟩
      have oE : OwnV (wB.alloc (.cells #[] 9)) N 9 (.slice (some ⟨wB.heap.size, 0, none⟩) 0 0) (([] : List Txt).map str) := by rw [hN]; exact OwnV.empty wB wB.heap.size 9 (Nat.le_refl _)
      rw [← hN] at bE SB YB
      have hNle : N ≤ (wB.alloc (.cells #[] 9)).heap.size := by rw [hN]; exact bE.size
      clear sB yB
      go_wp2_with first
        | (at_builtin; refine wpList_append_own _ rfl _ _ 24 rfl N 9 i0 (.string ⟨#[]⟩) 1 16 Tryz.underlying24 hi hz0 hz1 hz2 rfl (by decide) _ _ _ rfl o9 ⟨g1, 0, none⟩ xs.length c1 (xs.map str) rfl (by simp) (news_of (SB.out.below B9.out)) (fun u hu => str_one u _ hu) (by unfold maxLen; simp; omega) (by simp; omega) (by have := B9.out.size; omega) ?_; intro v8 w8 hown8 hgr8 hnil8; obtain ⟨g8, k8, rfl, o8, b8⟩ := app_more (ys := xs) o9 (by have := B9.out.size; omega) rfl hown8 hgr8 hnil8; have B8 := Lib.hid (B9.out.trans b8); clear hown8 hgr8 hnil8)
        | (at_builtin; refine wpList_append_own _ rfl _ _ 24 rfl N 9 i0 (.string ⟨#[]⟩) 1 16 Tryz.underlying24 hi hz0 hz1 hz2 rfl (by decide) _ _ _ rfl oE ⟨g1, 0, none⟩ xs.length c1 (xs.map str) rfl (by simp) (news_of (SB.out.below bE)) (fun u hu => str_one u _ hu) (by unfold maxLen; simp; omega) (by simp; omega) hNle ?_; intro v9 w9 hown9 hgr9 hnil9; obtain ⟨g9, k9, rfl, o9, b9⟩ := app_more (xs := []) (ys := xs) oE hNle rfl hown9 hgr9 hnil9; have B9 := Lib.hid (bE.trans b9); clear hown9 hgr9 hnil9)
      have o8' : OwnV w8 N 9 (.slice (some ⟨g8, 0, none⟩) (xs ++ xs).length k8) ((xs ++ xs).map str) := o8
      have bb8 : Below w.heap.size w w8 := below_then bb (by rw [← hN]; exact B8.out) (Nat.le_refl _)
      have s8 := SB.out.below B8.out
      have y8 := YB.out.below B8.out
      have hN8 : N ≤ w8.heap.size := by have := B8.out.size; omega
      clear bE oE SB YB B8 B9 o8 o9 b8 b9 bb hN hNle
      refine (likeTexts_any _ _ _ _ _ _ y8 s8).mono ?_
      rintro e wC ⟨rfl, nC, rfl⟩
      have bC : Below w8.heap.size w8 (w8.drewN nC) := below_drewN (Below.refl _ _) _
      have oC := (o8'.later bC).see
      have bbC := below_then bb8 bC (Nat.le_refl _)
      clear s8 y8 bC bb8 o8'
      rw [eqT_same]
      rw [List.length_append] at oC
      have hSS : shortS (xs ++ xs) := fun s hs => by
        rcases List.mem_append.1 hs with q | q
        · exact hS s q
        · exact hS s q
      have HP := Lib.hid (iPlayOk_any _ _ (xs ++ xs) _ (V.below bbC) oC (Nat.le_refl _) hSS (by rw [List.length_append]; omega))
      rw [H2.out] at HP
      by_cases hle : xs.length + xs.length ≤ 100
      · have hi2 : (xs.length : Int) + (xs.length : Int) ≤ 100 := by omega
        rw [decide_eq_true (show (xs ++ xs).length ≤ 100 by rw [List.length_append]; exact hle)] at HP
        go_wp2_with fail
        refine HP.out.mono ?_
        rintro e wD ⟨rfl, bD⟩
        go_wp2_with fail
        go_ret
        exact ⟨ret_bool (by simp <;> omega), below_then bbC bD (Nat.le_refl _)⟩
      · have hi2 : ¬ (xs.length : Int) + (xs.length : Int) ≤ 100 := by omega
        rw [decide_eq_false (show ¬ (xs ++ xs).length ≤ 100 by rw [List.length_append]; exact hle)] at HP
        go_wp2_with fail
        refine HP.out.mono ?_
        rintro e wD ⟨rfl, bD⟩
        go_wp2_with fail
        go_ret
        exact ⟨ret_bool (by simp <;> omega), below_then bbC bD (Nat.le_refl _)⟩

end Go.Proofs.YtbpgleebfiiggaaGreatDoor
