/- The walk of FnSums. Condition: the listed variables hold what the program's text lays (Vars). -/
import Derived.Test.YtblnonlcjfcblaaGreatDoorSumQ
import Derived.Test.YtblnonlcjfcblaaGreatDoorDrawW
import Derived.Test.YtblnonlcjfcblaaGreatDoorSumJ
namespace Go.Proofs.YtblnonlcjfcblaaGreatDoor
open Go.RowKit
set_option linter.unusedVariables false

theorem upB_sh {bs : List Bx} (h : upB 10 bs) : shortB bs := fun b hb => Nat.le_trans (h b hb) (by omega)
theorem upTo_sh {xs : List Txt} (h : upTo 30 xs) : shortS xs := fun s hs => Nat.le_trans (h s hs) (by omega)
theorem names_few (ss : List Txt) (a : Int) : (namesS ss a).length ≤ ss.length := by
  unfold namesS putAll
  have h1 := putAll_len ((signsS ss a).filter nameB) []
  have h2 := List.length_filter_le nameB (signsS ss a)
  have h3 : (signsS ss a).length ≤ ss.length := by
    unfold signsS
    split
    · rw [List.length_take, List.length_drop]; omega
    · simp
  simp at h1
  omega

theorem one_out {w11 w12 : World} {m : Nat} {v' : Value} {ts : List Txt} (hm : ts.length = m) (h : w12.ownsRow w11.heap.size 9 1 v' (([] : List Value).length + m) ([] ++ ts.map str)) (hg : (w11.alloc (.cells #[] 9)).grownBy w12 (some w11.heap.size))
    (hnil : v' = .slice none 0 0 ↔ Value.slice (some ⟨w11.heap.size, 0, none⟩) 0 0 = .slice none 0 0 ∧ m = 0) : ∃ g c, v' = .slice (some ⟨g, 0, none⟩) m c ∧ OwnV w12 w11.heap.size 9 (.slice (some ⟨g, 0, none⟩) m c) (ts.map str) ∧ Below w11.heap.size w11 w12 := by
  have hoo : OwnV w12 w11.heap.size 9 v' (ts.map str) := by
    unfold OwnV
    rw [List.length_map, hm]
    simpa using h
  obtain ⟨g, c, rfl⟩ := hoo.shape1 (fun q => by have := (hnil.1 q).1; cases this)
  rw [List.length_map, hm] at hoo ⊢
  exact ⟨g, c, rfl, hoo, ((Below.refl _ w11).alloc (Nat.le_refl _) _).grown hg (by simp) (fun j hj => by cases hj; exact Nat.le_refl _)⟩
theorem two_out {w11 w12 w13 : World} {m g12 c12 : Nat} {v' : Value} {ts : List Txt} {p q : Txt} {o : Obj} (hm : ts.length = m) (o12 : OwnV w12 w11.heap.size 9 (.slice (some ⟨g12, 0, none⟩) m c12) (ts.map str)) (b12 : Below w11.heap.size w11 w12)
    (h : w13.ownsRow w11.heap.size 9 1 v' ((ts.map str).length + 2) (ts.map str ++ [str p, str q])) (hg : (w12.alloc o).grownBy w13 (some g12))
    (hnil : v' = .slice none 0 0 ↔ Value.slice (some ⟨g12, 0, none⟩) m c12 = .slice none 0 0 ∧ 2 = 0) : ∃ g c, v' = .slice (some ⟨g, 0, none⟩) (m + 2) c ∧ OwnV w13 w11.heap.size 9 (.slice (some ⟨g, 0, none⟩) (m + 2) c) ((ts ++ [p, q]).map str) ∧ Below w11.heap.size w11 w13 := by
  have hoo : OwnV w13 w11.heap.size 9 v' ((ts ++ [p, q]).map str) := by
    unfold OwnV
    rw [List.length_map] at h ⊢
    rw [List.length_append, List.map_append]
    exact h
  have hr := (o12.lt g12 rfl).1
  obtain ⟨g, c, rfl⟩ := hoo.shape1 (fun q => by have := (hnil.1 q).1; cases this)
  have hl : ((ts ++ [p, q]).map str).length = m + 2 := by simp [hm]
  rw [hl] at hoo ⊢
  exact ⟨g, c, rfl, hoo, (b12.alloc b12.size _).grown hg (by have := b12.size; simp; omega) (fun j hj => by cases hj; exact hr)⟩
theorem short_app {xs : List Txt} {p q : Txt} (h : shortS xs) (hp : p.length ≤ 10) (hq : q.length ≤ 10) : shortS (xs ++ [p, q]) := fun s hs => by
  rcases List.mem_append.1 hs with h1 | h1
  · exact h s h1
  · simp at h1
    rcases h1 with rfl | rfl <;> omega

set_option maxHeartbeats 16000000 in
set_option maxRecDepth 100000 in
theorem sums_core (A : Option Addr) (n c : Nat) (w : World) (hs : SeeB w w.heap.size A n) (V : Vars w) :
    Calls Tryz.prog 10 #[.slice A n c] w fun e w' => e = .returned (.bool true) ∧ Below w.heap.size w w' := by
  have hn := hs.1
  by_cases hbig : 4096 < n
  · have hd : decide (4096 < (n : Int)) = true := by simp; omega
    go_enter Tryz.func10, Tryz.ntmps10
    go_wp2_with fail
    refine (big_any _ _ _ _ hn).mono ?_
    rintro e w' ⟨rfl, rfl⟩
    go_wp2_with fail
    go_ret
    exact ⟨rfl, Below.refl _ _⟩
  have hd : decide (4096 < (n : Int)) = false := by simp; omega
  have HV : Hid (∀ W, Below w.heap.size w W → Vars W) := Lib.hid fun W h => V.below h
  have hn' : n ≤ 4096 := by omega
  clear hbig V
  go_enter Tryz.func10, Tryz.ntmps10
  go_wp2_with fail
  refine (big_any _ _ _ _ hn).mono ?_
  rintro e w' ⟨rfl, rfl⟩
  clear hn
  go_wp2_with fail
  refine (drawSumOf_any A n c hn' _ hs).mono ?_
  rintro e w1 ⟨g1, c1, xs, a, g2, c2, bs, rfl, x1, lx, ux, y1, lb, ub, b1⟩
  have hX := Nat.le_refl w1.heap.size
  generalize hN : w1.heap.size = N at x1 y1 hX
  have hN1 : N ≤ w1.heap.size := by omega
  clear hN
  have HXS := Lib.hid (upTo_sh ux)
  have HBS := Lib.hid (upB_sh ub)
  have CE := Lib.hid (fun W V h1 h2 => iSumEnd_any N (.slice (some ⟨g1, 0, none⟩) xs.length c1) xs a W V h1 h2 HXS.out (by omega))
  have DE := Lib.hid (fun W h1 h2 => sSumEnd_any N (.slice (some ⟨g1, 0, none⟩) xs.length c1) xs a W h1 h2 HXS.out (by omega))
  have CR := Lib.hid (fun W V h1 h2 h3 => iSumOf_any xs bs a N (.slice (some ⟨g1, 0, none⟩) xs.length c1) (.slice (some ⟨g2, 0, none⟩) bs.length c2) W V h1 h2 h3 HXS.out (by omega) HBS.out)
  have DR := Lib.hid (fun W h1 h2 h3 => sSumOf_any xs bs a N (.slice (some ⟨g1, 0, none⟩) xs.length c1) (.slice (some ⟨g2, 0, none⟩) bs.length c2) W h1 h2 h3 HXS.out (by omega) HBS.out)
  have CF := Lib.hid (fun W V h1 h2 => iMayFail_any N (.slice (some ⟨g1, 0, none⟩) xs.length c1) xs a W V h1 h2 HXS.out (by omega))
  have DF := Lib.hid (fun W h1 h2 => sMayFail_any N (.slice (some ⟨g1, 0, none⟩) xs.length c1) xs a W h1 h2 HXS.out (by omega))
  unfold RdLt at CR DR
  generalize hE : sumEndS xs a = E at CE DE
  generalize hrx : (sumOfS xs a bs).getD 0 = rx at CR DR
  generalize hry : (sumOfS xs a bs).isSome = ry at CR DR
  generalize hF : mayB xs a = F at CF DF
  have HE := Lib.hid hE
  have HRX := Lib.hid hrx
  have HRY := Lib.hid hry
  have HF := Lib.hid hF
  clear hE hrx hry hF
  have e1 : (rx != rx) = false := by simp
  have e2 : (ry != ry) = false := by simp
  have e3 : (E != E) = false := by simp
  have e4 : (F != F) = false := by simp
  go_wp2_with fail
  refine (CE.out _ (HV.out _ b1) x1 hN1).mono ?_
  rintro e w2 ⟨rfl, b2⟩
  have x2 := x1.below (b2.mono hN1)
  have y2 := y1.below (b2.mono hN1)
  have hN2 := Nat.le_trans hN1 b2.size
  replace b2 := below_then b1 b2 (Nat.le_refl _)
  clear b1 x1 y1 hN1 hX CE
  go_wp2_with fail
  refine (CR.out _ (HV.out _ b2) x2 y2 hN2).mono ?_
  rintro e w3 ⟨rfl, b3⟩
  have x3 := x2.below (b3.mono hN2)
  have y3 := y2.below (b3.mono hN2)
  have hN3 := Nat.le_trans hN2 b3.size
  replace b3 := below_then b2 b3 (Nat.le_refl _)
  clear b2 x2 y2 hN2 CR
  go_wp2_with fail
  refine (CF.out _ (HV.out _ b3) x3 hN3).mono ?_
  rintro e w4 ⟨rfl, b4⟩
  have x4 := x3.below (b4.mono hN3)
  have y4 := y3.below (b4.mono hN3)
  have hN4 := Nat.le_trans hN3 b4.size
  replace b4 := below_then b3 b4 (Nat.le_refl _)
  clear b3 x3 y3 hN3 CF
  go_wp2_with fail
  refine (DR.out _ x4 y4 hN4).mono ?_
  rintro e w5 ⟨rfl, b5⟩
  have x5 := x4.below (b5.mono hN4)
  have y5 := y4.below (b5.mono hN4)
  have hN5 := Nat.le_trans hN4 b5.size
  replace b5 := below_then b4 b5 (Nat.le_refl _)
  clear b4 x4 y4 hN4 DR
  go_wp2_with fail
  refine (DE.out _ x5 hN5).mono ?_
  rintro e w6 ⟨rfl, b6⟩
  have x6 := x5.below (b6.mono hN5)
  have y6 := y5.below (b6.mono hN5)
  have hN6 := Nat.le_trans hN5 b6.size
  replace b6 := below_then b5 b6 (Nat.le_refl _)
  clear b5 x5 y5 hN5 DE
  go_wp2_with fail
  refine (DF.out _ x6 hN6).mono ?_
  rintro e w7 ⟨rfl, b7⟩
  have x7 := x6.below (b7.mono hN6)
  have y7 := y6.below (b7.mono hN6)
  have hN7 := Nat.le_trans hN6 b7.size
  replace b7 := below_then b6 b7 (Nat.le_refl _)
  clear b6 x6 y6 hN6 DF
  go_wp2_with fail
  refine (iNamesIn_any _ _ xs a _ (HV.out _ b7) x7 hN7 HXS.out (by omega)).mono ?_
  rintro e w8 ⟨g8, c8, rfl, o8, b8⟩
  have x8 := x7.below (b8.mono hN7)
  have y8 := y7.below (b8.mono hN7)
  have hN8 := Nat.le_trans hN7 b8.size
  replace b8 := below_then b7 b8 (Nat.le_refl _)
  clear b7 x7 y7 hN7
  go_wp2_with fail
  refine (sNamesIn_any _ _ xs a _ x8 hN8 HXS.out (by omega)).mono ?_
  rintro e w9 ⟨g9, c9, rfl, o9, b9⟩
  have o8' := o8.later b9
  have x9 := x8.below (b9.mono hN8)
  have y9 := y8.below (b9.mono hN8)
  have hN9 := Nat.le_trans hN8 b9.size
  replace b9 := below_then b8 b9 (Nat.le_refl _)
  clear b8 x8 y8 hN8 o8
  generalize namesS xs a = ns at o8' o9 ⊢
  go_wp2_with fail
  refine (likeTexts_any _ _ _ ns ns _ o8'.see o9.see).mono ?_
  rintro e w10 ⟨rfl, n10, rfl⟩
  rw [eqT_same]
  have b10 : Below w9.heap.size w9 (w9.drewN n10) := below_drewN (Below.refl _ _) _
  have x10 := x9.below (b10.mono hN9)
  have y10 := y9.below (b10.mono hN9)
  have hN10 := Nat.le_trans hN9 b10.size
  replace b10 := below_then b9 b10 (Nat.le_refl _)
  clear b9 x9 y9 hN9 o8' o9
  generalize w9.drewN n10 = w10 at *
  clear e1 e2 e3 e4
  have HED : Hid (E = -1 ∨ 0 ≤ E) := Lib.hid (by rw [← HE.out]; exact end_dec xs a)
  rcases HED.out with hE1 | hE1
  · subst hE1
    have hR : sumOfS xs a bs = none := sumOf_no (.inl (by rw [HE.out]; omega))
    obtain rfl : rx = 0 := by rw [← HRX.out, hR]; rfl
    obtain rfl : ry = false := by rw [← HRY.out, hR]; rfl
    go_wp2_with fail
    go_ret
    exact ⟨rfl, b10⟩
  have hEn : ¬ E < 0 := by omega
  go_wp2_with fail
  refine (sBoxesOk_any _ _ bs _ y10 hN10 HBS.out).mono ?_
  rintro e w11 ⟨rfl, b11⟩
  have x11 := x10.below (b11.mono hN10)
  have y11 := y10.below (b11.mono hN10)
  have hN11 := Nat.le_trans hN10 b11.size
  replace b11 := below_then b10 b11 (Nat.le_refl _)
  clear b10 x10 y10 hN10
  cases hok : boxesB bs
  · have hR : sumOfS xs a bs = none := sumOf_no (.inr hok)
    obtain rfl : rx = 0 := by rw [← HRX.out, hR]; rfl
    obtain rfl : ry = false := by rw [← HRY.out, hR]; rfl
    go_wp2_with fail
    go_ret
    exact ⟨rfl, b11⟩
  have HOK := Lib.hid hok
  obtain ⟨k, t, hak, ht⟩ := sum_of_end (show 0 ≤ sumEndS xs a by rw [HE.out]; exact hE1)
  subst hak
  have HT := Lib.hid ht
  have hEe : E = (k : Int) + (t.flat.length : Int) := by
    have := sum_end ht
    rw [HE.out] at this
    rw [this]; omega
  have hlen := sum_len ht
  have hpos := t.pos
  have hcap : xs.length ≤ c1 := by
    obtain ⟨_, A', c', he, hc, _⟩ := x11
    injection he with _ _ e3
    subst e3
    rw [List.length_map] at hc
    exact hc
  have HRT : Hid (sumOfS xs (k : Int) bs = evalT bs t) := Lib.hid (sumOf_tree ht hok)
  have HFN : Hid (F = false → ry = true) := Lib.hid (fun h => by
    rw [← HRY.out, HRT.out]
    exact fails_not HT.out HOK.out (by rw [HF.out]; exact h))
  have hone := SeeV.part x11 k t.flat.length (by rw [List.length_map]; omega)
  rw [Nat.zero_add] at hone
  have HOE : Hid (((xs.map str).drop k).take t.flat.length = t.flat.map str) := Lib.hid (by
    obtain ⟨_, rest, h2⟩ := ht
    rw [← List.map_drop, h2, ← List.map_take, List.take_left' rfl])
  rw [HOE.out] at hone
  have HTS : Hid (shortS t.flat) := Lib.hid (by rw [← signs_tree ht]; exact signs_short HXS.out)
  subst hEe
  clear ht hok hE1 hEn HED
  generalize hm : t.flat.length = m at hlen hpos hone ⊢
  have HM := Lib.hid hm
  clear hm
  obtain ⟨i0, hi, hz0, hz1, hz2⟩ := info_parts Tryz.infoStr
  have HN1 : Hid (∀ j u, (t.flat.map str)[j]? = some u → (w11.alloc (.cells #[] 9)).cell? ((⟨g1, k, none⟩ : Addr).add j) = some u) := Lib.hid (fun j u hu => by
    obtain ⟨g', o', e, _, hc⟩ := (hone.alloc hN11 (.cells #[] 9)).at_ hu
    cases e
    rw [add_at]
    exact hc)
  have hck : ¬ c1 = k := by omega
  have hk1 : (k : Int) ≤ (k : Int) + m := by omega
  have hk2 : (k : Int) + m ≤ c1 := by omega
  have hk3 : k + m ≤ c1 := by omega
  have hm16 : m ≤ 16 := by omega
  go_upto_region 13 with fail
  rw [Nat.add_sub_cancel_left]
  go_wp2_with first
    | (at_builtin; refine wpList_append_own _ rfl _ _ 22 rfl w11.heap.size 9 i0 (.string ⟨#[]⟩) 1 16 Tryz.underlying22 hi hz0 hz1 hz2 rfl (by decide) _ _ _ rfl (o12.alloc _) ⟨w12.heap.size, 0, none⟩ 2 2 [str [43], str [119, 104, 97, 116, 93]] rfl rfl (bx_new _ _ _ _) (by simp [Value.oneCell']) (by unfold maxLen; rw [List.length_map, HM.out]; omega) (by rw [List.length_map, HM.out]; omega) (by have := b12.size; simp; omega) ?_; intro v13 w13 hown13 hgr13 hnil13; (obtain ⟨g13, k13, rfl, o13, b13⟩ := two_out HM.out o12 b12 hown13 hgr13 hnil13))
    | (at_builtin; refine wpList_append_own _ rfl _ _ 22 rfl w11.heap.size 9 i0 (.string ⟨#[]⟩) 1 16 Tryz.underlying22 hi hz0 hz1 hz2 rfl (by decide) _ _ _ rfl (OwnV.empty w11 w11.heap.size 9 (Nat.le_refl _)) ⟨g1, k, none⟩ m (c1 - k) (t.flat.map str) rfl (by rw [List.length_map, HM.out, Nat.mul_one]) HN1.out (fun u hu => str_one u _ hu) (by unfold maxLen; simp; omega) (by simp; omega) (by simp) ?_; intro v12 w12 hown12 hgr12 hnil12; (obtain ⟨g12, k12, rfl, o12, b12⟩ := one_out HM.out hown12 hgr12 hnil12))
  have b13' := below_then b11 b13 (Nat.le_refl _)
  have CM := Lib.hid (iSumEnd_any _ (.slice (some ⟨g13, 0, none⟩) (m + 2) k13) (t.flat ++ [[43], [119, 104, 97, 116, 93]]) 0 w13 (HV.out _ b13') o13.see (Nat.le_refl _) (short_app HTS.out (by simp) (by simp)) (by rw [List.length_append, HM.out]; simp; omega))
  rw [end_more HT.out.1, HM.out] at CM
  clear HN1 hown12 hgr12 hnil12 hown13 hgr13 hnil13 o12 b12
  refine CM.out.mono ?_
  rintro e w14 ⟨rfl, b14⟩
  have n14 := (b13.trans (b14.mono b13.size)).mono hN11
  replace b14 := below_then b13' b14 (Nat.le_refl _)
  clear b13 b13' o13 CM
  have hmm : ((m : Int) != (m : Int)) = false := by simp
  obtain ⟨s, hs0⟩ : ∃ s, xs[k]? = some s := ⟨_, List.getElem?_eq_getElem (show k < xs.length by omega)⟩
  have HS0 := Lib.hid hs0
  clear hs0
  rcases (show (F = true ∧ ry = true) ∨ (F = true ∧ ry = false) ∨ (F = false ∧ ry = true) by
    cases F with
    | true => cases ry with
      | true => exact .inl ⟨rfl, rfl⟩
      | false => exact .inr (.inl ⟨rfl, rfl⟩)
    | false => exact .inr (.inr ⟨rfl, HFN.out rfl⟩)) with ⟨rfl, rfl⟩ | ⟨rfl, rfl⟩ | ⟨rfl, rfl⟩
  · skip
    go_wp2_with fail
    go_loopw [14] (fun i wr => ∃ j : Nat, j ≤ m ∧ i = .int .i64 (j : Int) ∧ Below w.heap.size w wr ∧ Below N w11 wr) (fun i _ => m - (intOf i).toNat)
    case atStart => exact ⟨0, Nat.zero_le _, rfl, b14, n14⟩
    case round =>
      obtain ⟨j, hj, rfl, bw, nw⟩ := hrel
      have hNw := Nat.le_trans hN11 nw.size
      by_cases hjm : j < m
      · have hp := SeeV.part (hone.below nw) 0 j (by rw [List.length_map, HM.out]; omega)
        rw [Nat.add_zero, Nat.sub_zero, List.drop_zero, ← List.map_take] at hp
        have CP := Lib.hid (iSumEnd_any N _ (t.flat.take j) 0 wr (HV.out _ bw) hp hNw (fun s hs => HTS.out s (List.mem_of_mem_take hs)) (by rw [List.length_take]; omega))
        rw [end_part HT.out.1 (by rw [HM.out]; exact hjm)] at CP
        have hjc : j ≤ c1 - k := by omega
        clear hp
        go_wp2_with fail
        refine CP.out.mono ?_
        rintro e w15 ⟨rfl, b15⟩
        go_wp2_with fail
        go_roundw
        case rel => exact ⟨j + 1, by omega, by go_num, below_then bw b15 (Nat.le_refl _), nw.trans (b15.mono hNw)⟩
        case measure => simp [intOf]; omega
      · obtain ⟨wl, rfl⟩ : ∃ x, x = wr := ⟨_, rfl⟩
        obtain ⟨gs, os, eS, -, cS⟩ := tx_at (x11.below nw) HS0.out
        cases eS
        rw [Nat.zero_add] at cS
        have bO : Below wl.heap.size wl (wl.alloc (.cells #[str [43], str [45], str [42], str [47], str [60], str [61]] 9)) := (Below.refl _ _).alloc (Nat.le_refl _) _
        have cS2 := (bO.cell (p := ⟨g1, k, none⟩) (World.block_lt_of_cell? wl _ cS)).trans cS
        have HOPS : Hid (∀ j x, opsL[j]? = some x → (wl.alloc (.cells #[str [43], str [45], str [42], str [47], str [60], str [61]] 9)).cell? ⟨wl.heap.size, j, none⟩ = some (str x)) := Lib.hid (fun j x hx => by
          rw [cell_of_row _ _ j _ _ (0, 0) (heap_alloc_new _ _)]
          have : (opsL.map str)[j]? = some (str x) := by rw [List.getElem?_map, hx]; rfl
          rw [← this]
          simp [opsL])
        have bO2 := below_then bw bO (Nat.le_refl _)
        have nO := nw.trans (bO.mono hNw)
        go_wp2_with fail
        generalize wl.alloc _ = WO at cS2 HOPS bO2 nO ⊢
        generalize wl.heap.size = q at HOPS ⊢
        clear bO cS bw nw hNw
        go_loopw [16, 17, 18, 19, 20, 21, 22] (fun i _ _ _ _ _ _ wr => ∃ (j mm : Nat), j ≤ 6 ∧ i = .int .i64 (j : Int) ∧ (∀ i, i < j → ¬ opsL[i]? = some s) ∧ wr = WO.drewN mm) (fun i _ _ _ _ _ _ _ => 6 - (intOf i).toNat)
        case atStart => exact ⟨0, 0, Nat.zero_le _, rfl, fun i hi => by omega, rfl⟩
        case round =>
          obtain ⟨j, mm, hj6, rfl, hno, rfl⟩ := hrel
          have HNO := Lib.hid hno
          clear hno
          by_cases hj : j < 6
          · obtain ⟨x, hxj⟩ : ∃ x, opsL[j]? = some x := ⟨_, List.getElem?_eq_getElem (show j < opsL.length from hj)⟩
            have cX := HOPS.out j x hxj
            have HXJ := Lib.hid hxj
            clear hxj
            cases hsx : (s == x)
            · have HE2 : Hid (∀ i, i < j + 1 → ¬ opsL[i]? = some s) := Lib.hid (fun i hi h => by
                by_cases e : i = j
                · subst e
                  have := HXJ.out.symm.trans h
                  injection this with this
                  rw [this] at hsx
                  simp at hsx
                · exact HNO.out i (by omega) h)
              go_wp2_with fail
              go_quiet (fail)
              go_wp2_with fail
              go_roundw
              case rel => exact ⟨j + 1, _, by omega, by go_num, HE2.out, rfl⟩
              case measure => simp [intOf]; omega
            · have hse : s = x := by simpa using hsx
              have hop := ops_at HXJ.out
              rw [← hse] at hop
              obtain ⟨ta, tb, hte⟩ : ∃ ta tb, t = .op s ta tb := by
                cases t with
                | leaf s' =>
                  obtain ⟨q1, q2, _⟩ := at_leaf HT.out
                  rw [HS0.out] at q1
                  injection q1 with q1
                  rw [← q1] at q2
                  omega
                | op s' ta tb =>
                  obtain ⟨q1, _, _⟩ := at_op HT.out
                  rw [HS0.out] at q1
                  injection q1 with q1
                  rw [← q1]
                  exact ⟨ta, tb, rfl⟩
              obtain ⟨_, _, hta, htb⟩ := at_op (show SumAt xs k (.op s ta tb) from hte ▸ HT.out)
              have HEV := Lib.hid (eval_op (bs := bs) (s := s) (a := ta) (b := tb))
              rw [← hte, ← HRT.out, HRY.out, HRX.out, hop] at HEV
              have HA1 : Hid (sumOfS xs ((k : Int) + 1) bs = evalT bs ta) := Lib.hid (by
                have := sumOf_tree hta HOK.out
                rwa [show ((k + 1 : Nat) : Int) = (k : Int) + 1 by omega] at this)
              obtain ⟨e2, he2⟩ : ∃ e2 : Int, sumEndS xs ((k : Int) + 1) = e2 := ⟨_, rfl⟩
              have HB1 : Hid (sumOfS xs e2 bs = evalT bs tb) := Lib.hid (by
                have h1 := sum_end hta
                rw [show ((k + 1 : Nat) : Int) = (k : Int) + 1 by omega, he2] at h1
                rw [h1]
                exact sumOf_tree htb HOK.out)
              have HE2 := Lib.hid he2
              have bq : ∀ n, Below w.heap.size w (WO.drewN n) := fun n => below_drewN bO2 n
              have nq2 : ∀ n, Below N w11 (WO.drewN n) := fun n => below_drewN nO n
              clear hta htb he2 hte hse hop
              go_wp2_with fail
              go_quiet (fail)
              obtain ⟨WQ, hWQ⟩ : ∃ WQ, (WO.drewN mm).drewN nq = WQ := ⟨_, rfl⟩
              rw [hWQ]
              have bQ : Below w.heap.size w WQ := hWQ ▸ below_drewN (bq mm) nq
              have nQ : Below N w11 WQ := hWQ ▸ below_drewN (nq2 mm) nq
              clear hWQ bq nq2 cX cS2 HOPS
              have xQ := x11.below nQ
              have yQ := y11.below nQ
              have hQ := Nat.le_trans hN11 nQ.size
              have CA := Lib.hid (iSumOf_any xs bs ((k : Int) + 1) N (.slice (some ⟨g1, 0, none⟩) xs.length c1) (.slice (some ⟨g2, 0, none⟩) bs.length c2) WQ (HV.out _ bQ) xQ yQ hQ HXS.out (by omega) HBS.out)
              rw [HA1.out] at CA
              have CB := Lib.hid (fun W V h1 h2 h3 => iSumOf_any xs bs e2 N (.slice (some ⟨g1, 0, none⟩) xs.length c1) (.slice (some ⟨g2, 0, none⟩) bs.length c2) W V h1 h2 h3 HXS.out (by omega) HBS.out)
              rw [HB1.out] at CB
              unfold RdLt at CA CB
              clear HA1 HB1
              generalize (evalT bs ta).getD 0 = va at CA HEV
              generalize (evalT bs ta).isSome = fa at CA HEV
              generalize (evalT bs tb).getD 0 = vb at CB HEV
              generalize (evalT bs tb).isSome = fb at CB HEV
              have CD := Lib.hid (fun W => sDid_any ((j : Int) + 1) va vb W)
              generalize didS ((j : Int) + 1) va vb = dd at CD HEV
              obtain ⟨z, th⟩ := dd
              go_wp2_with fail
              refine CA.out.mono ?_
              rintro e w16 ⟨rfl, b16⟩
              have x16 := xQ.below (b16.mono hQ)
              have y16 := yQ.below (b16.mono hQ)
              have h16 := Nat.le_trans hQ b16.size
              replace b16 := below_then bQ b16 (Nat.le_refl _)
              clear bQ nQ xQ yQ hQ CA
              go_wp2_with fail
              refine (sSumEnd_any N _ xs _ _ x16 h16 HXS.out (by omega)).mono ?_
              rintro e w17 ⟨rfl, b17⟩
              rw [HE2.out]
              have x17 := x16.below (b17.mono h16)
              have y17 := y16.below (b17.mono h16)
              have h17 := Nat.le_trans h16 b17.size
              replace b17 := below_then b16 b17 (Nat.le_refl _)
              clear b16 x16 y16 h16
              go_wp2_with fail
              refine (CB.out _ (HV.out _ b17) x17 y17 h17).mono ?_
              rintro e w18 ⟨rfl, b18⟩
              replace b18 := below_then b17 b18 (Nat.le_refl _)
              clear b17 x17 y17 h17 CB
              go_wp2_with fail
              refine (CD.out _).mono ?_
              rintro e w' ⟨rfl, rfl⟩
              obtain ⟨hv1, hv2⟩ := HEV.out
              have HV1 := Lib.hid hv1
              have HV2 := Lib.hid hv2
              clear hv1 hv2 HEV CD
              cases fa <;> cases fb <;> cases th
              all_goals first
                | exact Bool.noConfusion (show true = false from HV1.out)
                | exact Bool.noConfusion (show false = true from HV1.out)
                | skip
              have hzz : rx = z := HV2.out trivial
              subst hzz
              go_wp2_with fail
              go_ret
              exact ⟨rfl, b18⟩
          · have hS0 : opN s = 0 := ops_none (fun x hx e => by
              obtain ⟨i, hi, e2⟩ := List.getElem_of_mem hx
              have hi6 : i < 6 := hi
              exact HNO.out i (by omega) (by rw [List.getElem?_eq_getElem hi, e2, e]))
            have hyy : (evalT bs t).isSome = true := by
              cases t with
              | leaf s' => rfl
              | op s' ta tb =>
                obtain ⟨q1, q2, _⟩ := at_op HT.out
                rw [HS0.out] at q1
                injection q1 with q1
                subst q1
                exact absurd hS0 q2
            rw [← HRT.out, HRY.out] at hyy
            first
              | cases hyy; done
              | (go_wp2_with fail
                 go_ret
                 exact ⟨rfl, below_drewN bO2 _⟩)
  · skip
    go_wp2_with fail
    go_loopw [14] (fun i wr => ∃ j : Nat, j ≤ m ∧ i = .int .i64 (j : Int) ∧ Below w.heap.size w wr ∧ Below N w11 wr) (fun i _ => m - (intOf i).toNat)
    case atStart => exact ⟨0, Nat.zero_le _, rfl, b14, n14⟩
    case round =>
      obtain ⟨j, hj, rfl, bw, nw⟩ := hrel
      have hNw := Nat.le_trans hN11 nw.size
      by_cases hjm : j < m
      · have hp := SeeV.part (hone.below nw) 0 j (by rw [List.length_map, HM.out]; omega)
        rw [Nat.add_zero, Nat.sub_zero, List.drop_zero, ← List.map_take] at hp
        have CP := Lib.hid (iSumEnd_any N _ (t.flat.take j) 0 wr (HV.out _ bw) hp hNw (fun s hs => HTS.out s (List.mem_of_mem_take hs)) (by rw [List.length_take]; omega))
        rw [end_part HT.out.1 (by rw [HM.out]; exact hjm)] at CP
        have hjc : j ≤ c1 - k := by omega
        clear hp
        go_wp2_with fail
        refine CP.out.mono ?_
        rintro e w15 ⟨rfl, b15⟩
        go_wp2_with fail
        go_roundw
        case rel => exact ⟨j + 1, by omega, by go_num, below_then bw b15 (Nat.le_refl _), nw.trans (b15.mono hNw)⟩
        case measure => simp [intOf]; omega
      · obtain ⟨wl, rfl⟩ : ∃ x, x = wr := ⟨_, rfl⟩
        obtain ⟨gs, os, eS, -, cS⟩ := tx_at (x11.below nw) HS0.out
        cases eS
        rw [Nat.zero_add] at cS
        have bO : Below wl.heap.size wl (wl.alloc (.cells #[str [43], str [45], str [42], str [47], str [60], str [61]] 9)) := (Below.refl _ _).alloc (Nat.le_refl _) _
        have cS2 := (bO.cell (p := ⟨g1, k, none⟩) (World.block_lt_of_cell? wl _ cS)).trans cS
        have HOPS : Hid (∀ j x, opsL[j]? = some x → (wl.alloc (.cells #[str [43], str [45], str [42], str [47], str [60], str [61]] 9)).cell? ⟨wl.heap.size, j, none⟩ = some (str x)) := Lib.hid (fun j x hx => by
          rw [cell_of_row _ _ j _ _ (0, 0) (heap_alloc_new _ _)]
          have : (opsL.map str)[j]? = some (str x) := by rw [List.getElem?_map, hx]; rfl
          rw [← this]
          simp [opsL])
        have bO2 := below_then bw bO (Nat.le_refl _)
        have nO := nw.trans (bO.mono hNw)
        go_wp2_with fail
        generalize wl.alloc _ = WO at cS2 HOPS bO2 nO ⊢
        generalize wl.heap.size = q at HOPS ⊢
        clear bO cS bw nw hNw
        go_loopw [16, 17, 18, 19, 20, 21, 22] (fun i _ _ _ _ _ _ wr => ∃ (j mm : Nat), j ≤ 6 ∧ i = .int .i64 (j : Int) ∧ (∀ i, i < j → ¬ opsL[i]? = some s) ∧ wr = WO.drewN mm) (fun i _ _ _ _ _ _ _ => 6 - (intOf i).toNat)
        case atStart => exact ⟨0, 0, Nat.zero_le _, rfl, fun i hi => by omega, rfl⟩
        case round =>
          obtain ⟨j, mm, hj6, rfl, hno, rfl⟩ := hrel
          have HNO := Lib.hid hno
          clear hno
          by_cases hj : j < 6
          · obtain ⟨x, hxj⟩ : ∃ x, opsL[j]? = some x := ⟨_, List.getElem?_eq_getElem (show j < opsL.length from hj)⟩
            have cX := HOPS.out j x hxj
            have HXJ := Lib.hid hxj
            clear hxj
            cases hsx : (s == x)
            · have HE2 : Hid (∀ i, i < j + 1 → ¬ opsL[i]? = some s) := Lib.hid (fun i hi h => by
                by_cases e : i = j
                · subst e
                  have := HXJ.out.symm.trans h
                  injection this with this
                  rw [this] at hsx
                  simp at hsx
                · exact HNO.out i (by omega) h)
              go_wp2_with fail
              go_quiet (fail)
              go_wp2_with fail
              go_roundw
              case rel => exact ⟨j + 1, _, by omega, by go_num, HE2.out, rfl⟩
              case measure => simp [intOf]; omega
            · have hse : s = x := by simpa using hsx
              have hop := ops_at HXJ.out
              rw [← hse] at hop
              obtain ⟨ta, tb, hte⟩ : ∃ ta tb, t = .op s ta tb := by
                cases t with
                | leaf s' =>
                  obtain ⟨q1, q2, _⟩ := at_leaf HT.out
                  rw [HS0.out] at q1
                  injection q1 with q1
                  rw [← q1] at q2
                  omega
                | op s' ta tb =>
                  obtain ⟨q1, _, _⟩ := at_op HT.out
                  rw [HS0.out] at q1
                  injection q1 with q1
                  rw [← q1]
                  exact ⟨ta, tb, rfl⟩
              obtain ⟨_, _, hta, htb⟩ := at_op (show SumAt xs k (.op s ta tb) from hte ▸ HT.out)
              have HEV := Lib.hid (eval_op (bs := bs) (s := s) (a := ta) (b := tb))
              rw [← hte, ← HRT.out, HRY.out, HRX.out, hop] at HEV
              have HA1 : Hid (sumOfS xs ((k : Int) + 1) bs = evalT bs ta) := Lib.hid (by
                have := sumOf_tree hta HOK.out
                rwa [show ((k + 1 : Nat) : Int) = (k : Int) + 1 by omega] at this)
              obtain ⟨e2, he2⟩ : ∃ e2 : Int, sumEndS xs ((k : Int) + 1) = e2 := ⟨_, rfl⟩
              have HB1 : Hid (sumOfS xs e2 bs = evalT bs tb) := Lib.hid (by
                have h1 := sum_end hta
                rw [show ((k + 1 : Nat) : Int) = (k : Int) + 1 by omega, he2] at h1
                rw [h1]
                exact sumOf_tree htb HOK.out)
              have HE2 := Lib.hid he2
              have bq : ∀ n, Below w.heap.size w (WO.drewN n) := fun n => below_drewN bO2 n
              have nq2 : ∀ n, Below N w11 (WO.drewN n) := fun n => below_drewN nO n
              clear hta htb he2 hte hse hop
              go_wp2_with fail
              go_quiet (fail)
              obtain ⟨WQ, hWQ⟩ : ∃ WQ, (WO.drewN mm).drewN nq = WQ := ⟨_, rfl⟩
              rw [hWQ]
              have bQ : Below w.heap.size w WQ := hWQ ▸ below_drewN (bq mm) nq
              have nQ : Below N w11 WQ := hWQ ▸ below_drewN (nq2 mm) nq
              clear hWQ bq nq2 cX cS2 HOPS
              have xQ := x11.below nQ
              have yQ := y11.below nQ
              have hQ := Nat.le_trans hN11 nQ.size
              have CA := Lib.hid (iSumOf_any xs bs ((k : Int) + 1) N (.slice (some ⟨g1, 0, none⟩) xs.length c1) (.slice (some ⟨g2, 0, none⟩) bs.length c2) WQ (HV.out _ bQ) xQ yQ hQ HXS.out (by omega) HBS.out)
              rw [HA1.out] at CA
              have CB := Lib.hid (fun W V h1 h2 h3 => iSumOf_any xs bs e2 N (.slice (some ⟨g1, 0, none⟩) xs.length c1) (.slice (some ⟨g2, 0, none⟩) bs.length c2) W V h1 h2 h3 HXS.out (by omega) HBS.out)
              rw [HB1.out] at CB
              unfold RdLt at CA CB
              clear HA1 HB1
              generalize (evalT bs ta).getD 0 = va at CA HEV
              generalize (evalT bs ta).isSome = fa at CA HEV
              generalize (evalT bs tb).getD 0 = vb at CB HEV
              generalize (evalT bs tb).isSome = fb at CB HEV
              have CD := Lib.hid (fun W => sDid_any ((j : Int) + 1) va vb W)
              generalize didS ((j : Int) + 1) va vb = dd at CD HEV
              obtain ⟨z, th⟩ := dd
              go_wp2_with fail
              refine CA.out.mono ?_
              rintro e w16 ⟨rfl, b16⟩
              have x16 := xQ.below (b16.mono hQ)
              have y16 := yQ.below (b16.mono hQ)
              have h16 := Nat.le_trans hQ b16.size
              replace b16 := below_then bQ b16 (Nat.le_refl _)
              clear bQ nQ xQ yQ hQ CA
              go_wp2_with fail
              refine (sSumEnd_any N _ xs _ _ x16 h16 HXS.out (by omega)).mono ?_
              rintro e w17 ⟨rfl, b17⟩
              rw [HE2.out]
              have x17 := x16.below (b17.mono h16)
              have y17 := y16.below (b17.mono h16)
              have h17 := Nat.le_trans h16 b17.size
              replace b17 := below_then b16 b17 (Nat.le_refl _)
              clear b16 x16 y16 h16
              go_wp2_with fail
              refine (CB.out _ (HV.out _ b17) x17 y17 h17).mono ?_
              rintro e w18 ⟨rfl, b18⟩
              replace b18 := below_then b17 b18 (Nat.le_refl _)
              clear b17 x17 y17 h17 CB
              go_wp2_with fail
              refine (CD.out _).mono ?_
              rintro e w' ⟨rfl, rfl⟩
              obtain ⟨hv1, hv2⟩ := HEV.out
              have HV1 := Lib.hid hv1
              have HV2 := Lib.hid hv2
              clear hv1 hv2 HEV CD
              cases fa <;> cases fb <;> cases th
              all_goals first
                | exact Bool.noConfusion (show true = false from HV1.out)
                | exact Bool.noConfusion (show false = true from HV1.out)
                | skip
              all_goals (
                go_wp2_with fail
                go_ret
                exact ⟨rfl, b18⟩)
          · have hS0 : opN s = 0 := ops_none (fun x hx e => by
              obtain ⟨i, hi, e2⟩ := List.getElem_of_mem hx
              have hi6 : i < 6 := hi
              exact HNO.out i (by omega) (by rw [List.getElem?_eq_getElem hi, e2, e]))
            have hyy : (evalT bs t).isSome = true := by
              cases t with
              | leaf s' => rfl
              | op s' ta tb =>
                obtain ⟨q1, q2, _⟩ := at_op HT.out
                rw [HS0.out] at q1
                injection q1 with q1
                subst q1
                exact absurd hS0 q2
            rw [← HRT.out, HRY.out] at hyy
            first
              | cases hyy; done
              | (go_wp2_with fail
                 go_ret
                 exact ⟨rfl, below_drewN bO2 _⟩)
  · skip
    go_wp2_with fail
    go_loopw [14] (fun i wr => ∃ j : Nat, j ≤ m ∧ i = .int .i64 (j : Int) ∧ Below w.heap.size w wr ∧ Below N w11 wr) (fun i _ => m - (intOf i).toNat)
    case atStart => exact ⟨0, Nat.zero_le _, rfl, b14, n14⟩
    case round =>
      obtain ⟨j, hj, rfl, bw, nw⟩ := hrel
      have hNw := Nat.le_trans hN11 nw.size
      by_cases hjm : j < m
      · have hp := SeeV.part (hone.below nw) 0 j (by rw [List.length_map, HM.out]; omega)
        rw [Nat.add_zero, Nat.sub_zero, List.drop_zero, ← List.map_take] at hp
        have CP := Lib.hid (iSumEnd_any N _ (t.flat.take j) 0 wr (HV.out _ bw) hp hNw (fun s hs => HTS.out s (List.mem_of_mem_take hs)) (by rw [List.length_take]; omega))
        rw [end_part HT.out.1 (by rw [HM.out]; exact hjm)] at CP
        have hjc : j ≤ c1 - k := by omega
        clear hp
        go_wp2_with fail
        refine CP.out.mono ?_
        rintro e w15 ⟨rfl, b15⟩
        go_wp2_with fail
        go_roundw
        case rel => exact ⟨j + 1, by omega, by go_num, below_then bw b15 (Nat.le_refl _), nw.trans (b15.mono hNw)⟩
        case measure => simp [intOf]; omega
      · obtain ⟨wl, rfl⟩ : ∃ x, x = wr := ⟨_, rfl⟩
        obtain ⟨gs, os, eS, -, cS⟩ := tx_at (x11.below nw) HS0.out
        cases eS
        rw [Nat.zero_add] at cS
        have bO : Below wl.heap.size wl (wl.alloc (.cells #[str [43], str [45], str [42], str [47], str [60], str [61]] 9)) := (Below.refl _ _).alloc (Nat.le_refl _) _
        have cS2 := (bO.cell (p := ⟨g1, k, none⟩) (World.block_lt_of_cell? wl _ cS)).trans cS
        have HOPS : Hid (∀ j x, opsL[j]? = some x → (wl.alloc (.cells #[str [43], str [45], str [42], str [47], str [60], str [61]] 9)).cell? ⟨wl.heap.size, j, none⟩ = some (str x)) := Lib.hid (fun j x hx => by
          rw [cell_of_row _ _ j _ _ (0, 0) (heap_alloc_new _ _)]
          have : (opsL.map str)[j]? = some (str x) := by rw [List.getElem?_map, hx]; rfl
          rw [← this]
          simp [opsL])
        have bO2 := below_then bw bO (Nat.le_refl _)
        have nO := nw.trans (bO.mono hNw)
        go_wp2_with fail
        generalize wl.alloc _ = WO at cS2 HOPS bO2 nO ⊢
        generalize wl.heap.size = q at HOPS ⊢
        clear bO cS bw nw hNw
        go_loopw [16, 17, 18, 19, 20, 21, 22] (fun i _ _ _ _ _ _ wr => ∃ (j mm : Nat), j ≤ 6 ∧ i = .int .i64 (j : Int) ∧ (∀ i, i < j → ¬ opsL[i]? = some s) ∧ wr = WO.drewN mm) (fun i _ _ _ _ _ _ _ => 6 - (intOf i).toNat)
        case atStart => exact ⟨0, 0, Nat.zero_le _, rfl, fun i hi => by omega, rfl⟩
        case round =>
          obtain ⟨j, mm, hj6, rfl, hno, rfl⟩ := hrel
          have HNO := Lib.hid hno
          clear hno
          by_cases hj : j < 6
          · obtain ⟨x, hxj⟩ : ∃ x, opsL[j]? = some x := ⟨_, List.getElem?_eq_getElem (show j < opsL.length from hj)⟩
            have cX := HOPS.out j x hxj
            have HXJ := Lib.hid hxj
            clear hxj
            cases hsx : (s == x)
            · have HE2 : Hid (∀ i, i < j + 1 → ¬ opsL[i]? = some s) := Lib.hid (fun i hi h => by
                by_cases e : i = j
                · subst e
                  have := HXJ.out.symm.trans h
                  injection this with this
                  rw [this] at hsx
                  simp at hsx
                · exact HNO.out i (by omega) h)
              go_wp2_with fail
              go_quiet (fail)
              go_wp2_with fail
              go_roundw
              case rel => exact ⟨j + 1, _, by omega, by go_num, HE2.out, rfl⟩
              case measure => simp [intOf]; omega
            · have hse : s = x := by simpa using hsx
              have hop := ops_at HXJ.out
              rw [← hse] at hop
              obtain ⟨ta, tb, hte⟩ : ∃ ta tb, t = .op s ta tb := by
                cases t with
                | leaf s' =>
                  obtain ⟨q1, q2, _⟩ := at_leaf HT.out
                  rw [HS0.out] at q1
                  injection q1 with q1
                  rw [← q1] at q2
                  omega
                | op s' ta tb =>
                  obtain ⟨q1, _, _⟩ := at_op HT.out
                  rw [HS0.out] at q1
                  injection q1 with q1
                  rw [← q1]
                  exact ⟨ta, tb, rfl⟩
              obtain ⟨_, _, hta, htb⟩ := at_op (show SumAt xs k (.op s ta tb) from hte ▸ HT.out)
              have HEV := Lib.hid (eval_op (bs := bs) (s := s) (a := ta) (b := tb))
              rw [← hte, ← HRT.out, HRY.out, HRX.out, hop] at HEV
              have HA1 : Hid (sumOfS xs ((k : Int) + 1) bs = evalT bs ta) := Lib.hid (by
                have := sumOf_tree hta HOK.out
                rwa [show ((k + 1 : Nat) : Int) = (k : Int) + 1 by omega] at this)
              obtain ⟨e2, he2⟩ : ∃ e2 : Int, sumEndS xs ((k : Int) + 1) = e2 := ⟨_, rfl⟩
              have HB1 : Hid (sumOfS xs e2 bs = evalT bs tb) := Lib.hid (by
                have h1 := sum_end hta
                rw [show ((k + 1 : Nat) : Int) = (k : Int) + 1 by omega, he2] at h1
                rw [h1]
                exact sumOf_tree htb HOK.out)
              have HE2 := Lib.hid he2
              have bq : ∀ n, Below w.heap.size w (WO.drewN n) := fun n => below_drewN bO2 n
              have nq2 : ∀ n, Below N w11 (WO.drewN n) := fun n => below_drewN nO n
              clear hta htb he2 hte hse hop
              go_wp2_with fail
              go_quiet (fail)
              obtain ⟨WQ, hWQ⟩ : ∃ WQ, (WO.drewN mm).drewN nq = WQ := ⟨_, rfl⟩
              rw [hWQ]
              have bQ : Below w.heap.size w WQ := hWQ ▸ below_drewN (bq mm) nq
              have nQ : Below N w11 WQ := hWQ ▸ below_drewN (nq2 mm) nq
              clear hWQ bq nq2 cX cS2 HOPS
              have xQ := x11.below nQ
              have yQ := y11.below nQ
              have hQ := Nat.le_trans hN11 nQ.size
              have CA := Lib.hid (iSumOf_any xs bs ((k : Int) + 1) N (.slice (some ⟨g1, 0, none⟩) xs.length c1) (.slice (some ⟨g2, 0, none⟩) bs.length c2) WQ (HV.out _ bQ) xQ yQ hQ HXS.out (by omega) HBS.out)
              rw [HA1.out] at CA
              have CB := Lib.hid (fun W V h1 h2 h3 => iSumOf_any xs bs e2 N (.slice (some ⟨g1, 0, none⟩) xs.length c1) (.slice (some ⟨g2, 0, none⟩) bs.length c2) W V h1 h2 h3 HXS.out (by omega) HBS.out)
              rw [HB1.out] at CB
              unfold RdLt at CA CB
              clear HA1 HB1
              generalize (evalT bs ta).getD 0 = va at CA HEV
              generalize (evalT bs ta).isSome = fa at CA HEV
              generalize (evalT bs tb).getD 0 = vb at CB HEV
              generalize (evalT bs tb).isSome = fb at CB HEV
              have CD := Lib.hid (fun W => sDid_any ((j : Int) + 1) va vb W)
              generalize didS ((j : Int) + 1) va vb = dd at CD HEV
              obtain ⟨z, th⟩ := dd
              go_wp2_with fail
              refine CA.out.mono ?_
              rintro e w16 ⟨rfl, b16⟩
              have x16 := xQ.below (b16.mono hQ)
              have y16 := yQ.below (b16.mono hQ)
              have h16 := Nat.le_trans hQ b16.size
              replace b16 := below_then bQ b16 (Nat.le_refl _)
              clear bQ nQ xQ yQ hQ CA
              go_wp2_with fail
              refine (sSumEnd_any N _ xs _ _ x16 h16 HXS.out (by omega)).mono ?_
              rintro e w17 ⟨rfl, b17⟩
              rw [HE2.out]
              have x17 := x16.below (b17.mono h16)
              have y17 := y16.below (b17.mono h16)
              have h17 := Nat.le_trans h16 b17.size
              replace b17 := below_then b16 b17 (Nat.le_refl _)
              clear b16 x16 y16 h16
              go_wp2_with fail
              refine (CB.out _ (HV.out _ b17) x17 y17 h17).mono ?_
              rintro e w18 ⟨rfl, b18⟩
              replace b18 := below_then b17 b18 (Nat.le_refl _)
              clear b17 x17 y17 h17 CB
              go_wp2_with fail
              refine (CD.out _).mono ?_
              rintro e w' ⟨rfl, rfl⟩
              obtain ⟨hv1, hv2⟩ := HEV.out
              have HV1 := Lib.hid hv1
              have HV2 := Lib.hid hv2
              clear hv1 hv2 HEV CD
              cases fa <;> cases fb <;> cases th
              all_goals first
                | exact Bool.noConfusion (show true = false from HV1.out)
                | exact Bool.noConfusion (show false = true from HV1.out)
                | skip
              have hzz : rx = z := HV2.out trivial
              subst hzz
              go_wp2_with fail
              go_ret
              exact ⟨rfl, b18⟩
          · have hS0 : opN s = 0 := ops_none (fun x hx e => by
              obtain ⟨i, hi, e2⟩ := List.getElem_of_mem hx
              have hi6 : i < 6 := hi
              exact HNO.out i (by omega) (by rw [List.getElem?_eq_getElem hi, e2, e]))
            have hyy : (evalT bs t).isSome = true := by
              cases t with
              | leaf s' => rfl
              | op s' ta tb =>
                obtain ⟨q1, q2, _⟩ := at_op HT.out
                rw [HS0.out] at q1
                injection q1 with q1
                subst q1
                exact absurd hS0 q2
            rw [← HRT.out, HRY.out] at hyy
            first
              | cases hyy; done
              | (go_wp2_with fail
                 go_ret
                 exact ⟨rfl, below_drewN bO2 _⟩)

end Go.Proofs.YtblnonlcjfcblaaGreatDoor
