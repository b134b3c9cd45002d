/- The walk of FnDeeds. Condition: the listed variables hold what the program's text lays (Vars). -/
import Derived.Test.YtbpgleebfiiggaaGreatDoorDeeQ
import Derived.Test.YtbpgleebfiiggaaGreatDoorListA
namespace Go.Proofs.YtbpgleebfiiggaaGreatDoor
open Go.RowKit
set_option linter.unusedVariables false

theorem gatesP_up (ss : List Txt) : (gatesP ss).Pairwise (· < ·) := by
  unfold gatesP
  split
  · exact riseG_up _
  · exact List.Pairwise.nil
theorem ris_gates (ss : List Txt) : risB (gatesP ss) = true := by
  unfold risB
  simp only [decide_eq_true_eq]
  intro k hk
  have h := List.pairwise_iff_getElem.1 (gatesP_up ss) k (k + 1) (by omega) hk (by omega)
  rw [List.getD_eq_getElem?_getD, List.getD_eq_getElem?_getD, List.getElem?_eq_getElem (show k < (gatesP ss).length by omega), List.getElem?_eq_getElem hk]
  exact h
theorem names_few (ss : List Txt) : (namesP ss).length ≤ 12 := by
  cases hp : playB ss with
  | false => rw [names_no7 hp]; simp
  | true =>
    obtain ⟨_, D, a, g, _, _, hL, h12⟩ := play_open hp
    rw [names_yes7 hp hL]
    exact h12
theorem deeds_one {ss : List Txt} {k e D : Nat} (h : Deeds ss k e D) (hk : k ≠ e) : ∃ m D1 D2, One ss k m D1 ∧ Deeds ss m e D2 := by
  cases h with
  | nil => exact absurd rfl hk
  | flat hf r => exact ⟨_, _, _, .flat hf, r⟩
  | loop a b c d f r => exact ⟨_, _, _, .loop a b c d f, r⟩
  | fork a b c d f f2 d2 f3 r => exact ⟨_, _, _, .fork a b c d f f2 d2 f3, r⟩

set_option maxHeartbeats 8000000 in
set_option maxRecDepth 100000 in
theorem deeds_core (A : Option Addr) (n c : Nat) (w : World) (hs : SeeB w w.heap.size A n) (V : Vars w) :
    Calls Tryz.prog 4 #[.slice A n c] w fun e w' => e = .returned (.bool true) ∧ Below w.heap.size w w' := by
  by_cases hbig : 4096 < n
  · go_enter Tryz.func4, Tryz.ntmps4
    go_wp2_with fail
    refine (big_any A n c _ hs.1).mono ?_
    rintro e w' ⟨rfl, rfl⟩
    rw [decide_eq_true (by omega)]
    go_wp2_with fail
    go_ret
    exact ⟨rfl, Below.refl _ _⟩
  go_enter Tryz.func4, Tryz.ntmps4
  go_wp2_with fail
  refine (big_any A n c _ hs.1).mono ?_
  rintro e w' ⟨rfl, rfl⟩
  rw [decide_eq_false (by omega)]
  go_wp2_with fail
  refine (drawDeedEnd_any A n c (by omega) _ hs).mono ?_
  rintro e w1 ⟨gq, cq, qs, a, rfl, sq, hql, hqu, hqh, ha0, ha1, b1⟩
  have hQS := upTo_short hqu
  have hqn : qs.length ≤ 1048576 := by omega
  have hs1 := (hs.keep fun p hp => b1.cell hp).more b1.size
  go_wp2_with fail
  refine (drawAllNames_any A n c (by omega) _ hs1).mono ?_
  rintro e w2 ⟨gl, cl, xs, rfl, sx, hxl, hxu, hxh, b2⟩
  have hXS := upTo_short hxu
  have hxn : xs.length ≤ 1048576 := by omega
  replace sq := sq.next b2
  have bb := below_then b1 b2 (Nat.le_refl _)
  clear b1 b2 hs1 hxu hqu hs
  go_wp2_with fail
  refine (iAllNames_any _ _ xs _ (V.below bb) sx (Nat.le_refl _) hXS hxn).mono ?_
  rintro e w3 ⟨vn, rfl, on, b3⟩
  replace sq := sq.next b3
  replace sx := sx.next b3
  replace bb := below_then bb b3 (Nat.le_refl _)
  have sn := on.see
  obtain ⟨An, cn, en⟩ := strs_shape sn
  subst en
  clear b3 on
  go_wp2_with fail
  refine (iGatesIn_any _ _ xs _ (V.below bb) sx (Nat.le_refl _) hXS hxn).mono ?_
  rintro e w4 ⟨vg, rfl, og, b4⟩
  replace sq := sq.next b4
  replace sx := sx.next b4
  replace sn := sn.next b4
  replace bb := below_then bb b4 (Nat.le_refl _)
  have sg := og.see
  obtain ⟨Ag, cg, eg⟩ := sg.shape
  subst eg
  clear b4 og
  go_wp2_with fail
  refine (iDeedEnd_any _ _ qs a _ (V.below bb) sq (Nat.le_refl _) hQS hqn ha0 ha1).mono ?_
  rintro e w5 ⟨z, rfl, hz, b5⟩
  replace sq := sq.next b5
  replace sx := sx.next b5
  replace sn := sn.next b5
  replace sg := (sg.below b5).more b5.size
  replace bb := below_then bb b5 (Nat.le_refl _)
  clear b5
  go_wp2_with fail
  refine (sDeedEnd_any _ _ qs a _ sq (Nat.le_refl _) hQS hqn hqh ha0 ha1).mono ?_
  rintro e w6 ⟨z', rfl, hz', b6⟩
  obtain rfl := hz.det hz'
  replace sx := sx.next b6
  replace sn := sn.next b6
  replace sg := (sg.below b6).more b6.size
  replace bb := below_then bb b6 (Nat.le_refl _)
  clear b6 hz hz' sq ha0 ha1 hqh
  go_wp2_with fail
  refine (sAllNames_any _ _ xs _ sx (Nat.le_refl _) hXS hxn).mono ?_
  rintro e w7 ⟨vm, rfl, om, b7⟩
  replace sx := sx.next b7
  replace sn := sn.next b7
  replace sg := (sg.below b7).more b7.size
  replace bb := below_then bb b7 (Nat.le_refl _)
  have sm := om.see
  obtain ⟨Am, cm, em⟩ := strs_shape sm
  subst em
  clear b7 om
  go_wp2_with fail
  refine (likeTexts_any _ _ _ _ _ _ sn sm).mono ?_
  rintro e w8 ⟨rfl, n8, rfl⟩
  rw [eqT_same]
  have b8 := below_drewN (Below.refl w7.heap.size w7) n8
  replace sx := sx.next b8
  replace sg := (sg.below b8).more b8.size
  replace bb := below_then bb b8 (Nat.le_refl _)
  clear b8 sm
  generalize w7.drewN n8 = w8 at *
  go_wp2_with fail
  refine (sGatesIn_any _ _ xs _ sx (Nat.le_refl _) hXS hxn).mono ?_
  rintro e w9 ⟨vh, rfl, oh, b9⟩
  replace sx := sx.next b9
  replace sg := (sg.below b9).more b9.size
  replace bb := below_then bb b9 (Nat.le_refl _)
  have sh := oh.see
  obtain ⟨Ah, ch, eh⟩ := sh.shape
  subst eh
  clear b9 oh
  go_wp2_with fail
  refine (likeInts_any _ _ _ _ _ _ sg sh).mono ?_
  rintro e w10 ⟨rfl, n10, rfl⟩
  rw [eqI_same]
  have b10 := below_drewN (Below.refl w9.heap.size w9) n10
  replace sx := sx.next b10
  replace sg := (sg.below b10).more b10.size
  replace bb := below_then bb b10 (Nat.le_refl _)
  clear b10 sh
  generalize w9.drewN n10 = w10 at *
  go_wp2_with fail
  refine (rises_any _ _ _ _ sg).mono ?_
  rintro e w11 ⟨rfl, n11, rfl⟩
  rw [ris_gates]
  have b11 := below_drewN (Below.refl w10.heap.size w10) n11
  replace sx := sx.next b11
  replace sg := (sg.below b11).more b11.size
  replace bb := below_then bb b11 (Nat.le_refl _)
  clear b11
  generalize w10.drewN n11 = w11 at *
  go_wp2_with fail
  refine (sPlayOk_any _ _ xs _ sx (Nat.le_refl _) hXS hxn).mono ?_
  rintro e w12 ⟨rfl, b12⟩
  replace sx := sx.next b12
  replace sg := (sg.below b12).more b12.size
  replace bb := below_then bb b12 (Nat.le_refl _)
  clear b12
  have hnf := names_few xs
  have HNO := Lib.hid (fun h => names_no7 (ss := xs) h)
  have HGO := Lib.hid (fun h => gates_no7 (ss := xs) h)
  generalize namesP xs = ns at *
  have HSG : Hid (∀ W, Below w12.heap.size w12 W → ∀ x, x ∈ gatesP xs → Calls Tryz.prog 27 #[.slice Ag (gatesP xs).length cg, .int .i64 x] W fun e w' => e = .returned (.bool true) ∧ W = w') := Lib.hid (fun W b x hx => (hasInt_any _ _ _ x W ((sg.below b).more b.size)).mono fun e w' ⟨h1, h2⟩ => ⟨by rw [h1]; unfold hasI; rw [decide_eq_true hx], h2⟩)
  obtain ⟨GS, hGS⟩ : ∃ G, gatesP xs = G := ⟨_, rfl⟩
  clear sg
  rw [hGS] at HSG HGO ⊢
  cases hp : playB xs with
  | false =>
    have e1 := HNO.out hp
    have e2 := HGO.out hp
    subst e1 e2
    go_wp2_with fail
    go_ret
    exact ⟨ret_bool (by simp), bb⟩
  | true =>
    obtain ⟨_, DD, aa, gg, hD0, _, _, _⟩ := play_open hp
    have HP := Lib.hid hp
    have HBB := Lib.hid bb
    have HSX := Lib.hid sx
    have hcap : xs.length ≤ cl := by
      obtain ⟨_, A', c', he, hc, _⟩ := sx
      injection he with _ _ e3
      subst e3
      rw [List.length_map] at hc
      exact hc
    have D0 : Hid (∃ D, Deeds xs 0 0 D) := Lib.hid ⟨0, .nil 0⟩
    have D9 : Hid (∃ D, Deeds xs 0 xs.length D) := Lib.hid ⟨DD, hD0⟩
    clear hp hD0 sx bb HNO HGO sn
    go_wp2_with fail
    go_loopw [8] (fun i wr => ∃ k : Nat, k ≤ xs.length ∧ i = .int .i64 k ∧ Hid (∃ D, Deeds xs 0 k D) ∧ Hid (∃ D, Deeds xs k xs.length D) ∧ Below w12.heap.size w12 wr) (fun i _ => xs.length - (intOf i).toNat)
    case atStart => exact ⟨0, Nat.zero_le _, rfl, D0, D9, Below.refl _ _⟩
    case round =>
      clear D0 D9
      obtain ⟨k, hk, rfl, E0, E9, hbw⟩ := hrel
      obtain ⟨wo, rfl⟩ : ∃ x, x = wr := ⟨_, rfl⟩
      by_cases hlt : k < xs.length
      · obtain ⟨D, hD⟩ := E9.out
        obtain ⟨m, D1, D2, hO, hR⟩ := deeds_one hD (by omega)
        have hOl := hO.lt
        have HPD := play_deed HP.out E0.out hO ⟨D2, hR⟩
        have HO := Lib.hid hO
        have F0 : Hid (∃ D, Deeds xs 0 m D) := Lib.hid (by obtain ⟨D', h'⟩ := E0.out; exact ⟨_, h'.snoc hO⟩)
        have F9 : Hid (∃ D, Deeds xs m xs.length D) := Lib.hid ⟨D2, hR⟩
        have hts : ((xs.drop k).take (m - k)).length = m - k := by simp; omega
        have htS : shortS ((xs.drop k).take (m - k)) := fun s h => hXS s (List.mem_of_mem_drop (List.mem_of_mem_take h))
        have sxo := HSX.out.next hbw
        have bbo := below_then HBB.out hbw (Nat.le_refl _)
        clear hD hR hO E0 E9
        go_wp2_with fail
        refine (iDeedEnd_any _ _ xs (k : Int) _ (V.below bbo) sxo (Nat.le_refl _) hXS hxn (by omega) (by omega)).mono ?_
        rintro e wA ⟨z, rfl, hz, bA⟩
        obtain rfl := hz.det (.inl ⟨k, m, D1, rfl, HO.out, rfl⟩)
        have sxA := sxo.next bA
        have bbA := below_then bbo bA (Nat.le_refl _)
        have hbA := below_then hbw bA (Nat.le_refl _)
        clear hz bA sxo bbo hbw HO
        have hone := SeeV.part sxA k (m - k) (by rw [List.length_map]; omega)
        rw [Nat.zero_add, show ((xs.map str).drop k).take (m - k) = ((xs.drop k).take (m - k)).map str by rw [← List.map_drop, ← List.map_take]] at hone
        generalize (xs.drop k).take (m - k) = ts at hts htS hone HPD
        have HTP := Lib.hid HPD.1
        have HTG := Lib.hid HPD.2
        have hck : ¬ cl = k := by omega
        have hk1 : (k : Int) ≤ (m : Int) := by omega
        have hk2 : (m : Int) ≤ cl := by omega
        have hk3 : m ≤ cl := by omega
        have hmk : ¬ (m : Int) ≤ (k : Int) := by omega
        clear HPD sxA
        go_wp2_with fail
        refine (iPlayOk_any _ _ ts _ (V.below bbA) hone (Nat.le_refl _) htS (by omega)).mono ?_
        rintro e wB ⟨rfl, bB⟩
        rw [HTP.out]
        have honB := hone.next bB
        have bbB := below_then bbA bB (Nat.le_refl _)
        have hbB := below_then hbA bB (Nat.le_refl _)
        clear hone bB bbA hbA HTP
        go_wp2_with fail
        refine (iGatesIn_any _ _ ts _ (V.below bbB) honB (Nat.le_refl _) htS (by omega)).mono ?_
        rintro e wC ⟨vs, rfl, os, bC⟩
        have bbC := below_then bbB bC (Nat.le_refl _)
        have hbC := below_then hbB bC (Nat.le_refl _)
        have ss := os.see
        generalize gatesP ts = gs at os ss HTG
        obtain ⟨As, cs, es⟩ := ss.shape
        subst es
        have hgm := ss.1
        unfold maxLen at hgm
        clear honB bC bbB hbB os
        rw [hGS] at HTG
        go_wp2_with fail
        go_loopw [11] (fun i W => ∃ j : Nat, j ≤ gs.length ∧ i = .int .i64 j ∧ W = wC) (fun i _ => gs.length - (intOf i).toNat)
        case atStart => exact ⟨0, Nat.zero_le _, rfl, rfl⟩
        case round =>
          obtain ⟨j, hj, rfl, rfl⟩ := hrel
          by_cases hjl : j < gs.length
          · obtain ⟨g, o, y, rfl, -, hy, hcy⟩ := ss.at_ hjl
            have HH := Lib.hid (HSG.out _ hbC y (HTG.out y (List.mem_of_getElem? hy)))
            clear hy
            go_wp2_with fail
            refine HH.out.mono ?_
            rintro e wE ⟨rfl, rfl⟩
            go_wp2_with fail
            go_roundw
            case rel => exact ⟨j + 1, by omega, by go_num, by first | rfl | trivial⟩
            case measure => simp [intOf]; omega
          · obtain rfl : j = gs.length := by omega
            go_wp2_with fail
            go_roundw
            case rel => exact ⟨m, by omega, rfl, F0, F9, hbC⟩
            case measure => simp [intOf]; omega
      · obtain rfl : k = xs.length := by omega
        have bbo := below_then HBB.out hbw (Nat.le_refl _)
        go_wp2_with fail
        go_ret
        exact ⟨ret_bool (by simp <;> omega), bbo⟩

end Go.Proofs.YtbpgleebfiiggaaGreatDoor
