/- The model's ShowOrder. -/
import Derived.Test.YtkpaidadofmpfaaDoorShowA
import Derived.Test.YtkpaidadofmpfaaDoorWordsA
import Derived.Test.YtkpaidadofmpfaaDoorOrdF
namespace Go.Proofs.YtkpaidadofmpfaaDoor
open Go.RowKit
set_option linter.unusedVariables false

theorem lineT_succ (p : Nat → Bool) (k : Nat) : lineT p (k + 1) = lineT p k ++ [if p k then 49 else 48] := by simp [lineT, List.range_succ]
theorem Tryd.infoByte : (Tryd.prog.info? 5).map (fun i => (i.zero, i.size, i.bytes)) = some (some (.int .u8 0), 1, 1) := by kernel_rfl

set_option maxHeartbeats 4000000 in
set_option maxRecDepth 100000 in
theorem l2Show_any (B : Nat) (v : Value) (us : List Int) (h6 : us.length ≤ 6) (w : World) (hs : SeeI w B v us) (hB : B ≤ w.heap.size) : Calls Tryd.prog 28 #[.agg #[v]] w (StrOf w (Lib.join (rowsT us) [47])) := by
  obtain ⟨A, c, rfl⟩ := hs.shape
  obtain ⟨i0, hi, hz0, hz1, hz2⟩ := info_parts Tryd.infoStr
  obtain ⟨k0, ki, kz0, kz1, kz2⟩ := info_parts Tryd.infoByte
  have hs1 := (hs.alloc hB (.cells #[.slice A us.length c] 26)).alloc (by simp; omega) (.cells #[] 9)
  have c0 : ((w.alloc (.cells #[.slice A us.length c] 26)).alloc (.cells #[] 9)).cell? ⟨w.heap.size, 0, none⟩ = some (.slice A us.length c) := by
    rw [World.cell?_alloc_lt _ _ _ (by simp)]
    exact cell_of_row _ _ 0 _ _ (0, 0) (heap_alloc_new _ _)
  have b0 : Below w.heap.size w ((w.alloc (.cells #[.slice A us.length c] 26)).alloc (.cells #[] 9)) := ((Below.refl _ _).alloc (Nat.le_refl _) _).alloc (by simp) _
  have o0 := OwnV.empty (w.alloc (.cells #[.slice A us.length c] 26)) (w.heap.size + 1) 9 (by simp)
  rw [World.size_alloc] at o0
  go_enter Tryd.func28, Tryd.ntmps28
  go_wp2_with fail
  generalize (World.alloc _ _).alloc _ = W at hs1 c0 b0 o0 ⊢
  go_loopw [3, 4] (fun v i wr => ∃ k : Nat, k ≤ us.length ∧ i = .int .i64 k ∧ OwnV wr (w.heap.size + 1) 9 v (((rowsT us).take k).map str) ∧ wr.cell? ⟨w.heap.size, 0, none⟩ = some (.slice A us.length c) ∧ SeeI wr B (.slice A us.length c) us ∧ Below w.heap.size w wr ∧ w.heap.size < wr.heap.size) (fun _ i _ => us.length - (intOf i).toNat)
  case atStart => exact ⟨0, Nat.zero_le _, rfl, o0, c0, hs1, b0, World.block_lt_of_cell? _ _ c0⟩
  case round =>
    obtain ⟨k, hk, rfl, ho, c1, s1, b1, g1⟩ := hrel
    clear hs1 c0 b0 o0
    obtain ⟨wo, rfl⟩ : ∃ x, x = wr := ⟨_, rfl⟩
    by_cases hlt : k < us.length
    · have HR := Lib.hid (rowsT_at us k hlt)
      have hlr : (((rowsT us).take k).map str).length = k := by rw [List.length_map, List.length_take, rowsT_len]; omega
      generalize hxs : ((rowsT us).take k).map str = xs at ho hlr
      have HXS := Lib.hid hxs
      have HLR := Lib.hid hlr
      clear hlr hxs
      have HM : Hid (((rowsT us).take (k + 1)).map str = xs ++ [str (lineT (upB us k) us.length)]) := Lib.hid (by rw [List.take_add_one, HR.out, List.map_append, HXS.out]; rfl)
      have c2 : (wo.alloc (.cells #[] 5)).cell? ⟨w.heap.size, 0, none⟩ = some (.slice A us.length c) := (World.cell?_alloc_lt _ _ _ (by simpa using g1)).trans c1
      have s2 := s1.alloc (by omega) (.cells #[] 5)
      have p0 := OwnV.empty wo wo.heap.size 5 (Nat.le_refl _)
      have q0 : Below wo.heap.size wo (wo.alloc (.cells #[] 5)) := (Below.refl _ _).alloc (Nat.le_refl _) _
      go_wp2_with fail
      go_loopw [5, 6] (fun b i ws => ∃ j : Nat, j ≤ us.length ∧ i = .int .i64 j ∧ OwnV ws wo.heap.size 5 b ((lineT (upB us k) j).map byte) ∧ Below wo.heap.size wo ws) (fun _ i _ => us.length - (intOf i).toNat)
      case atStart => exact ⟨0, Nat.zero_le _, rfl, p0, q0⟩
      case round =>
        obtain ⟨j, hj, rfl, hp, hq⟩ := hrel
        clear p0 q0 c2 s2
        have c3 := (hq.cell (p := ⟨w.heap.size, 0, none⟩) (by simpa using g1)).trans c1
        have s3 := s1.below (hq.mono (by omega))
        have z3 := hq.size
        by_cases hjl : j < us.length
        · obtain ⟨g, o, u, rfl, -, hu, hcu⟩ := s3.at_ hlt
          have HU : Hid (upB us k j = bitB u j) := Lib.hid (by simp [upB, hu])
          clear hu
          have hlp : ((lineT (upB us k) j).map byte).length = j := by rw [List.length_map, lineT_len]
          have HS := Lib.hid (lineT_succ (upB us k) j)
          generalize hys : (lineT (upB us k) j).map byte = ys at hp hlp
          have HYS := Lib.hid hys
          have HLP := Lib.hid hlp
          clear hys hlp
          cases hbit : bitB u j
          · have HN : Hid ((lineT (upB us k) (j + 1)).map byte = ys ++ [.int .u8 48]) := Lib.hid (by rw [HS.out, List.map_append, HYS.out, HU.out, hbit]; rfl)
            go_wp2_with fail
            refine (l1Has_any _ _ (by omega) (by omega) _).mono ?_
            rintro e w' ⟨rfl, rfl⟩
            rw [hbit]
            go_wp2_with (at_builtin; refine wpList_append_own _ rfl _ _ 22 rfl wo.heap.size 5 k0 (.int .u8 0) 1 1 Tryd.underlying22 ki kz0 kz1 kz2 rfl (by decide) _ _ _ rfl (hp.alloc _) ⟨wr.heap.size, 0, none⟩ 1 1 [.int .u8 48] rfl rfl ?c1 ?c2 ?c3 ?c4 ?c5 ?_)
            case c1 =>
              intro j u hj
              match j, hj with
              | 0, hj => simp at hj; subst hj; simp [Addr.add]
            case c2 => intro u hu; simp at hu; subst hu; rfl
            case c3 => unfold maxLen; have := HLP.out; omega
            case c4 => have := HLP.out; omega
            case c5 => simp; omega
            intro v' w4 hown' hgrow _
            obtain ⟨a1, a2⟩ := OwnV.push hq (Nat.le_refl _) hp hown' hgrow
            clear hown' hgrow hp hq c3 s3
            go_wp2
            go_roundw
            case rel => exact ⟨j + 1, by omega, by go_num, by rw [HN.out]; exact a1, a2⟩
            case measure => simp [intOf]; omega
          · have HN : Hid ((lineT (upB us k) (j + 1)).map byte = ys ++ [.int .u8 49]) := Lib.hid (by rw [HS.out, List.map_append, HYS.out, HU.out, hbit]; rfl)
            go_wp2_with fail
            refine (l1Has_any _ _ (by omega) (by omega) _).mono ?_
            rintro e w' ⟨rfl, rfl⟩
            rw [hbit]
            go_wp2_with (at_builtin; refine wpList_append_own _ rfl _ _ 22 rfl wo.heap.size 5 k0 (.int .u8 0) 1 1 Tryd.underlying22 ki kz0 kz1 kz2 rfl (by decide) _ _ _ rfl (hp.alloc _) ⟨wr.heap.size, 0, none⟩ 1 1 [.int .u8 49] rfl rfl ?d1 ?d2 ?d3 ?d4 ?d5 ?_)
            case d1 =>
              intro j u hj
              match j, hj with
              | 0, hj => simp at hj; subst hj; simp [Addr.add]
            case d2 => intro u hu; simp at hu; subst hu; rfl
            case d3 => unfold maxLen; have := HLP.out; omega
            case d4 => have := HLP.out; omega
            case d5 => simp; omega
            intro v' w4 hown' hgrow _
            obtain ⟨a1, a2⟩ := OwnV.push hq (Nat.le_refl _) hp hown' hgrow
            clear hown' hgrow hp hq c3 s3
            go_wp2
            go_roundw
            case rel => exact ⟨j + 1, by omega, by go_num, by rw [HN.out]; exact a1, a2⟩
            case measure => simp [intOf]; omega
        · obtain rfl : j = us.length := by omega
          have hcv := conv_back (P := Tryd.prog) wr 22 9 5 _ _ _ Tryd.underlying22 Tryd.underlying5 Tryd.underlying9 hp.see
          have o3 := ho.later hq
          have b3 := below_then b1 hq (Nat.le_refl _)
          clear ho hp
          go_wp2_with (at_builtin; refine wpList_append_own _ rfl _ _ 40 rfl (w.heap.size + 1) 9 i0 (.string ⟨#[]⟩) 1 16 Tryd.underlying40 hi hz0 hz1 hz2 rfl (by decide) _ _ _ rfl (o3.alloc _) ⟨wr.heap.size, 0, none⟩ 1 1 [str (lineT (upB us k) us.length)] rfl rfl ?e1 ?e2 ?e3 ?e4 ?e5 ?_)
          case e1 =>
            intro j u hj
            match j, hj with
            | 0, hj => simp at hj; subst hj; simp [Addr.add]
          case e2 => intro u hu; simp at hu; subst hu; rfl
          case e3 => unfold maxLen; have := HLR.out; omega
          case e4 => have := HLR.out; omega
          case e5 => simp; omega
          intro v' w4 hown' hgrow _
          obtain ⟨a1, a2⟩ := OwnV.push (hq.mono g1) g1 o3 hown' hgrow
          have c5 := (a2.cell (p := ⟨w.heap.size, 0, none⟩) (by simp)).trans c1
          have s5 := s1.below (a2.mono (by omega))
          have b5 := b1.trans (a2.mono (by omega))
          have g5 := a2.size
          clear hown' hgrow o3 c3 s3 b3 hcv hq
          go_wp2
          go_roundw
          case rel => exact ⟨k + 1, by omega, by go_num, by rw [HM.out]; exact a1, c5, s5, b5, by omega⟩
          case measure => simp [intOf]; omega
    · obtain rfl : k = us.length := by omega
      have HW : Hid ((rowsT us).take us.length = rowsT us) := Lib.hid (List.take_of_length_le (by rw [rowsT_len]; exact Nat.le_refl _))
      rw [HW.out] at ho
      go_wp2_with fail
      refine (l1Words_any wo.heap.size _ (rowsT us) [47] _ ho.see (Nat.le_trans (join_len us h6) (by decide))).mono ?_
      rintro e w' ⟨rfl, rfl⟩
      go_wp2_with fail
      go_ret
      exact ⟨rfl, b1⟩

set_option maxHeartbeats 1000000 in
theorem sShowOrder_any (B : Nat) (v : Value) (us : List Int) (w : World) (hs : SeeI w B v us) (hB : B ≤ w.heap.size) : Calls Tryd.prog 11 #[.agg #[v]] w (StrOf w (showT us)) := by
  obtain ⟨A, c, rfl⟩ := hs.shape
  have hm := hs.1
  have hs1 := hs.alloc hB (.cells #[.slice A us.length c] 26)
  have c0 : (w.alloc (.cells #[.slice A us.length c] 26)).cell? ⟨w.heap.size, 0, none⟩ = some (.slice A us.length c) := cell_of_row _ _ 0 _ _ (0, 0) (heap_alloc_new _ _)
  have b0 : Below w.heap.size w (w.alloc (.cells #[.slice A us.length c] 26)) := (Below.refl _ _).alloc (Nat.le_refl _) _
  go_enter Tryd.func11, Tryd.ntmps11
  go_wp2_with fail
  generalize w.alloc _ = W at hs1 c0 b0 ⊢
  have g0 := World.block_lt_of_cell? _ _ c0
  simp at g0
  refine (sOrderOk_any B _ us _ hs1 (by omega)).mono ?_
  rintro e w1 ⟨rfl, hb1⟩
  have c1 := (hb1.cell (p := ⟨w.heap.size, 0, none⟩) (by simpa using g0)).trans c0
  have s1 := hs1.below (hb1.mono (by omega))
  have b1 := below_then b0 hb1 (Nat.le_refl _)
  have g1 := Nat.lt_of_lt_of_le g0 hb1.size
  clear hs1 c0 b0 hb1
  cases ho : ordS us
  · go_wp2_with fail
    go_ret
    exact ⟨by simp only [showT, ho]; rfl, b1⟩
  · have HL := Lib.hid (ord_len ho)
    have HT : Hid (showT us = Lib.join (rowsT us) [47]) := Lib.hid (by simp only [showT, ho, if_true])
    go_wp2_with fail
    refine (l2Show_any B _ us HL.out.2 _ s1 (by omega)).mono ?_
    rintro e w2 ⟨rfl, hb2⟩
    go_wp2_with fail
    go_ret
    exact ⟨by rw [HT.out]; rfl, below_then b1 hb2 (Nat.le_refl _)⟩

end Go.Proofs.YtkpaidadofmpfaaDoor
