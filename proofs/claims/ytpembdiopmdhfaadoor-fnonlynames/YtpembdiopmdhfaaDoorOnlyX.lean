/- The walk of FnOnlyNames. Condition: the listed variables hold what the program's text lays (Vars). -/
import Derived.Test.YtpembdiopmdhfaaDoorOnlyM
import Derived.Test.YtpembdiopmdhfaaDoorDrawW
import Derived.Test.YtpembdiopmdhfaaDoorSumJ
namespace Go.Proofs.YtpembdiopmdhfaaDoor
open Go.RowKit
set_option linter.unusedVariables false

theorem upB_short {bs : List Bx} (h : upB 10 bs) : shortB bs := fun b hb => Nat.le_trans (h b hb) (by omega)
theorem upTo_short {xs : List Txt} (h : upTo 30 xs) : shortS xs := fun s hs => Nat.le_trans (h s hs) (by omega)

theorem box_word {bs : List Bx} {k : Nat} {b : Bx} (h : boxesB bs = true) (hb : bs[k]? = some b) : wordB b.2 = true := by
  unfold boxesB boxesTo at h
  rw [Bool.and_eq_true] at h
  have := List.all_eq_true.1 h.1 k (List.mem_range.2 (List.getElem?_eq_some_iff.1 hb).1)
  unfold boxAt at this
  rw [hb] at this
  simp only [Bool.and_eq_true] at this
  exact this.2.1
theorem mem_take_succ {ns : List Txt} {j : Nat} {x nm : Txt} (hx : ns[j]? = some x) : nm ∈ ns.take (j + 1) ↔ nm ∈ ns.take j ∨ nm = x := by
  rw [List.take_add_one, hx, List.mem_append]
  simp

set_option maxHeartbeats 16000000 in
set_option maxRecDepth 100000 in
theorem only_core (A : Option Addr) (n c : Nat) (w : World) (hs : SeeB w w.heap.size A n) (V : Vars w) :
    Calls Tryd.prog 3 #[.slice A n c] w fun e w' => e = .returned (.bool true) ∧ Below w.heap.size w w' := by
  have hn := hs.1
  by_cases hbig : 4096 < n
  · have hd : decide (4096 < (n : Int)) = true := by simp; omega
    go_enter Tryd.func3, Tryd.ntmps3
    go_wp2_with fail
    refine (big_any _ _ _ _ hn).mono ?_
    rintro e w' ⟨rfl, rfl⟩
    go_wp2_with fail
    go_ret
    exact ⟨rfl, Below.refl _ _⟩
  have hd : decide (4096 < (n : Int)) = false := by simp; omega
  have HSB : Hid (∀ W, Below w.heap.size w W → SeeB W W.heap.size A n) := Lib.hid fun W h => (hs.keep fun p hp => h.cell hp).more h.size
  have HV : Hid (∀ W, Below w.heap.size w W → Vars W) := Lib.hid fun W h => V.below h
  have hn' : n ≤ 4096 := by omega
  clear hbig V
  go_enter Tryd.func3, Tryd.ntmps3
  go_wp2_with fail
  refine (big_any _ _ _ _ hn).mono ?_
  rintro e w' ⟨rfl, rfl⟩
  clear hn
  go_wp2_with fail
  refine (drawSumOf_any A n c hn' _ hs).mono ?_
  rintro e w1 ⟨g1, c1, xs, a, g2, c2, bs, rfl, x1, lx, ux, y1, lb, ub, b1⟩
  have hX := b1.size
  generalize hN : w1.heap.size = N at x1 y1 hX
  go_wp2_with fail
  refine (drawValueIn_any A n c hn' _ (HSB.out _ b1)).mono ?_
  rintro e w2 ⟨g3, c3, qs, t, rfl, q2, lq, uq, ht, b2⟩
  have x2 := x1.below (b2.mono (Nat.le_of_eq hN.symm))
  have y2 := y1.below (b2.mono (Nat.le_of_eq hN.symm))
  have hN2 : N ≤ w2.heap.size := by have := b2.size; omega
  replace b2 := below_then b1 b2 (Nat.le_refl _)
  clear b1 x1 y1 hN
  have HQ := Lib.hid q2
  clear q2
  go_wp2_with fail
  refine (iValueIn_any _ _ qs t _ HQ.out (Nat.le_refl _)).mono ?_
  rintro e w3 ⟨rfl, b3⟩
  generalize hvv : valueS qs t = vv
  have HVV := Lib.hid hvv
  clear hvv
  have q3 := HQ.out.below b3
  have x3 := x2.below (b3.mono hN2)
  have y3 := y2.below (b3.mono hN2)
  have h23 := b3.size
  replace b3 := below_then b2 b3 (Nat.le_refl _)
  clear b2 x2 y2
  go_wp2_with fail
  refine (sValueIn_any _ _ qs t _ q3).mono ?_
  rintro e w' ⟨rfl, rfl⟩
  rw [HVV.out]
  have hne : (vv != vv) = false := by simp
  go_wp2_with fail
  refine (iBoxesOk_any _ _ qs _ q3 h23 (upB_short uq)).mono ?_
  rintro e w4 ⟨rfl, b4⟩
  generalize hbb : boxesB qs = bb
  have HBB := Lib.hid hbb
  clear hbb
  have q4 := q3.below (b4.mono h23)
  have x4 := x3.below (b4.mono (by omega))
  have y4 := y3.below (b4.mono (by omega))
  have h24 := Nat.le_trans h23 b4.size
  replace b4 := below_then b3 b4 (Nat.le_refl _)
  clear b3 x3 y3 q3
  go_wp2_with fail
  refine (sBoxesOk_any _ _ qs _ q4 h24 (upB_short uq)).mono ?_
  rintro e w5 ⟨rfl, b5⟩
  rw [HBB.out]
  have hnb : (bb != bb) = false := by simp
  have x5 := x4.below (b5.mono (by omega))
  have y5 := y4.below (b5.mono (by omega))
  have hN5 : N ≤ w5.heap.size := by have := b5.size; omega
  replace b5 := below_then b4 b5 (Nat.le_refl _)
  clear b4 x4 y4 q4 HQ h24 h23 hN2
  have HXS := Lib.hid (upTo_short ux)
  have HBS := Lib.hid (upB_short ub)
  go_wp2_with fail
  refine (iSumOf_any xs bs a _ _ _ _ (HV.out _ b5) x5 y5 hN5 HXS.out (by omega) HBS.out).mono ?_
  rintro e w6 ⟨rfl, b6⟩
  have x6 := x5.below (b6.mono hN5)
  have y6 := y5.below (b6.mono hN5)
  have hN6 := Nat.le_trans hN5 b6.size
  replace b6 := below_then b5 b6 (Nat.le_refl _)
  clear b5 x5 y5 hN5
  have HON : Hid (∀ os, SameB (namesS xs a) bs os → boxesB bs = true → sumOfS xs a os = sumOfS xs a bs) := Lib.hid fun os h1 h2 => only_names h1 h2
  have HSO := Lib.hid (fun B v u W h1 h2 h3 => sSumOf_any xs bs a B v u W h1 h2 h3 HXS.out (by omega) HBS.out)
  generalize sumOfS xs a bs = R at HON HSO ⊢
  unfold RdLt at HSO
  generalize hx : R.getD 0 = rx at HSO ⊢
  generalize hy : R.isSome = ry at HSO ⊢
  have HRX := Lib.hid hx
  have HRY := Lib.hid hy
  clear hx hy
  go_wp2_with fail
  refine (HSO.out _ _ _ _ x6 y6 hN6).mono ?_
  rintro e w7 ⟨rfl, b7⟩
  have x7 := x6.below (b7.mono hN6)
  have y7 := y6.below (b7.mono hN6)
  have hN7 := Nat.le_trans hN6 b7.size
  replace b7 := below_then b6 b7 (Nat.le_refl _)
  clear b6 x6 y6 hN6 HSO
  have hnx : (rx != rx) = false := by simp
  have hny : (ry != ry) = false := by simp
  go_wp2_with fail
  refine (sBoxesOk_any _ _ bs _ y7 hN7 HBS.out).mono ?_
  rintro e w8 ⟨rfl, b8⟩
  have x8 := x7.below (b8.mono hN7)
  have y8 := y7.below (b8.mono hN7)
  have hN8 := Nat.le_trans hN7 b8.size
  replace b8 := below_then b7 b8 (Nat.le_refl _)
  clear b7 x7 y7 hN7
  cases hok : boxesB bs
  · go_wp2_with fail
    go_ret
    exact ⟨rfl, b8⟩
  have HOK := Lib.hid hok
  clear hok
  go_wp2_with fail
  refine (sNamesIn_any _ _ xs a _ x8 hN8 HXS.out (by omega)).mono ?_
  rintro e w9 ⟨g9, c9, rfl, o9, b9⟩
  have hln := Nat.le_trans (names_le xs a) lx
  generalize namesS xs a = ns at HON o9 hln
  have x9 := x8.below (b9.mono hN8)
  have y9 := y8.below (b9.mono hN8)
  have n9 := o9.see
  have hN9 := Nat.le_trans hN8 b9.size
  replace b9 := below_then b8 b9 (Nat.le_refl _)
  clear b8 x8 y8 hN8 o9
  have oE := OwnBx.empty w9 36
  have bE : Below w9.heap.size w9 (w9.alloc (.cells #[] 36)) := (Below.refl _ _).alloc (Nat.le_refl _) _
  go_wp2_with fail
  generalize w9.alloc _ = WE at oE bE ⊢
  generalize hM : w9.heap.size = M at oE bE n9 hN9 ⊢
  obtain ⟨i0, hi, hz0, hz1, hz2⟩ := info_parts Tryd.infoBox
  go_loopw [13, 14, 15, 16, 17] (fun v i _ _ _ wr => ∃ (k g' c' : Nat) (os : List Bx), k ≤ bs.length ∧ i = .int .i64 (k : Int) ∧ v = .slice (some ⟨g', 0, none⟩) os.length c' ∧ SameB ns (bs.take k) os ∧ OwnBx wr M 36 (.slice (some ⟨g', 0, none⟩) os.length c') os ∧ Below M w9 wr) (fun _ i _ _ _ _ => bs.length - (intOf i).toNat)
  case atStart => exact ⟨0, _, _, [], Nat.zero_le _, rfl, rfl, trivial, oE, bE⟩
  case round =>
    obtain ⟨k, g', c', os, hk, rfl, rfl, hsame, o, b⟩ := hrel
    have HSM := Lib.hid hsame
    have hol : os.length ≤ k := by have := hsame.len; rw [List.length_take] at this; omega
    clear hsame oE bE
    by_cases hlt : k < bs.length
    · have hxb := List.getElem?_eq_getElem hlt
      generalize bs[k] = bx at hxb
      have HBX := Lib.hid hxb
      obtain ⟨gq, oq, e, -, hc0, hc1⟩ := (y9.below (b.mono hN9)).at_ hxb
      cases e
      rw [Nat.zero_add] at hc0 hc1
      clear hxb
      obtain ⟨nm, vl⟩ := bx
      simp only at hc0 hc1
      obtain ⟨wo, rfl⟩ : ∃ x, x = wr := ⟨_, rfl⟩
      go_wp2_with fail
      clear hc0 hc1
      have bA : Below wo.heap.size wo (wo.alloc (.cells #[str nm, .int .i64 vl] 36)) := (Below.refl _ _).alloc (Nat.le_refl _) _
      have cA0 : (wo.alloc (.cells #[str nm, .int .i64 vl] 36)).cell? ⟨wo.heap.size, 0, none⟩ = some (str nm) := by rw [cell_of_row _ _ _ _ _ (0, 0) (heap_alloc_new _ _)]; rfl
      have cA1 : (wo.alloc (.cells #[str nm, .int .i64 vl] 36)).cell? ⟨wo.heap.size, 1, none⟩ = some (.int .i64 vl) := by rw [cell_of_row _ _ _ _ _ (0, 0) (heap_alloc_new _ _)]; rfl
      have fA1 : (wo.alloc (.cells #[str nm, .int .i64 vl] 36)).frozen? ⟨wo.heap.size, 1, none⟩ = false := frozen_row (heap_alloc_new _ _)
      have nA := n9.below (below_then b bA (Nat.le_of_eq hM.symm))
      generalize wo.alloc (.cells #[str nm, .int .i64 vl] 36) = WI at bA cA0 cA1 fA1 nA ⊢
      go_loopw [16, 17] (fun f i wr => ∃ (j m : Nat) (fl : Bool), j ≤ ns.length ∧ i = .int .i64 (j : Int) ∧ f = .bool fl ∧ fl = decide (nm ∈ ns.take j) ∧ wr = WI.drewN m) (fun _ i _ => ns.length - (intOf i).toNat)
      case atStart => exact ⟨0, 0, false, Nat.zero_le _, rfl, rfl, by simp, rfl⟩
      case round =>
        obtain ⟨j, m, fl, hj, rfl, rfl, hfl, rfl⟩ := hrel
        have HFL := Lib.hid hfl
        clear hfl
        by_cases hjl : j < ns.length
        · have hxj := List.getElem?_eq_getElem hjl
          generalize ns[j] = x at hxj
          obtain ⟨gn, on, e, -, hcn⟩ := tx_at nA hxj
          cases e
          rw [Nat.zero_add] at hcn
          have HXJ := Lib.hid hxj
          clear hxj
          cases fl with
          | true =>
            have HE : Hid (true = decide (nm ∈ ns.take (j + 1))) := Lib.hid (by
              symm
              rw [decide_eq_true_eq, mem_take_succ HXJ.out]
              exact .inl (of_decide_eq_true HFL.out.symm))
            go_wp2_with fail
            go_quiet (fail)
            go_wp2
            go_roundw
            case rel => exact ⟨j + 1, _, true, by omega, by go_num, rfl, HE.out, rfl⟩
            case measure => simp [intOf]; omega
          | false =>
            cases hxn : (x == nm)
            · have HE : Hid (false = decide (nm ∈ ns.take (j + 1))) := Lib.hid (by
                symm
                rw [decide_eq_false_iff_not, mem_take_succ HXJ.out]
                rintro (q | q)
                · exact of_decide_eq_false HFL.out.symm q
                · rw [q] at hxn; simp at hxn)
              go_wp2_with fail
              go_quiet (fail)
              go_wp2
              go_roundw
              case rel => exact ⟨j + 1, _, false, by omega, by go_num, rfl, HE.out, rfl⟩
              case measure => simp [intOf]; omega
            · have HE : Hid (true = decide (nm ∈ ns.take (j + 1))) := Lib.hid (by
                symm
                rw [decide_eq_true_eq, mem_take_succ HXJ.out]
                have hxe : x = nm := by simpa using hxn
                exact .inr hxe.symm)
              go_wp2_with fail
              go_quiet (fail)
              go_wp2
              go_roundw
              case rel => exact ⟨j + 1, _, true, by omega, by go_num, rfl, HE.out, rfl⟩
              case measure => simp [intOf]; omega
        · have HFN : Hid (fl = decide (nm ∈ ns)) := Lib.hid (by
            have := HFL.out
            rwa [List.take_of_length_le (by omega)] at this)
          have bD : Below wo.heap.size wo (WI.drewN m) := below_drewN bA m
          have cD0 : (WI.drewN m).cell? ⟨wo.heap.size, 0, none⟩ = some (str nm) := cA0
          have cD1 : (WI.drewN m).cell? ⟨wo.heap.size, 1, none⟩ = some (.int .i64 vl) := cA1
          have fD1 : (WI.drewN m).frozen? ⟨wo.heap.size, 1, none⟩ = false := fA1
          generalize WI.drewN m = WD at bD cD0 cD1 fD1 ⊢
          clear cA0 cA1 fA1 bA nA
          cases fl with
          | true =>
            have bI := bD
            clear fD1 bD
            have HWV := Lib.hid (box_word HOK.out HBX.out)
            simp only at HWV
            have o2 := OwnBx.later o bI
            have b2 := below_then b bI (Nat.le_of_eq hM.symm)
            have hsz2 := b2.size
            have hg2 := (o2.lt g' rfl).1
            have HSZ : Hid (M ≤ WD.heap.size) := Lib.hid (by omega)
            have HNW : Hid (∀ j u, [str nm, Value.int .i64 vl][j]? = some u → (WD.alloc (.cells #[str nm, .int .i64 vl] 36)).cell? ((⟨WD.heap.size, 0, none⟩ : Addr).add j) = some u) := Lib.hid (by have h := bx_new WD (str nm) (.int .i64 vl) 36; first | exact h | (simp only [World.size_setCell] at h; exact h))
            have o3 := o2.alloc (.cells #[str nm, .int .i64 vl] 36)
            have b3 := b2.alloc (by omega) (.cells #[str nm, .int .i64 vl] 36)
            have HSN : Hid (SameB ns (bs.take (k + 1)) (os ++ [(nm, vl)])) := Lib.hid (by
              rw [List.take_add_one, HBX.out]
              exact HSM.out.snoc rfl (fun _ => rfl) HWV.out)
            clear bI o2
            go_wp2_with first
              | (at_builtin; refine wpList_append_own _ rfl _ _ 25 rfl M 36 i0 (.agg #[.string ⟨#[]⟩, .int .i64 0]) 2 24 Tryd.underlying25 hi hz0 hz1 hz2 rfl (by decide) _ _ _ rfl o3.row ⟨WD.heap.size, 0, none⟩ 1 1 [str nm, .int .i64 vl] rfl rfl HNW.out (fun u hu => bx_one [(nm, vl)] u hu) (by unfold maxLen; omega) (by omega) (by have := HSZ.out; simp only [World.size_alloc]; omega) ?_; intro v6 w6 hown6 hgr6 hnil6; (obtain ⟨g6, c6, rfl, o6⟩ := bx_more (ys := [(nm, vl)]) o3 rfl hown6 hnil6))
            have b6 := b3.grown hgr6 (by have := HSZ.out; simp only [World.size_alloc]; omega) (fun i hi => by cases (show some g' = some i from hi); exact hg2)
            go_roundw
            case rel => exact ⟨k + 1, g6, c6, os ++ [(nm, vl)], by omega, by go_num, by rw [List.length_append]; rfl, HSN.out, o6, b6⟩
            case measure => simp [intOf]; omega
          | false =>
            go_wp2_with fail
            refine (pick_any A n c k hn' (by omega) _ (HSB.out _ (b9.trans ((below_then b bD (Nat.le_of_eq hM.symm)).mono (by omega))))).mono ?_
            rintro e w' ⟨⟨z, rfl, hzz0, hzz1⟩, rfl⟩
            have bI : Below wo.heap.size wo (WD.setCell ⟨wo.heap.size, 1, none⟩ (.int .i64 z)) := bD.setCell (p := ⟨wo.heap.size, 1, none⟩) (Nat.le_refl _) _
            have cE0 : (WD.setCell ⟨wo.heap.size, 1, none⟩ (.int .i64 z)).cell? ⟨wo.heap.size, 0, none⟩ = some (str nm) := by rw [World.cell?_setCell_other _ _ _ _ (by simp)]; exact cD0
            have cE1 : (WD.setCell ⟨wo.heap.size, 1, none⟩ (.int .i64 z)).cell? ⟨wo.heap.size, 1, none⟩ = some (.int .i64 z) := World.cell?_setCell_same' _ _ _ (by rw [cD1]; rfl)
            have HNN : Hid (¬ nm ∈ ns) := Lib.hid (of_decide_eq_false HFN.out.symm)
            have HWZ : Hid (wordB z = true) := Lib.hid (by unfold wordB inB; simp; omega)
            have o2 := OwnBx.later o bI
            have b2 := below_then b bI (Nat.le_of_eq hM.symm)
            have hsz2 := b2.size
            have hg2 := (o2.lt g' rfl).1
            have HSZ : Hid (M ≤ (WD.setCell ⟨wo.heap.size, 1, none⟩ (.int .i64 z)).heap.size) := Lib.hid (by omega)
            have HNW : Hid (∀ j u, [str nm, Value.int .i64 z][j]? = some u → ((WD.setCell ⟨wo.heap.size, 1, none⟩ (.int .i64 z)).alloc (.cells #[str nm, .int .i64 z] 36)).cell? ((⟨WD.heap.size, 0, none⟩ : Addr).add j) = some u) := Lib.hid (by have h := bx_new (WD.setCell ⟨wo.heap.size, 1, none⟩ (.int .i64 z)) (str nm) (.int .i64 z) 36; first | exact h | (simp only [World.size_setCell] at h; exact h))
            have o3 := o2.alloc (.cells #[str nm, .int .i64 z] 36)
            have b3 := b2.alloc (by omega) (.cells #[str nm, .int .i64 z] 36)
            have HSN : Hid (SameB ns (bs.take (k + 1)) (os ++ [(nm, z)])) := Lib.hid (by
              rw [List.take_add_one, HBX.out]
              exact HSM.out.snoc rfl (fun q => absurd q HNN.out) HWZ.out)
            clear bI o2
            go_wp2_with first
              | (at_builtin; refine wpList_append_own _ rfl _ _ 25 rfl M 36 i0 (.agg #[.string ⟨#[]⟩, .int .i64 0]) 2 24 Tryd.underlying25 hi hz0 hz1 hz2 rfl (by decide) _ _ _ rfl o3.row ⟨WD.heap.size, 0, none⟩ 1 1 [str nm, .int .i64 z] rfl rfl HNW.out (fun u hu => bx_one [(nm, z)] u hu) (by unfold maxLen; omega) (by omega) (by have := HSZ.out; simp only [World.size_alloc]; omega) ?_; intro v6 w6 hown6 hgr6 hnil6; (obtain ⟨g6, c6, rfl, o6⟩ := bx_more (ys := [(nm, z)]) o3 rfl hown6 hnil6))
            have b6 := b3.grown hgr6 (by have := HSZ.out; simp only [World.size_alloc]; omega) (fun i hi => by cases (show some g' = some i from hi); exact hg2)
            go_roundw
            case rel => exact ⟨k + 1, g6, c6, os ++ [(nm, z)], by omega, by go_num, by rw [List.length_append]; rfl, HSN.out, o6, b6⟩
            case measure => simp [intOf]; omega
    · obtain rfl : k = bs.length := by omega
      have HSE : Hid (SameB ns bs os) := Lib.hid (by have := HSM.out; rwa [List.take_of_length_le (Nat.le_refl _)] at this)
      have HSO := Lib.hid (HON.out os HSE.out HOK.out)
      have HUO := Lib.hid (upB_short (HSE.out.short ub))
      have hwr := b.size
      have x10 := (x9.below (b.mono hN9)).more (show N ≤ wr.heap.size by omega)
      have HFI := Lib.hid (iSumOf_any xs os a _ _ _ _ (HV.out _ (b9.trans (b.mono (by omega)))) x10 o.see (Nat.le_refl _) HXS.out (by omega) HUO.out)
      rw [HSO.out] at HFI
      unfold RdLt at HFI
      rw [HRX.out, HRY.out] at HFI
      have hex : (rx == rx) = true := by simp
      have hey : (ry == ry) = true := by simp
      go_wp2_with fail
      refine HFI.out.mono ?_
      rintro e w10 ⟨rfl, b10⟩
      go_wp2_with fail
      go_ret
      exact ⟨rfl, below_then (b9.trans (b.mono (by omega))) b10 (Nat.le_refl _)⟩

end Go.Proofs.YtpembdiopmdhfaaDoor
