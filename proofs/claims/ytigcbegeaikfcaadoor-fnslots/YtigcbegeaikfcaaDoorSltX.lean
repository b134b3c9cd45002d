/- Layer 10 (feeds): the walk of the law FnSlots. Conditions: the listed variables hold what the program's text lays (Vars, TabT); internal/bytealg.MaxLen is a number (MaxL). -/
import Derived.Test.YtigcbegeaikfcaaDoorSltD
import Derived.Test.YtigcbegeaikfcaaDoorRdsI
import Derived.Test.YtigcbegeaikfcaaDoorRdsV
import Derived.Test.YtigcbegeaikfcaaDoorTxtP
namespace Go.Proofs.YtigcbegeaikfcaaDoor
open Go.RowKit
set_option linter.unusedVariables false

set_option maxHeartbeats 4000000 in
theorem likeSlots_same (B : Nat) (va vb : Value) (ss : List (List Int)) (w : World) (ha : SeeSS w B va ss) (hb : SeeSS w B vb ss) :
    Calls Tryd.prog 12 #[va, vb] w fun e w' => e = .returned (.bool true) ∧ ∃ n, w' = w.drewN n := by
  have hm := ha.len
  unfold maxLen at hm
  obtain ⟨A, ca, rfl⟩ := ha.shape
  obtain ⟨A', cb, rfl⟩ := hb.shape
  have hb1 : ((ss.length : Int) != (ss.length : Int)) = false := by simp
  go_enter Tryd.func12, Tryd.ntmps12
  go_wp2_with fail
  clear hb1
  go_loopw [5] (fun i wr => ∃ k m : Nat, k ≤ ss.length ∧ i = .int .i64 k ∧ wr = w.drewN m) (fun i _ => ss.length - (intOf i).toNat)
  case atStart => exact ⟨0, 0, Nat.zero_le _, rfl, rfl⟩
  case round =>
    obtain ⟨k, m, hk, rfl, hwr⟩ := hrel
    have HW := Lib.hid hwr
    have ha' : SeeSS wr B (.slice A ss.length ca) ss := by rw [hwr]; exact ha.below (below_drewN (Below.refl _ _) _)
    have hb' : SeeSS wr B (.slice A' ss.length cb) ss := by rw [hwr]; exact hb.below (below_drewN (Below.refl _ _) _)
    clear hwr ha hb
    by_cases hlt : k < ss.length
    · have hx := List.getElem?_eq_getElem hlt
      generalize ss[k] = s at hx
      obtain ⟨g, o, D, q, rfl, hc, hi⟩ := ha'.at_ hx
      obtain ⟨g', o', D', q', rfl, hc', hi'⟩ := hb'.at_ hx
      have T1 : Hid (∀ n, Calls Tryd.prog 31 #[.slice D s.length q, .slice D' s.length q'] (wr.drewN n) fun e w' => e = .returned (.bool true) ∧ ∃ j, w' = wr.drewN j) := Lib.hid fun n => by
        refine (likeInts_any B _ _ s s _ (hi.drewN n) (hi'.drewN n)).mono ?_
        rintro e w1 ⟨rfl, j, rfl⟩
        rw [eqI_same]
        exact ⟨rfl, _, World.drewN_drewN _ _ _⟩
      clear ha' hb' hx hi hi'
      go_wp2_with fail
      go_quiet (first | (go_at_call 31; exact T1.out _))
      go_wp2
      go_roundw
      case rel => exact ⟨k + 1, _, by omega, by go_num, by rw [HW.out]; exact World.drewN_drewN _ _ _⟩
      case measure => simp [intOf]; omega
    · obtain rfl : k = ss.length := by omega
      go_wp2_with fail
      go_ret
      exact ⟨rfl, _, HW.out⟩

set_option maxHeartbeats 8000000 in
set_option maxRecDepth 100000 in
theorem slots_core (A : Option Addr) (n c : Nat) (w : World) (hs : SeeB w w.heap.size A n) (V : Vars w) (M : MaxL w) (T : TabT w) :
    Calls Tryd.prog 3 #[.slice A n c] w fun e w' => e = .returned (.bool true) ∧ Below w.heap.size w w' := by
  by_cases hbig : 4096 < n
  · clear V M T
    go_enter Tryd.func3, Tryd.ntmps3
    go_wp2_with fail
    refine (big_any A n c _ hs.1).mono ?_
    rintro e w' ⟨rfl, rfl⟩
    rw [decide_eq_true (by omega)]
    go_wp2_with fail
    go_ret
    exact ⟨rfl, Below.refl _ _⟩
  have HV := Lib.hid (fun W (b : Below w.heap.size w W) => V.below b)
  have HMX := Lib.hid (fun W (b : Below w.heap.size w W) => M.below b)
  have HT := Lib.hid (fun W (b : Below w.heap.size w W) => TabT.below T b)
  clear V M T
  go_enter Tryd.func3, Tryd.ntmps3
  go_wp2_with fail
  refine (big_any A n c _ hs.1).mono ?_
  rintro e w' ⟨rfl, rfl⟩
  rw [decide_eq_false (by omega)]
  go_wp2_with fail
  refine (drawShowSlots_any A n c (by omega) _ hs).mono ?_
  rintro e w1 ⟨g1, c1, ss, rfl, s1, h8, h41, b1⟩
  have HSL := Lib.hid (show_short ss)
  clear h8 h41
  have HI := Lib.hid (iShowSlots_any _ _ ss w1 s1 (Nat.le_refl _) (HT.out _ b1))
  obtain ⟨S, hS⟩ : ∃ S, showSlotsS ss = S := ⟨_, rfl⟩
  rw [hS] at HI HSL
  have HS := Lib.hid hS
  clear hS
  go_wp2_with fail
  refine HI.out.mono ?_
  clear HI
  rintro e w2 ⟨rfl, b2⟩
  have s2 := (s1.below b2).more b2.size
  have bb := below_then b1 b2 (Nat.le_refl _)
  have hs2 := (hs.keep fun p hp => bb.cell hp).more bb.size
  clear b1 b2 s1
  go_wp2_with fail
  refine (drawReadSlots_any A n c (by omega) _ hs2).mono ?_
  rintro e w3 ⟨t, rfl, htl, b3⟩
  have s3 := (s2.below b3).more b3.size
  replace bb := below_then bb b3 (Nat.le_refl _)
  clear b3 s2 hs2
  have HR := Lib.hid (iReadSlots_any t (by omega) w3 (HV.out _ bb) (HMX.out _ bb))
  have HR2 := Lib.hid (fun W => sReadSlots_any t (by omega) W)
  obtain ⟨R, hR⟩ : ∃ R, rdSlotsM t = R := ⟨_, rfl⟩
  rw [hR] at HR
  have HRR := Lib.hid hR
  clear hR htl
  go_wp2_with fail
  refine HR.out.mono ?_
  clear HR
  rintro e w4 ⟨v1, l1, rfl, o1, b4⟩
  have x4 := o1.see
  have s4 := (s3.below b4).more b4.size
  replace bb := below_then bb b4 (Nat.le_refl _)
  obtain ⟨A1, c1', rfl⟩ := x4.shape
  clear b4 s3 o1
  have HR3 := Lib.hid (HR2.out w4)
  rw [HRR.out] at HR3
  go_wp2_with fail
  refine HR3.out.mono ?_
  clear HR3 HR2
  rintro e w5 ⟨v2, l2, rfl, o2, b5⟩
  have y5 := o2.see
  have x5 := (x4.below b5).more b5.size
  have s5 := (s4.below b5).more b5.size
  replace bb := below_then bb b5 (Nat.le_refl _)
  obtain ⟨A2, c2', rfl⟩ := y5.shape
  clear b5 s4 x4 o2
  have hneq : (R.isSome != R.isSome) = false := by simp
  go_wp2_with fail
  refine (likeSlots_same _ _ _ _ _ x5 y5).mono ?_
  rintro e w6 ⟨rfl, n6, hw6⟩
  have b6 : Below w5.heap.size w5 w6 := by rw [hw6]; exact below_drewN (Below.refl _ _) _
  replace bb := below_then bb b6 (Nat.le_refl _)
  have s6 := (s5.below b6).more b6.size
  have x6 := (x5.below b6).more b6.size
  clear b6 s5 x5 y5 hneq hw6
  have HSH := Lib.hid (sShowSlots_any _ _ ss w6 s6 (Nat.le_refl _))
  rw [HS.out] at HSH
  have hSn : (!(S == S)) = false := by simp
  go_wp2_with fail
  refine HSH.out.mono ?_
  clear HSH
  rintro e w7 ⟨rfl, b7⟩
  replace bb := below_then bb b7 (Nat.le_refl _)
  have s7 := (s6.below b7).more b7.size
  have x7 := (x6.below b7).more b7.size
  clear b7 s6 x6
  have HEND : Hid (∀ W, Below w.heap.size w W → SeeSS W W.heap.size (.slice (some ⟨g1, 0, none⟩) ss.length c1) ss → S ≠ [] → Calls Tryd.prog 10 #[str S] W (RdSOut W (some ss))) := Lib.hid fun W b h hne => by
    have hb : slotsB ss = true := shows_some (by rw [HS.out]; exact hne)
    have h1 := iReadSlots_any S (by have := HSL.out; omega) W (HV.out _ b) (HMX.out _ b)
    rw [← HS.out, slots_shown hb, HS.out] at h1
    exact h1
  cases R with
  | none =>
    simp only [Option.isSome_none, Option.getD_none] at x7 ⊢
    go_upto_region 12 with fail
    clear x7 hSn
    by_cases hse : S = []
    · have h1 : (S == []) = true := by simpa using hse
      go_wp2_with fail
      go_ret
      exact ⟨rfl, bb⟩
    · have h1 : (S == []) = false := by simpa using hse
      have HE := Lib.hid (HEND.out _ bb s7 hse)
      clear hse
      go_wp2_with fail
      refine HE.out.mono ?_
      rintro e w9 ⟨v3, l3, rfl, o3, b9⟩
      have z9 := o3.see
      have s9 := (s7.below b9).more b9.size
      replace bb := below_then bb b9 (Nat.le_refl _)
      simp only [Option.isSome_some, Option.getD_some] at z9 ⊢
      obtain ⟨A3, c3, rfl⟩ := z9.shape
      clear o3 s7 HE b9
      go_wp2_with fail
      refine (likeSlots_same _ _ _ _ _ z9 s9).mono ?_
      rintro e wa ⟨rfl, na, hwa⟩
      have ba : Below w9.heap.size w9 wa := by rw [hwa]; exact below_drewN (Below.refl _ _) _
      clear hwa
      go_wp2_with fail
      go_ret
      exact ⟨rfl, below_then bb ba (Nat.le_refl _)⟩
  | some xs =>
    have HXT : Hid (showSlotsS xs = t) := Lib.hid (slots_read HRR.out)
    simp only [Option.isSome_some, Option.getD_some] at x7 ⊢
    have HSX := Lib.hid (iShowSlots_any _ _ xs w7 x7 (Nat.le_refl _) (HT.out _ bb))
    rw [HXT.out] at HSX
    have hTn : (!(t == t)) = false := by simp
    go_wp2_with fail
    refine HSX.out.mono ?_
    clear HSX
    rintro e w8 ⟨rfl, b8⟩
    replace bb := below_then bb b8 (Nat.le_refl _)
    replace s7 := (s7.below b8).more b8.size
    clear b8 x7
    go_upto_region 12 with fail
    clear hSn hTn
    by_cases hse : S = []
    · have h1 : (S == []) = true := by simpa using hse
      go_wp2_with fail
      go_ret
      exact ⟨rfl, bb⟩
    · have h1 : (S == []) = false := by simpa using hse
      have HE := Lib.hid (HEND.out _ bb s7 hse)
      clear hse
      go_wp2_with fail
      refine HE.out.mono ?_
      rintro e w9 ⟨v3, l3, rfl, o3, b9⟩
      have z9 := o3.see
      have s9 := (s7.below b9).more b9.size
      replace bb := below_then bb b9 (Nat.le_refl _)
      simp only [Option.isSome_some, Option.getD_some] at z9 ⊢
      obtain ⟨A3, c3, rfl⟩ := z9.shape
      clear o3 s7 HE b9
      go_wp2_with fail
      refine (likeSlots_same _ _ _ _ _ z9 s9).mono ?_
      rintro e wa ⟨rfl, na, hwa⟩
      have ba : Below w9.heap.size w9 wa := by rw [hwa]; exact below_drewN (Below.refl _ _) _
      clear hwa
      go_wp2_with fail
      go_ret
      exact ⟨rfl, below_then bb ba (Nat.le_refl _)⟩

end Go.Proofs.YtigcbegeaikfcaaDoor
