/- The law FnWords' walk: true whatever is drawn. Condition: the listed variables hold what the program's text lays (Vars). -/
import Derived.Test.YtefhbgfifingaaaDoorWordD
import Derived.Test.YtefhbgfifingaaaDoorWordB
import Derived.Test.YtefhbgfifingaaaDoorWordN
import Derived.Test.YtefhbgfifingaaaDoorWordP
import Derived.Deep.CutRange
namespace Go.Proofs.YtefhbgfifingaaaDoor
open Go.RowKit
set_option linter.unusedVariables false

theorem wrap_rem (n : Int) : (wrapW n - n).tmod 4294967296 = 0 := by
  obtain ⟨k, hk⟩ := wrapW_mod n
  rw [hk, show n + 4294967296 * k - n = 4294967296 * k by omega]
  exact Int.mul_tmod_right _ _

theorem did_false {o a b v : Int} (h : didS o a b = (v, false)) : v = 0 ∧ (o < 1 ∨ 6 < o ∨ wordB a = false ∨ wordB b = false ∨ (o = 4 ∧ b = 0)) := by
  unfold didS at h
  split at h
  · unfold didV at h
    split at h
    · cases h
    split at h
    · cases h
    split at h
    · cases h
    split at h
    · split at h
      · cases h; exact ⟨rfl, .inr (.inr (.inr (.inr ⟨‹_›, ‹_›⟩)))⟩
      · cases h
    split at h
    · cases h
    split at h
    · cases h
    · cases h; exact ⟨rfl, by omega⟩
  · rename_i hn
    cases h
    refine ⟨rfl, ?_⟩
    cases ha : wordB a
    · exact .inr (.inr (.inl rfl))
    · cases hb : wordB b
      · exact .inr (.inr (.inr (.inl rfl)))
      · exact absurd ⟨ha, hb⟩ hn
theorem wrap_back {a b : Int} (ha : wordB a = true) : wrapW (wrapW (a + b) - b) = a := by
  obtain ⟨k, hk⟩ := wrapW_mod (a + b)
  have h2 := wrapW_mod (wrapW (a + b) - b)
  have h3 := wordB_iff.1 (wrapW_word (wrapW (a + b) - b))
  obtain ⟨j, hj⟩ := h2
  have := wordB_iff.1 ha
  omega
theorem truth_01 (b : Bool) : truthI b = 0 ∨ truthI b = 1 := by cases b; exact .inl rfl; exact .inr rfl
theorem truth_word (b : Bool) : wordB (truthI b) = true := by cases b <;> decide
theorem did_true {o a b v : Int} (h : didS o a b = (v, true)) : wordB b = true ∧ wordB v = true ∧ (o = 1 → wrapW (v - b) = a) ∧ (¬ o < 5 → v = 0 ∨ v = 1) := by
  unfold didS at h
  split at h
  · rename_i hw
    unfold didV at h
    split at h
    · rename_i ho; cases h; exact ⟨hw.2, wrapW_word _, fun _ => wrap_back hw.1, fun q => by omega⟩
    split at h
    · rename_i ho; cases h; exact ⟨hw.2, wrapW_word _, fun q => by omega, fun q => by omega⟩
    split at h
    · rename_i ho; cases h; exact ⟨hw.2, wrapW_word _, fun q => by omega, fun q => by omega⟩
    split at h
    · rename_i ho
      split at h
      · cases h
      · cases h; exact ⟨hw.2, wrapW_word _, fun q => by omega, fun q => by omega⟩
    split at h
    · rename_i ho; cases h; exact ⟨hw.2, truth_word _, fun q => by omega, fun q => truth_01 _⟩
    split at h
    · rename_i ho; cases h; exact ⟨hw.2, truth_word _, fun q => by omega, fun q => truth_01 _⟩
    · cases h
  · cases h

set_option maxHeartbeats 8000000 in
set_option maxRecDepth 100000 in
theorem words_core (A : Option Addr) (n c : Nat) (w : World) (hs : SeeB w w.heap.size A n) (V : Vars w) :
    Calls Tryd.prog 3 #[.slice A n c] w fun e w' => e = .returned (.bool true) ∧ Below w.heap.size w w' := by
  have hn := hs.1
  by_cases hbig : 4096 < n
  · have hd : decide (4096 < (n : Int)) = true := by simp; omega
    go_enter Tryd.func3, Tryd.ntmps3
    go_wp2_with fail
    refine (big_any _ _ _ _ hn).mono ?_
    rintro e w' ⟨rfl, rfl⟩
    go_wp2_with fail
    go_ret
    exact ⟨rfl, Below.refl _ _⟩
  · have hd : decide (4096 < (n : Int)) = false := by simp; omega
    have HSB : Hid (∀ W, Below w.heap.size w W → SeeB W W.heap.size A n) := Lib.hid fun W h => (hs.keep fun p hp => h.cell hp).more h.size
    have hn' : n ≤ 4096 := by omega
    clear hbig
    go_enter Tryd.func3, Tryd.ntmps3
    go_wp2_with fail
    refine (big_any _ _ _ _ hn).mono ?_
    rintro e w' ⟨rfl, rfl⟩
    clear hn
    go_wp2_with fail
    refine (drawDid_any A n c hn' _ hs).mono ?_
    rintro e w1 ⟨o, a, b, rfl, b1⟩
    clear hs hd
    go_wp2_with fail
    refine (iDid_any o a b _).mono ?_
    rintro e w' ⟨rfl, rfl⟩
    generalize hdd : didS o a b = dd
    have HD := Lib.hid hdd
    clear hdd
    obtain ⟨v, is⟩ := dd
    go_wp2_with fail
    refine (drawWrap_any A n c hn' _ (HSB.out _ b1)).mono ?_
    rintro e w2 ⟨x, rfl, hx0, hx1, b2⟩
    replace b2 := below_then b1 b2 (Nat.le_refl _)
    clear b1
    go_wp2_with fail
    refine (iWrap_any x _).mono ?_
    rintro e w' ⟨rfl, rfl⟩
    go_wp2_with fail
    refine (drawReadWord_any A n c hn' _ (HSB.out _ b2)).mono ?_
    rintro e w3 ⟨s, rfl, hsl, b3⟩
    replace b3 := below_then b2 b3 (Nat.le_refl _)
    clear b2
    go_wp2_with fail
    refine (iReadWord_any s (by omega) _ (V.below b3)).mono ?_
    rintro e w4 ⟨rfl, b4⟩
    replace b4 := below_then b3 b4 (Nat.le_refl _)
    clear b3
    generalize hrr : rdS s = rr
    have HR := Lib.hid hrr
    clear hrr
    go_wp2_with fail
    refine (drawNameOk_any A n c hn' _ (HSB.out _ b4)).mono ?_
    rintro e w5 ⟨t, rfl, htl, b5⟩
    replace b5 := below_then b4 b5 (Nat.le_refl _)
    clear b4 HSB
    go_wp2_with fail
    refine (sDid_any o a b _).mono ?_
    rintro e w' ⟨rfl, rfl⟩
    rw [HD.out]
    go_wp2_with fail
    refine (sWrap_any x _).mono ?_
    rintro e w' ⟨rfl, rfl⟩
    go_wp2_with fail
    refine (iWordOk_any x _).mono ?_
    rintro e w' ⟨rfl, rfl⟩
    go_wp2_with fail
    refine (sWordOk_any x _).mono ?_
    rintro e w' ⟨rfl, rfl⟩
    go_wp2_with fail
    refine (iNameOk_any t (by omega) _).mono ?_
    rintro e w' ⟨rfl, rfl⟩
    go_wp2_with fail
    refine (sNameOk_any t (by omega) _).mono ?_
    rintro e w' ⟨rfl, rfl⟩
    go_wp2_with fail
    refine (sReadWord_any s (by omega) _).mono ?_
    rintro e w' ⟨rfl, rfl⟩
    rw [HR.out]
    have HWR : Hid (∀ y, rr = some y → wordB y = true) := Lib.hid fun y hy => (rdS_some (HR.out.trans hy)).1
    have HWW := Lib.hid (wrapW_word x)
    have HWS : Hid (wordB x = true → wrapW x = x) := Lib.hid fun h => wrapW_same h
    have hrem := wrap_rem x
    obtain ⟨y0, y1⟩ := wordB_iff.1 (wrapW_word x)
    generalize wrapW x = y at HWW HWS hrem y0 y1 ⊢
    clear HR
    go_upto_region 14 with fail
    go_cut [103] from 20 (fun s103 wc => s103 = .bool false ∧ w5 = wc)
    case first =>
      cases rr with
      | none =>
        go_wp2_with fail
        go_meet
        case rel => exact ⟨rfl, rfl⟩
      | some z =>
        have HZ := Lib.hid (HWR.out z rfl)
        go_wp2_with fail
        refine (iWordOk_any z _).mono ?_
        rintro e w' ⟨rfl, rfl⟩
        rw [HZ.out]
        go_wp2_with fail
        go_meet
        case rel => exact ⟨rfl, rfl⟩
    case rest =>
      obtain ⟨rfl, rfl⟩ := hcut
      go_upto_region 16 with fail
      go_cut [122] from 20 (fun s122 wc => s122 = .bool false ∧ w5 = wc)
      case first =>
        go_wp2_with fail
        refine (iWordOk_any y _).mono ?_
        rintro e w' ⟨rfl, rfl⟩
        rw [HWW.out]
        go_wp2_with fail
        refine (iWordOk_any x _).mono ?_
        rintro e w' ⟨rfl, rfl⟩
        cases hw : wordB x
        · go_wp2_with fail
          go_meet
          case rel => exact ⟨rfl, rfl⟩
        · obtain rfl := HWS.out hw
          go_wp2_with fail
          go_meet
          case rel => exact ⟨rfl, rfl⟩
      case rest =>
        obtain ⟨rfl, rfl⟩ := hcut
        clear HWW HWS hrem y0 y1 HWR
        cases is with
        | false =>
          obtain ⟨rfl, hcase⟩ := did_false HD.out
          have HC := Lib.hid hcase
          clear hcase HD
          by_cases h1 : o < 1
          · go_wp2_with fail
            go_ret
            exact ⟨rfl, b5⟩
          by_cases h6 : 6 < o
          · go_wp2_with fail
            go_ret
            exact ⟨rfl, b5⟩
          cases ha : wordB a
          · go_wp2_with fail
            refine (iWordOk_any a _).mono ?_
            rintro e w' ⟨rfl, rfl⟩
            rw [ha]
            go_wp2_with fail
            go_ret
            exact ⟨rfl, b5⟩
          cases hb : wordB b
          · go_wp2_with fail
            refine (iWordOk_any a _).mono ?_
            rintro e w' ⟨rfl, rfl⟩
            rw [ha]
            go_wp2_with fail
            refine (iWordOk_any b _).mono ?_
            rintro e w' ⟨rfl, rfl⟩
            rw [hb]
            go_wp2_with fail
            go_ret
            exact ⟨rfl, b5⟩
          · obtain ⟨rfl, rfl⟩ : o = 4 ∧ b = 0 := by
              rcases HC.out with h | h | h | h | h
              · exact absurd h h1
              · exact absurd h h6
              · rw [ha] at h; cases h
              · rw [hb] at h; cases h
              · exact h
            have HA := Lib.hid ha
            have HB := Lib.hid hb
            clear ha hb h1 h6
            go_wp2_with fail
            refine (iWordOk_any a _).mono ?_
            rintro e w' ⟨rfl, rfl⟩
            rw [HA.out]
            go_wp2_with fail
            refine (iWordOk_any 0 _).mono ?_
            rintro e w' ⟨rfl, rfl⟩
            rw [HB.out]
            go_wp2_with fail
            go_ret
            exact ⟨rfl, b5⟩
        | true =>
          have HT := Lib.hid (did_true HD.out)
          clear HD
          by_cases h1 : o = 1
          · subst h1
            have HE : Hid (didS 2 v b = (a, true)) := Lib.hid (by rw [did_yes HT.out.2.1 HT.out.1, didV_2, HT.out.2.2.1 rfl])
            go_wp2_with fail
            refine (iDid_any 2 v b _).mono ?_
            rintro e w' ⟨rfl, rfl⟩
            rw [HE.out]
            go_wp2_with fail
            go_ret
            exact ⟨rfl, b5⟩
          · have e1 : (o == 1) = false := by simpa using h1
            by_cases h5 : o < 5
            · go_wp2_with fail
              refine (iWordOk_any v _).mono ?_
              rintro e w' ⟨rfl, rfl⟩
              rw [HT.out.2.1]
              go_wp2_with fail
              go_ret
              exact ⟨rfl, b5⟩
            · rcases HT.out.2.2.2 h5 with rfl | rfl
              all_goals
                go_wp2_with fail
                refine (iWordOk_any _ _).mono ?_
                rintro e w' ⟨rfl, rfl⟩
                rw [HT.out.2.1]
                go_wp2_with fail
                go_ret
                exact ⟨rfl, b5⟩

end Go.Proofs.YtefhbgfifingaaaDoor
