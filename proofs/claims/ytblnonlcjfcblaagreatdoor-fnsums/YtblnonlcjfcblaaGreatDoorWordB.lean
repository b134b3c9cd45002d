/- Layer 5 (words): Did, of the program and of the model, by the same function on numbers. No conditions but those typed. -/
import Derived.Test.YtblnonlcjfcblaaGreatDoorWordA
namespace Go.Proofs.YtblnonlcjfcblaaGreatDoor
open Go.RowKit
set_option linter.unusedVariables false

theorem wrapW_64 (n : Int) : wrapW (wrap64 n) = wrapW n := by
  have h : wrap64 n % 4294967296 = n % 4294967296 := by unfold wrap64; omega
  unfold wrapW
  rw [h]

/-- What an op makes of two words. -/
def didV (o a b : Int) : Int × Bool :=
  if o = 1 then (wrapW (a + b), true) else if o = 2 then (wrapW (a - b), true) else if o = 3 then (wrapW (a * b), true)
  else if o = 4 then (if b = 0 then (0, false) else (wrapW (a.tdiv b), true))
  else if o = 5 then (truthI (decide (a < b)), true) else if o = 6 then (truthI (decide (a = b)), true) else (0, false)
def didS (o a b : Int) : Int × Bool := if wordB a = true ∧ wordB b = true then didV o a b else (0, false)
def DidOut (r : Int × Bool) (w : World) (e : Ending) (w' : World) : Prop := e = .returned (.tuple #[.int .i64 r.1, .bool r.2]) ∧ w = w'
theorem did_ret {x y : Int} {b c : Bool} (h : x = y) (hb : b = c) : Ending.returned (.tuple #[.int .i64 x, .bool b]) = .returned (.tuple #[.int .i64 y, .bool c]) := by rw [h, hb]

theorem did_no {o a b : Int} (h : ¬ (wordB a = true ∧ wordB b = true)) : didS o a b = (0, false) := by unfold didS; rw [if_neg h]
theorem did_yes {o a b : Int} (ha : wordB a = true) (hb : wordB b = true) : didS o a b = didV o a b := by unfold didS; rw [if_pos ⟨ha, hb⟩]

set_option maxHeartbeats 400000 in
theorem sDid_no (o a b : Int) (h : ¬ (wordB a = true ∧ wordB b = true)) (w : World) : Calls Tryz.prog 50 #[.int .i64 o, .int .i64 a, .int .i64 b] w (DidOut (0, false) w) := by
  cases ha : wordB a
  · have HA := Lib.hid ha
    clear ha h
    go_enter Tryz.func50, Tryz.ntmps50
    go_wp2_with fail
    refine (l5Word_any _ _).mono ?_
    rintro e w' ⟨rfl, rfl⟩
    rw [HA.out]
    go_wp2_with fail
    go_ret2
    exact ⟨rfl, rfl⟩
  · have hb : wordB b = false := by
      cases hb : wordB b
      · rfl
      · exact absurd ⟨ha, hb⟩ h
    have HA := Lib.hid ha
    have HB := Lib.hid hb
    clear ha hb h
    go_enter Tryz.func50, Tryz.ntmps50
    go_wp2_with fail
    refine (l5Word_any _ _).mono ?_
    rintro e w' ⟨rfl, rfl⟩
    rw [HA.out]
    go_wp2_with fail
    refine (l5Word_any _ _).mono ?_
    rintro e w' ⟨rfl, rfl⟩
    rw [HB.out]
    go_wp2_with fail
    go_ret2
    exact ⟨rfl, rfl⟩

set_option maxHeartbeats 400000 in
theorem iDid_no (o a b : Int) (h : ¬ (wordB a = true ∧ wordB b = true)) (w : World) : Calls Tryz.prog 109 #[.int .i64 o, .int .i64 a, .int .i64 b] w (DidOut (0, false) w) := by
  cases ha : wordB a
  · have HA := Lib.hid ha
    clear ha h
    go_enter Tryz.func109, Tryz.ntmps109
    go_wp2_with fail
    refine (iWordOk_any _ _).mono ?_
    rintro e w' ⟨rfl, rfl⟩
    rw [HA.out]
    go_wp2_with fail
    go_ret2
    exact ⟨rfl, rfl⟩
  · have hb : wordB b = false := by
      cases hb : wordB b
      · rfl
      · exact absurd ⟨ha, hb⟩ h
    have HA := Lib.hid ha
    have HB := Lib.hid hb
    clear ha hb h
    go_enter Tryz.func109, Tryz.ntmps109
    go_wp2_with fail
    refine (iWordOk_any _ _).mono ?_
    rintro e w' ⟨rfl, rfl⟩
    rw [HA.out]
    go_wp2_with fail
    refine (iWordOk_any _ _).mono ?_
    rintro e w' ⟨rfl, rfl⟩
    rw [HB.out]
    go_wp2_with fail
    go_ret2
    exact ⟨rfl, rfl⟩

theorem didV_1 (a b : Int) : didV 1 a b = (wrapW (a + b), true) := rfl
theorem didV_2 (a b : Int) : didV 2 a b = (wrapW (a - b), true) := rfl
theorem didV_3 (a b : Int) : didV 3 a b = (wrapW (a * b), true) := rfl
theorem didV_40 (a : Int) : didV 4 a 0 = (0, false) := rfl
theorem didV_4 (a b : Int) (h : ¬ b = 0) : didV 4 a b = (wrapW (a.tdiv b), true) := by show (if b = 0 then _ else _) = _; rw [if_neg h]
theorem didV_5 (a b : Int) : didV 5 a b = (truthI (decide (a < b)), true) := rfl
theorem didV_6 (a b : Int) : didV 6 a b = (truthI (decide (a = b)), true) := rfl
theorem didV_n {o : Int} (a b : Int) (h1 : ¬ o = 1) (h2 : ¬ o = 2) (h3 : ¬ o = 3) (h4 : ¬ o = 4) (h5 : ¬ o = 5) (h6 : ¬ o = 6) : didV o a b = (0, false) := by
  unfold didV; rw [if_neg h1, if_neg h2, if_neg h3, if_neg h4, if_neg h5, if_neg h6]

set_option maxHeartbeats 1000000 in
theorem sDid_yes (o a b : Int) (ha : wordB a = true) (hb : wordB b = true) (w : World) : Calls Tryz.prog 50 #[.int .i64 o, .int .i64 a, .int .i64 b] w (DidOut (didV o a b) w) := by
  have HA := Lib.hid ha
  have HB := Lib.hid hb
  obtain ⟨a0, a1⟩ := wordB_iff.1 ha
  obtain ⟨b0, b1⟩ := wordB_iff.1 hb
  clear ha hb
  by_cases o1 : o = 1
  · subst o1
    rw [didV_1]
    go_enter Tryz.func50, Tryz.ntmps50
    go_wp2_with fail
    refine (l5Word_any _ _).mono ?_
    rintro e w' ⟨rfl, rfl⟩
    rw [HA.out]
    go_wp2_with fail
    refine (l5Word_any _ _).mono ?_
    rintro e w' ⟨rfl, rfl⟩
    rw [HB.out]
    go_wp2_with fail
    refine (sWrap_any _ _).mono ?_
    rintro e w' ⟨rfl, rfl⟩
    go_wp2_with fail
    go_ret2
    exact ⟨did_ret rfl rfl, rfl⟩
  by_cases o2 : o = 2
  · subst o2
    have HS := Lib.hid (show wrapW (a + -b) = wrapW (a - b) from by rw [Int.sub_eq_add_neg])
    rw [didV_2]
    clear o1
    go_enter Tryz.func50, Tryz.ntmps50
    go_wp2_with fail
    refine (l5Word_any _ _).mono ?_
    rintro e w' ⟨rfl, rfl⟩
    rw [HA.out]
    go_wp2_with fail
    refine (l5Word_any _ _).mono ?_
    rintro e w' ⟨rfl, rfl⟩
    rw [HB.out]
    go_wp2_with fail
    refine (sWrap_any _ _).mono ?_
    rintro e w' ⟨rfl, rfl⟩
    go_wp2_with fail
    go_ret2
    exact ⟨did_ret (by first | rfl | exact HS.out) rfl, rfl⟩
  by_cases o3 : o = 3
  · subst o3
    rw [didV_3]
    clear o1 o2
    go_enter Tryz.func50, Tryz.ntmps50
    go_wp2_with fail
    refine (l5Word_any _ _).mono ?_
    rintro e w' ⟨rfl, rfl⟩
    rw [HA.out]
    go_wp2_with fail
    refine (l5Word_any _ _).mono ?_
    rintro e w' ⟨rfl, rfl⟩
    rw [HB.out]
    go_wp2_with fail
    refine (sWrap_any _ _).mono ?_
    rintro e w' ⟨rfl, rfl⟩
    go_wp2_with fail
    go_ret2
    exact ⟨did_ret (wrapW_64 _) rfl, rfl⟩
  by_cases o4 : o = 4
  · subst o4
    clear o1 o2 o3
    by_cases hz : b = 0
    · subst hz
      rw [didV_40]
      go_enter Tryz.func50, Tryz.ntmps50
      go_wp2_with fail
      refine (l5Word_any _ _).mono ?_
      rintro e w' ⟨rfl, rfl⟩
      rw [HA.out]
      go_wp2_with fail
      refine (l5Word_any _ _).mono ?_
      rintro e w' ⟨rfl, rfl⟩
      rw [HB.out]
      go_wp2_with fail
      go_ret2
      exact ⟨did_ret rfl rfl, rfl⟩
    · rw [didV_4 a b hz]
      have hz' : (b == 0) = false := by simpa using hz
      go_enter Tryz.func50, Tryz.ntmps50
      go_wp2_with fail
      refine (l5Word_any _ _).mono ?_
      rintro e w' ⟨rfl, rfl⟩
      rw [HA.out]
      go_wp2_with fail
      refine (l5Word_any _ _).mono ?_
      rintro e w' ⟨rfl, rfl⟩
      rw [HB.out]
      go_wp2_with fail
      refine (sWrap_any _ _).mono ?_
      rintro e w' ⟨rfl, rfl⟩
      go_wp2_with fail
      go_ret2
      exact ⟨did_ret (wrapW_64 _) rfl, rfl⟩
  by_cases o5 : o = 5
  · subst o5
    rw [didV_5]
    clear o1 o2 o3 o4
    go_enter Tryz.func50, Tryz.ntmps50
    go_wp2_with fail
    refine (l5Word_any _ _).mono ?_
    rintro e w' ⟨rfl, rfl⟩
    rw [HA.out]
    go_wp2_with fail
    refine (l5Word_any _ _).mono ?_
    rintro e w' ⟨rfl, rfl⟩
    rw [HB.out]
    go_wp2_with fail
    refine (l5Truth_any _ _).mono ?_
    rintro e w' ⟨rfl, rfl⟩
    go_wp2_with fail
    go_ret2
    exact ⟨did_ret rfl rfl, rfl⟩
  by_cases o6 : o = 6
  · subst o6
    have HS := Lib.hid (show truthI (a == b) = truthI (decide (a = b)) from rfl)
    rw [didV_6]
    clear o1 o2 o3 o4 o5
    go_enter Tryz.func50, Tryz.ntmps50
    go_wp2_with fail
    refine (l5Word_any _ _).mono ?_
    rintro e w' ⟨rfl, rfl⟩
    rw [HA.out]
    go_wp2_with fail
    refine (l5Word_any _ _).mono ?_
    rintro e w' ⟨rfl, rfl⟩
    rw [HB.out]
    go_wp2_with fail
    refine (l5Truth_any _ _).mono ?_
    rintro e w' ⟨rfl, rfl⟩
    go_wp2_with fail
    go_ret2
    exact ⟨did_ret HS.out rfl, rfl⟩
  rw [didV_n a b o1 o2 o3 o4 o5 o6]
  have e1 : (o == 1) = false := by simpa using o1
  have e2 : (o == 2) = false := by simpa using o2
  have e3 : (o == 3) = false := by simpa using o3
  have e4 : (o == 4) = false := by simpa using o4
  have e5 : (o == 5) = false := by simpa using o5
  have e6 : (o == 6) = false := by simpa using o6
  clear o1 o2 o3 o4 o5 o6
  go_enter Tryz.func50, Tryz.ntmps50
  go_wp2_with fail
  refine (l5Word_any _ _).mono ?_
  rintro e w' ⟨rfl, rfl⟩
  rw [HA.out]
  go_wp2_with fail
  refine (l5Word_any _ _).mono ?_
  rintro e w' ⟨rfl, rfl⟩
  rw [HB.out]
  go_wp2_with fail
  go_ret2
  exact ⟨did_ret rfl rfl, rfl⟩

theorem sDid_any (o a b : Int) (w : World) : Calls Tryz.prog 50 #[.int .i64 o, .int .i64 a, .int .i64 b] w (DidOut (didS o a b) w) := by
  by_cases h : wordB a = true ∧ wordB b = true
  · rw [did_yes h.1 h.2]; exact sDid_yes o a b h.1 h.2 w
  · rw [did_no h]; exact sDid_no o a b h w

set_option maxHeartbeats 1000000 in
theorem iDid_yes (o a b : Int) (ha : wordB a = true) (hb : wordB b = true) (w : World) : Calls Tryz.prog 109 #[.int .i64 o, .int .i64 a, .int .i64 b] w (DidOut (didV o a b) w) := by
  have HA := Lib.hid ha
  have HB := Lib.hid hb
  obtain ⟨a0, a1⟩ := wordB_iff.1 ha
  obtain ⟨b0, b1⟩ := wordB_iff.1 hb
  clear ha hb
  by_cases o1 : o = 1
  · subst o1
    rw [didV_1]
    go_enter Tryz.func109, Tryz.ntmps109
    go_wp2_with fail
    refine (iWordOk_any _ _).mono ?_
    rintro e w' ⟨rfl, rfl⟩
    rw [HA.out]
    go_wp2_with fail
    refine (iWordOk_any _ _).mono ?_
    rintro e w' ⟨rfl, rfl⟩
    rw [HB.out]
    go_wp2_with fail
    refine (iWrap_any _ _).mono ?_
    rintro e w' ⟨rfl, rfl⟩
    go_wp2_with fail
    go_ret2
    exact ⟨did_ret rfl rfl, rfl⟩
  by_cases o2 : o = 2
  · subst o2
    have HS := Lib.hid (show wrapW (a + -b) = wrapW (a - b) from by rw [Int.sub_eq_add_neg])
    rw [didV_2]
    clear o1
    go_enter Tryz.func109, Tryz.ntmps109
    go_wp2_with fail
    refine (iWordOk_any _ _).mono ?_
    rintro e w' ⟨rfl, rfl⟩
    rw [HA.out]
    go_wp2_with fail
    refine (iWordOk_any _ _).mono ?_
    rintro e w' ⟨rfl, rfl⟩
    rw [HB.out]
    go_wp2_with fail
    refine (iWrap_any _ _).mono ?_
    rintro e w' ⟨rfl, rfl⟩
    go_wp2_with fail
    go_ret2
    exact ⟨did_ret (by first | rfl | exact HS.out) rfl, rfl⟩
  by_cases o3 : o = 3
  · subst o3
    rw [didV_3]
    clear o1 o2
    go_enter Tryz.func109, Tryz.ntmps109
    go_wp2_with fail
    refine (iWordOk_any _ _).mono ?_
    rintro e w' ⟨rfl, rfl⟩
    rw [HA.out]
    go_wp2_with fail
    refine (iWordOk_any _ _).mono ?_
    rintro e w' ⟨rfl, rfl⟩
    rw [HB.out]
    go_wp2_with fail
    refine (iWrap_any _ _).mono ?_
    rintro e w' ⟨rfl, rfl⟩
    go_wp2_with fail
    go_ret2
    exact ⟨did_ret (wrapW_64 _) rfl, rfl⟩
  by_cases o4 : o = 4
  · subst o4
    clear o1 o2 o3
    by_cases hz : b = 0
    · subst hz
      rw [didV_40]
      go_enter Tryz.func109, Tryz.ntmps109
      go_wp2_with fail
      refine (iWordOk_any _ _).mono ?_
      rintro e w' ⟨rfl, rfl⟩
      rw [HA.out]
      go_wp2_with fail
      refine (iWordOk_any _ _).mono ?_
      rintro e w' ⟨rfl, rfl⟩
      rw [HB.out]
      go_wp2_with fail
      go_ret2
      exact ⟨did_ret rfl rfl, rfl⟩
    · rw [didV_4 a b hz]
      have hz' : (b == 0) = false := by simpa using hz
      go_enter Tryz.func109, Tryz.ntmps109
      go_wp2_with fail
      refine (iWordOk_any _ _).mono ?_
      rintro e w' ⟨rfl, rfl⟩
      rw [HA.out]
      go_wp2_with fail
      refine (iWordOk_any _ _).mono ?_
      rintro e w' ⟨rfl, rfl⟩
      rw [HB.out]
      go_wp2_with fail
      refine (iWrap_any _ _).mono ?_
      rintro e w' ⟨rfl, rfl⟩
      go_wp2_with fail
      go_ret2
      exact ⟨did_ret (wrapW_64 _) rfl, rfl⟩
  by_cases o5 : o = 5
  · subst o5
    rw [didV_5]
    clear o1 o2 o3 o4
    go_enter Tryz.func109, Tryz.ntmps109
    go_wp2_with fail
    refine (iWordOk_any _ _).mono ?_
    rintro e w' ⟨rfl, rfl⟩
    rw [HA.out]
    go_wp2_with fail
    refine (iWordOk_any _ _).mono ?_
    rintro e w' ⟨rfl, rfl⟩
    rw [HB.out]
    go_wp2_with fail
    refine (oneWhere_any _ _).mono ?_
    rintro e w' ⟨rfl, rfl⟩
    go_wp2_with fail
    go_ret2
    exact ⟨did_ret rfl rfl, rfl⟩
  by_cases o6 : o = 6
  · subst o6
    have HS := Lib.hid (show truthI (a == b) = truthI (decide (a = b)) from rfl)
    rw [didV_6]
    clear o1 o2 o3 o4 o5
    go_enter Tryz.func109, Tryz.ntmps109
    go_wp2_with fail
    refine (iWordOk_any _ _).mono ?_
    rintro e w' ⟨rfl, rfl⟩
    rw [HA.out]
    go_wp2_with fail
    refine (iWordOk_any _ _).mono ?_
    rintro e w' ⟨rfl, rfl⟩
    rw [HB.out]
    go_wp2_with fail
    refine (oneWhere_any _ _).mono ?_
    rintro e w' ⟨rfl, rfl⟩
    go_wp2_with fail
    go_ret2
    exact ⟨did_ret HS.out rfl, rfl⟩
  rw [didV_n a b o1 o2 o3 o4 o5 o6]
  have e1 : (o == 1) = false := by simpa using o1
  have e2 : (o == 2) = false := by simpa using o2
  have e3 : (o == 3) = false := by simpa using o3
  have e4 : (o == 4) = false := by simpa using o4
  have e5 : (o == 5) = false := by simpa using o5
  have e6 : (o == 6) = false := by simpa using o6
  clear o1 o2 o3 o4 o5 o6
  go_enter Tryz.func109, Tryz.ntmps109
  go_wp2_with fail
  refine (iWordOk_any _ _).mono ?_
  rintro e w' ⟨rfl, rfl⟩
  rw [HA.out]
  go_wp2_with fail
  refine (iWordOk_any _ _).mono ?_
  rintro e w' ⟨rfl, rfl⟩
  rw [HB.out]
  go_wp2_with fail
  go_ret2
  exact ⟨did_ret rfl rfl, rfl⟩

theorem iDid_any (o a b : Int) (w : World) : Calls Tryz.prog 109 #[.int .i64 o, .int .i64 a, .int .i64 b] w (DidOut (didS o a b) w) := by
  by_cases h : wordB a = true ∧ wordB b = true
  · rw [did_yes h.1 h.2]; exact iDid_yes o a b h.1 h.2 w
  · rw [did_no h]; exact iDid_no o a b h w

end Go.Proofs.YtblnonlcjfcblaaGreatDoor
