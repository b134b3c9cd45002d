/- Layer 9 (the player): CoreOk, of the program and of the model, by the same function. No conditions but those typed. -/
import Derived.Test.YtpmdfogncoapjaaGreatDoorCoreA
namespace Go.Proofs.YtpmdfogncoapjaaGreatDoor
open Go.RowKit
set_option linter.unusedVariables false

theorem all_more {α : Type} {p : α → Bool} {zs : List α} {k : Nat} {x : α} (h : (zs.take k).all p = true) (hx : zs[k]? = some x) (hp : p x = true) : (zs.take (k + 1)).all p = true := by
  rw [List.take_add_one, hx]; simp [h, hp]
theorem all_out {α : Type} {p : α → Bool} {zs : List α} {k : Nat} {x : α} (hx : zs[k]? = some x) (hp : p x = false) : zs.all p = false := by
  rw [List.all_eq_false]; exact ⟨x, List.mem_of_getElem? hx, by simp [hp]⟩
theorem all_end {α : Type} {p : α → Bool} {zs : List α} (h : (zs.take zs.length).all p = true) : zs.all p = true := by rwa [List.take_length] at h

def readB (x : Int) : Bool := inB x 0 100000
def pileB (zs : List Int) : Bool := decide (zs.length ≤ 60) && zs.all wordB
def readsB (rs : List Int) : Bool := decide (rs.length = 4) && rs.all readB
/-- Is it a core? -/
def coreB (x : Int) (zs : List Int) (bs : List Bx) (rs : List Int) (y : Int) : Bool := inB x 0 300 && pileB zs && boxesB bs && readsB rs && inB y 0 4

set_option maxHeartbeats 400000 in
theorem placeOk_any (x : Int) (w : World) : Calls Tryz.prog 56 #[.int .i64 x] w fun e w' => e = .returned (.bool (inB x 0 300)) ∧ w = w' := by
  by_cases h0 : 0 ≤ x <;> by_cases h1 : x ≤ 300
  all_goals
    have hb : inB x 0 300 = decide (0 ≤ x ∧ x ≤ 300) := rfl
    simp only [h0, h1] at hb
    have HB := Lib.hid hb
    clear hb
    go_enter Tryz.func56, Tryz.ntmps56
    go_wp2
    go_ret
    rw [HB.out]
    exact ⟨rfl, rfl⟩

set_option maxHeartbeats 400000 in
theorem countOk_any (x : Int) (w : World) : Calls Tryz.prog 111 #[.int .i64 x] w fun e w' => e = .returned (.bool (readB x)) ∧ w = w' := by
  by_cases h0 : 0 ≤ x <;> by_cases h1 : x ≤ 100000
  all_goals
    have hb : readB x = decide (0 ≤ x ∧ x ≤ 100000) := rfl
    simp only [h0, h1] at hb
    have HB := Lib.hid hb
    clear hb
    go_enter Tryz.func111, Tryz.ntmps111
    go_wp2
    go_ret
    rw [HB.out]
    exact ⟨rfl, rfl⟩

set_option maxHeartbeats 1000000 in
theorem each_WordOk (B : Nat) (v : Value) (zs : List Int) (w : World) (h : SeeI w B v zs) : Calls Tryz.prog 108 #[v, .func (.func 109) #[] #[]] w (BoolIs (zs.all wordB) w) := by
  have hm := h.1
  unfold maxLen at hm
  obtain ⟨A, c, rfl⟩ := h.shape
  go_enter Tryz.func108, Tryz.ntmps108
  go_wp2_with fail
  go_loop [6, 9] (fun _ i => ∃ k : Nat, k ≤ zs.length ∧ i = .int .i64 k ∧ (zs.take k).all wordB = true) (fun _ i => zs.length - (intOf i).toNat)
  case atStart => exact ⟨0, Nat.zero_le _, rfl, by simp⟩
  case round =>
    obtain ⟨k, hk, rfl, hv⟩ := hrel
    have HV := Lib.hid hv
    clear hv
    by_cases hlt : k < zs.length
    · obtain ⟨g, o, x, rfl, -, hx, hc⟩ := h.at_ hlt
      have HX := Lib.hid hx
      clear hx h
      go_wp2_with fail
      refine (iWordOk_any x _).mono ?_
      rintro e w' ⟨rfl, rfl⟩
      cases hp : wordB x
      · have HE := Lib.hid (all_out HX.out hp)
        go_wp2_with fail
        go_ret
        exact ⟨ret_bool HE.out.symm, rfl⟩
      · have HE := Lib.hid (all_more HV.out HX.out hp)
        go_wp2_with fail
        go_round
        case rel => exact ⟨k + 1, by omega, by go_num, HE.out⟩
        case measure => simp [intOf]; omega
    · obtain rfl : k = zs.length := by omega
      have HE := Lib.hid (all_end HV.out)
      go_wp2_with fail
      go_ret
      exact ⟨ret_bool HE.out.symm, rfl⟩

set_option maxHeartbeats 1000000 in
theorem each_countOk (B : Nat) (v : Value) (zs : List Int) (w : World) (h : SeeI w B v zs) : Calls Tryz.prog 108 #[v, .func (.func 111) #[] #[]] w (BoolIs (zs.all readB) w) := by
  have hm := h.1
  unfold maxLen at hm
  obtain ⟨A, c, rfl⟩ := h.shape
  go_enter Tryz.func108, Tryz.ntmps108
  go_wp2_with fail
  go_loop [6, 9] (fun _ i => ∃ k : Nat, k ≤ zs.length ∧ i = .int .i64 k ∧ (zs.take k).all readB = true) (fun _ i => zs.length - (intOf i).toNat)
  case atStart => exact ⟨0, Nat.zero_le _, rfl, by simp⟩
  case round =>
    obtain ⟨k, hk, rfl, hv⟩ := hrel
    have HV := Lib.hid hv
    clear hv
    by_cases hlt : k < zs.length
    · obtain ⟨g, o, x, rfl, -, hx, hc⟩ := h.at_ hlt
      have HX := Lib.hid hx
      clear hx h
      go_wp2_with fail
      refine (countOk_any x _).mono ?_
      rintro e w' ⟨rfl, rfl⟩
      cases hp : readB x
      · have HE := Lib.hid (all_out HX.out hp)
        go_wp2_with fail
        go_ret
        exact ⟨ret_bool HE.out.symm, rfl⟩
      · have HE := Lib.hid (all_more HV.out HX.out hp)
        go_wp2_with fail
        go_round
        case rel => exact ⟨k + 1, by omega, by go_num, HE.out⟩
        case measure => simp [intOf]; omega
    · obtain rfl : k = zs.length := by omega
      have HE := Lib.hid (all_end HV.out)
      go_wp2_with fail
      go_ret
      exact ⟨ret_bool HE.out.symm, rfl⟩

set_option maxHeartbeats 1000000 in
theorem pileOk_any (B : Nat) (v : Value) (zs : List Int) (w : World) (h : SeeI w B v zs) : Calls Tryz.prog 57 #[v] w (BoolIs (pileB zs) w) := by
  have hm := h.1
  unfold maxLen at hm
  obtain ⟨A, c, rfl⟩ := h.shape
  by_cases hl : zs.length ≤ 60
  · have HE : Hid (pileB zs = zs.all wordB) := Lib.hid (by unfold pileB; rw [decide_eq_true hl, Bool.true_and])
    have hl2 : (zs.length : Int) ≤ 60 := by omega
    go_enter Tryz.func57, Tryz.ntmps57
    go_wp2_with fail
    refine (each_WordOk B _ zs _ h).mono ?_
    rintro e w' ⟨rfl, rfl⟩
    go_wp2_with fail
    go_ret
    exact ⟨ret_bool HE.out.symm, rfl⟩
  · have HE : Hid (pileB zs = false) := Lib.hid (by unfold pileB; rw [decide_eq_false hl, Bool.false_and])
    have hl2 : ¬ (zs.length : Int) ≤ 60 := by omega
    go_enter Tryz.func57, Tryz.ntmps57
    go_wp2_with fail
    go_ret
    exact ⟨ret_bool (by rw [HE.out]), rfl⟩

set_option maxHeartbeats 1000000 in
theorem readsOk_any (B : Nat) (v : Value) (zs : List Int) (w : World) (h : SeeI w B v zs) : Calls Tryz.prog 59 #[v] w (BoolIs (readsB zs) w) := by
  have hm := h.1
  unfold maxLen at hm
  obtain ⟨A, c, rfl⟩ := h.shape
  by_cases hl : zs.length = 4
  · have HE : Hid (readsB zs = zs.all readB) := Lib.hid (by unfold readsB; rw [decide_eq_true hl, Bool.true_and])
    have hl2 : ((zs.length : Int) == 4) = true := by simp; omega
    clear hl
    go_enter Tryz.func59, Tryz.ntmps59
    go_wp2_with fail
    refine (each_countOk B _ zs _ h).mono ?_
    rintro e w' ⟨rfl, rfl⟩
    go_wp2_with fail
    go_ret
    exact ⟨ret_bool HE.out.symm, rfl⟩
  · have HE : Hid (readsB zs = false) := Lib.hid (by unfold readsB; rw [decide_eq_false hl, Bool.false_and])
    have hl2 : ((zs.length : Int) == 4) = false := by simp; omega
    clear hl
    go_enter Tryz.func59, Tryz.ntmps59
    go_wp2_with fail
    go_ret
    exact ⟨ret_bool HE.out.symm, rfl⟩

set_option maxHeartbeats 4000000 in
theorem iCoreOk_any (B : Nat) (x y : Int) (v1 v2 v3 : Value) (zs : List Int) (bs : List Bx) (rs : List Int) (w : World) (s1 : SeeI w B v1 zs) (s2 : SeeBx w B v2 bs) (s3 : SeeI w B v3 rs) (hB : B ≤ w.heap.size) (hS : shortB bs) :
    Calls Tryz.prog 12 #[.agg #[.int .i64 x, v1, v2, v3, .int .i64 y]] w (BoolLt w (coreB x zs bs rs y)) := by
  have B0 := below_new w (.cells #[.int .i64 x, v1, v2, v3, .int .i64 y] 27)
  have R0 := heap_alloc_new w (.cells #[.int .i64 x, v1, v2, v3, .int .i64 y] 27)
  have hZ := heap_lt R0
  have HBW : B ≤ (w.alloc (.cells #[.int .i64 x, v1, v2, v3, .int .i64 y] 27)).heap.size := Nat.le_trans hB B0.size
  obtain ⟨A1, c1, rfl⟩ := s1.shape
  obtain ⟨A2, c2, rfl⟩ := s2.shape
  obtain ⟨A3, c3, rfl⟩ := s3.shape
  have C1 := Lib.hid (fun W => placeOk_any x W)
  have HE : Hid (coreB x zs bs rs y = (inB x 0 300 && pileB zs && boxesB bs && readsB rs && inB y 0 4)) := Lib.hid rfl
  replace s1 := s1.below (B0.mono hB)
  replace s2 := s2.below (B0.mono hB)
  replace s3 := s3.below (B0.mono hB)
  go_enter Tryz.func12, Tryz.ntmps12
  go_wp2_with fail
  generalize w.alloc _ = W at *
  have C2 := Lib.hid (pileOk_any B _ zs W s1)
  have C3 := Lib.hid (iBoxesOk_any B _ bs W s2 HBW hS)
  have C4 := Lib.hid (fun W s => readsOk_any B (.slice A3 rs.length c3) rs W s)
  refine (C1.out _).mono ?_
  rintro e w' ⟨rfl, rfl⟩
  generalize inB x 0 300 = q1 at *
  generalize pileB zs = q2 at *
  generalize boxesB bs = q3 at *
  generalize readsB rs = q4 at *
  obtain ⟨p0, p1, p2, p3, p4⟩ := cells5 R0
  cases q1
  · go_wp2_with fail
    go_ret
    exact ⟨ret_bool (by rw [HE.out]; simp), B0⟩
  go_wp2_with fail
  refine C2.out.mono ?_
  rintro e w' ⟨rfl, rfl⟩
  cases q2
  · go_wp2_with fail
    go_ret
    exact ⟨ret_bool (by rw [HE.out]; simp), B0⟩
  go_wp2_with fail
  refine C3.out.mono ?_
  rintro e w2 ⟨rfl, b2⟩
  replace s3 := s3.below (b2.mono HBW)
  have R2 := row_later R0 b2
  replace B0 := below_then B0 b2 (Nat.le_refl _)
  clear p0 p1 p2 p3 p4 s1 s2 R0
  obtain ⟨p0, p1, p2, p3, p4⟩ := cells5 R2
  cases q3
  · go_wp2_with fail
    go_ret
    exact ⟨ret_bool (by rw [HE.out]; simp), B0⟩
  go_wp2_with fail
  refine (C4.out _ s3).mono ?_
  rintro e w' ⟨rfl, rfl⟩
  cases q4
  · go_wp2_with fail
    go_ret
    exact ⟨ret_bool (by rw [HE.out]; simp), B0⟩
  by_cases h0 : 0 ≤ y
  · by_cases h4 : y ≤ 4
    · have hq : Hid (inB y 0 4 = true) := Lib.hid (inB_yes ⟨h0, h4⟩)
      go_wp2_with fail
      go_ret
      exact ⟨ret_bool (by rw [HE.out, hq.out]; rfl), B0⟩
    · have hq : Hid (inB y 0 4 = false) := Lib.hid (inB_no (by omega))
      go_wp2_with fail
      go_ret
      exact ⟨ret_bool (by rw [HE.out, hq.out, decide_eq_false (by omega)]; rfl), B0⟩
  · have hq : Hid (inB y 0 4 = false) := Lib.hid (inB_no (by omega))
    go_wp2_with fail
    go_ret
    exact ⟨ret_bool (by rw [HE.out, hq.out]; rfl), B0⟩

set_option maxHeartbeats 1000000 in
theorem l8Place9_any (n : Int) (w : World) : Calls Tryz.prog 62 #[.int .i64 n] w fun e w' => e = .returned (.bool (inB n 0 300)) ∧ w = w' := by
  go_enter Tryz.func62, Tryz.ntmps62
  go_wp2_with fail
  refine (in_any n 0 300 _).mono ?_
  rintro e w1 ⟨rfl, rfl⟩
  go_wp2_with fail
  go_ret
  exact ⟨rfl, rfl⟩

set_option maxHeartbeats 4000000 in
theorem sCoreOk_any (B : Nat) (x y : Int) (v1 v2 v3 : Value) (zs : List Int) (bs : List Bx) (rs : List Int) (w : World) (s1 : SeeI w B v1 zs) (s2 : SeeBx w B v2 bs) (s3 : SeeI w B v3 rs) (hB : B ≤ w.heap.size) (hS : shortB bs) :
    Calls Tryz.prog 13 #[.agg #[.int .i64 x, v1, v2, v3, .int .i64 y]] w (BoolLt w (coreB x zs bs rs y)) := by
  have B0 := below_new w (.cells #[.int .i64 x, v1, v2, v3, .int .i64 y] 27)
  have R0 := heap_alloc_new w (.cells #[.int .i64 x, v1, v2, v3, .int .i64 y] 27)
  have hZ := heap_lt R0
  have HBW : B ≤ (w.alloc (.cells #[.int .i64 x, v1, v2, v3, .int .i64 y] 27)).heap.size := Nat.le_trans hB B0.size
  have m1 := s1.1
  have m3 := s3.1
  unfold maxLen at m1 m3
  obtain ⟨A1, c1, rfl⟩ := s1.shape
  obtain ⟨A2, c2, rfl⟩ := s2.shape
  obtain ⟨A3, c3, rfl⟩ := s3.shape
  have HE : Hid (coreB x zs bs rs y = (inB x 0 300 && pileB zs && boxesB bs && readsB rs && inB y 0 4)) := Lib.hid rfl
  replace s1 := s1.below (B0.mono hB)
  replace s2 := s2.below (B0.mono hB)
  replace s3 := s3.below (B0.mono hB)
  go_enter Tryz.func13, Tryz.ntmps13
  go_wp2_with fail
  generalize w.alloc _ = W at *
  obtain ⟨p0, p1, p2, p3, p4⟩ := cells5 R0
  go_loop [3] (fun i => ∃ k : Nat, k ≤ zs.length ∧ i = .int .i64 k ∧ (zs.take k).all wordB = true) (fun i => zs.length - (intOf i).toNat)
  case atStart => exact ⟨0, Nat.zero_le _, rfl, by simp⟩
  case round =>
    obtain ⟨k, hk, rfl, hv⟩ := hrel
    have HV := Lib.hid hv
    clear hv
    by_cases hlt : k < zs.length
    · obtain ⟨g, o, u, rfl, -, hx, hc⟩ := s1.at_ hlt
      have HX := Lib.hid hx
      clear hx
      go_wp2_with fail
      refine (l5Word_any u _).mono ?_
      rintro e w' ⟨rfl, rfl⟩
      cases hp : wordB u
      · have HO := Lib.hid (all_out HX.out hp)
        go_wp2_with fail
        go_ret
        exact ⟨ret_bool (by rw [HE.out]; unfold pileB; rw [HO.out]; simp), B0⟩
      · have HO := Lib.hid (all_more HV.out HX.out hp)
        go_wp2_with fail
        go_round
        case rel => exact ⟨k + 1, by omega, by go_num, HO.out⟩
        case measure => simp [intOf]; omega
    · obtain rfl : k = zs.length := by omega
      have HA := Lib.hid (all_end HV.out)
      clear HV hlt
      go_wp2_with fail
      go_loop [4] (fun i => ∃ k : Nat, k ≤ rs.length ∧ i = .int .i64 k ∧ (rs.take k).all readB = true) (fun i => rs.length - (intOf i).toNat)
      case atStart => exact ⟨0, Nat.zero_le _, rfl, by simp⟩
      case round =>
        obtain ⟨k, hk, rfl, hv⟩ := hrel
        have HV := Lib.hid hv
        clear hv
        by_cases hlt : k < rs.length
        · obtain ⟨g, o, u, rfl, -, hx, hc⟩ := s3.at_ hlt
          have HX := Lib.hid hx
          clear hx
          go_wp2_with fail
          refine (in_any u 0 100000 _).mono ?_
          rintro e w' ⟨rfl, rfl⟩
          cases hp : inB u 0 100000
          · have HO := Lib.hid (all_out (p := readB) HX.out hp)
            go_wp2_with fail
            go_ret
            exact ⟨ret_bool (by rw [HE.out]; unfold readsB; rw [HO.out]; simp), B0⟩
          · have HO := Lib.hid (all_more (p := readB) HV.out HX.out hp)
            go_wp2_with fail
            go_round
            case rel => exact ⟨k + 1, by omega, by go_num, HO.out⟩
            case measure => simp [intOf]; omega
        · obtain rfl : k = rs.length := by omega
          have HA2 := Lib.hid (all_end HV.out)
          clear HV hlt
          have HE2 : Hid (coreB x zs bs rs y = (inB x 0 300 && decide (zs.length ≤ 60) && boxesB bs && decide (rs.length = 4) && inB y 0 4)) := Lib.hid (by rw [HE.out]; unfold pileB readsB; rw [HA.out, HA2.out, Bool.and_true, Bool.and_true])
          have C3 := Lib.hid (sBoxesOk_any B _ bs W s2 HBW hS)
          clear HE HA HA2 s1 s2 s3
          go_wp2_with fail
          refine (l8Place9_any x _).mono ?_
          rintro e w' ⟨rfl, rfl⟩
          generalize inB x 0 300 = q1 at *
          generalize boxesB bs = q3 at *
          cases q1
          · go_wp2_with fail
            go_ret
            exact ⟨ret_bool (by rw [HE2.out]; simp), B0⟩
          by_cases h60 : zs.length ≤ 60
          · have h60' : (zs.length : Int) ≤ 60 := by omega
            have D1 : Hid (decide (zs.length ≤ 60) = true) := Lib.hid (decide_eq_true h60)
            rw [D1.out] at HE2
            clear h60 D1
            go_wp2_with fail
            refine C3.out.mono ?_
            rintro e w2 ⟨rfl, b2⟩
            have R2 := row_later R0 b2
            replace B0 := below_then B0 b2 (Nat.le_refl _)
            clear p0 p1 p2 p3 p4 R0
            obtain ⟨p0, p1, p2, p3, p4⟩ := cells5 R2
            cases q3
            · go_wp2_with fail
              go_ret
              exact ⟨ret_bool (by rw [HE2.out]; simp), B0⟩
            by_cases h4 : rs.length = 4
            · have h4' : ((rs.length : Int) == 4) = true := by simp; omega
              have D2 : Hid (decide (rs.length = 4) = true) := Lib.hid (decide_eq_true h4)
              rw [D2.out] at HE2
              clear h4 D2
              go_wp2_with fail
              refine (in_any y 0 4 _).mono ?_
              rintro e w' ⟨rfl, rfl⟩
              go_wp2_with fail
              go_ret
              exact ⟨ret_bool (by rw [HE2.out]; simp), B0⟩
            · have h4' : ((rs.length : Int) == 4) = false := by simp; omega
              have D2 : Hid (decide (rs.length = 4) = false) := Lib.hid (decide_eq_false h4)
              rw [D2.out] at HE2
              clear h4 D2
              go_wp2_with fail
              go_ret
              exact ⟨ret_bool (by rw [HE2.out]; simp), B0⟩
          · have h60' : ¬ (zs.length : Int) ≤ 60 := by omega
            have D1 : Hid (decide (zs.length ≤ 60) = false) := Lib.hid (decide_eq_false h60)
            rw [D1.out] at HE2
            clear h60 D1
            go_wp2_with fail
            go_ret
            exact ⟨ret_bool (by rw [HE2.out]; simp), B0⟩

end Go.Proofs.YtpmdfogncoapjaaGreatDoor
