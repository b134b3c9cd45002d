/- Layer 9 (the player): CoreOk, of the program and of the model, by the same function. No conditions but those typed. Layer 9 (the player): SameCore and NewCore, of the program and of the model, by the same functions. No conditions but those typed. -/
import Derived.Test.YtigcbegeaikfcaaGreatDoorEqI
import Derived.Laws.StructEq
namespace Go.Proofs.YtigcbegeaikfcaaGreatDoor
open Go.RowKit
set_option linter.unusedVariables false

def readB (x : Int) : Bool := inB x 0 100000
def pileB (zs : List Int) : Bool := decide (zs.length ≤ 60) && zs.all wordB
def readsB (rs : List Int) : Bool := decide (rs.length = 4) && rs.all readB
/-- Is it a core? -/
def coreB (x : Int) (zs : List Int) (bs : List Bx) (rs : List Int) (y : Int) : Bool := inB x 0 300 && pileB zs && boxesB bs && readsB rs && inB y 0 4

set_option maxHeartbeats 400000 in
theorem placeOk_any (x : Int) (w : World) : Calls Tryz.prog 56 #[.int .i64 x] w fun e w' => e = .returned (.bool (inB x 0 300)) ∧ w = w' := by
  by_cases h0 : 0 ≤ x <;> by_cases h1 : x ≤ 300
  all_goals
    have hb : inB x 0 300 = decide (0 ≤ x ∧ x ≤ 300) := rfl
    simp only [h0, h1] at hb
    have HB := Lib.hid hb
    clear hb
    go_enter Tryz.func56, Tryz.ntmps56
    go_wp2
    go_ret
    rw [HB.out]
    exact ⟨rfl, rfl⟩

set_option maxHeartbeats 400000 in
theorem countOk_any (x : Int) (w : World) : Calls Tryz.prog 111 #[.int .i64 x] w fun e w' => e = .returned (.bool (readB x)) ∧ w = w' := by
  by_cases h0 : 0 ≤ x <;> by_cases h1 : x ≤ 100000
  all_goals
    have hb : readB x = decide (0 ≤ x ∧ x ≤ 100000) := rfl
    simp only [h0, h1] at hb
    have HB := Lib.hid hb
    clear hb
    go_enter Tryz.func111, Tryz.ntmps111
    go_wp2
    go_ret
    rw [HB.out]
    exact ⟨rfl, rfl⟩

set_option maxHeartbeats 1000000 in
theorem each_countOk (B : Nat) (v : Value) (zs : List Int) (w : World) (h : SeeI w B v zs) : Calls Tryz.prog 108 #[v, .func (.func 111) #[] #[]] w (BoolIs (zs.all readB) w) := by
  have hm := h.1
  unfold maxLen at hm
  obtain ⟨A, c, rfl⟩ := h.shape
  go_enter Tryz.func108, Tryz.ntmps108
  go_wp2_with fail
  go_loop [6, 9] (fun _ i => ∃ k : Nat, k ≤ zs.length ∧ i = .int .i64 k ∧ (zs.take k).all readB = true) (fun _ i => zs.length - (intOf i).toNat)
  case atStart => exact ⟨0, Nat.zero_le _, rfl, by simp⟩
  case round =>
    obtain ⟨k, hk, rfl, hv⟩ := hrel
    have HV := Lib.hid hv
    clear hv
    by_cases hlt : k < zs.length
    · obtain ⟨g, o, x, rfl, -, hx, hc⟩ := h.at_ hlt
      have HX := Lib.hid hx
      clear hx h
      go_wp2_with fail
      refine (countOk_any x _).mono ?_
      rintro e w' ⟨rfl, rfl⟩
      cases hp : readB x
      · have HE := Lib.hid (all_out HX.out hp)
        go_wp2_with fail
        go_ret
        exact ⟨ret_bool HE.out.symm, rfl⟩
      · have HE := Lib.hid (all_more HV.out HX.out hp)
        go_wp2_with fail
        go_round
        case rel => exact ⟨k + 1, by omega, by go_num, HE.out⟩
        case measure => simp [intOf]; omega
    · obtain rfl : k = zs.length := by omega
      have HE := Lib.hid (all_end HV.out)
      go_wp2_with fail
      go_ret
      exact ⟨ret_bool HE.out.symm, rfl⟩

set_option maxHeartbeats 1000000 in
theorem pileOk_any (B : Nat) (v : Value) (zs : List Int) (w : World) (h : SeeI w B v zs) : Calls Tryz.prog 57 #[v] w (BoolIs (pileB zs) w) := by
  have hm := h.1
  unfold maxLen at hm
  obtain ⟨A, c, rfl⟩ := h.shape
  by_cases hl : zs.length ≤ 60
  · have HE : Hid (pileB zs = zs.all wordB) := Lib.hid (by unfold pileB; rw [decide_eq_true hl, Bool.true_and])
    have hl2 : (zs.length : Int) ≤ 60 := by omega
    go_enter Tryz.func57, Tryz.ntmps57
    go_wp2_with fail
    refine (each_WordOk B _ zs _ h).mono ?_
    rintro e w' ⟨rfl, rfl⟩
    go_wp2_with fail
    go_ret
    exact ⟨ret_bool HE.out.symm, rfl⟩
  · have HE : Hid (pileB zs = false) := Lib.hid (by unfold pileB; rw [decide_eq_false hl, Bool.false_and])
    have hl2 : ¬ (zs.length : Int) ≤ 60 := by omega
    go_enter Tryz.func57, Tryz.ntmps57
    go_wp2_with fail
    go_ret
    exact ⟨ret_bool (by rw [HE.out]), rfl⟩

set_option maxHeartbeats 1000000 in
theorem readsOk_any (B : Nat) (v : Value) (zs : List Int) (w : World) (h : SeeI w B v zs) : Calls Tryz.prog 59 #[v] w (BoolIs (readsB zs) w) := by
  have hm := h.1
  unfold maxLen at hm
  obtain ⟨A, c, rfl⟩ := h.shape
  by_cases hl : zs.length = 4
  · have HE : Hid (readsB zs = zs.all readB) := Lib.hid (by unfold readsB; rw [decide_eq_true hl, Bool.true_and])
    have hl2 : ((zs.length : Int) == 4) = true := by simp; omega
    clear hl
    go_enter Tryz.func59, Tryz.ntmps59
    go_wp2_with fail
    refine (each_countOk B _ zs _ h).mono ?_
    rintro e w' ⟨rfl, rfl⟩
    go_wp2_with fail
    go_ret
    exact ⟨ret_bool HE.out.symm, rfl⟩
  · have HE : Hid (readsB zs = false) := Lib.hid (by unfold readsB; rw [decide_eq_false hl, Bool.false_and])
    have hl2 : ((zs.length : Int) == 4) = false := by simp; omega
    clear hl
    go_enter Tryz.func59, Tryz.ntmps59
    go_wp2_with fail
    go_ret
    exact ⟨ret_bool HE.out.symm, rfl⟩

set_option maxHeartbeats 4000000 in
theorem iCoreOk_any (B : Nat) (x y : Int) (v1 v2 v3 : Value) (zs : List Int) (bs : List Bx) (rs : List Int) (w : World) (s1 : SeeI w B v1 zs) (s2 : SeeBx w B v2 bs) (s3 : SeeI w B v3 rs) (hB : B ≤ w.heap.size) (hS : shortB bs) :
    Calls Tryz.prog 12 #[.agg #[.int .i64 x, v1, v2, v3, .int .i64 y]] w (BoolLt w (coreB x zs bs rs y)) := by
  have B0 := below_new w (.cells #[.int .i64 x, v1, v2, v3, .int .i64 y] 27)
  have R0 := heap_alloc_new w (.cells #[.int .i64 x, v1, v2, v3, .int .i64 y] 27)
  have hZ := heap_lt R0
  have HBW : B ≤ (w.alloc (.cells #[.int .i64 x, v1, v2, v3, .int .i64 y] 27)).heap.size := Nat.le_trans hB B0.size
  obtain ⟨A1, c1, rfl⟩ := s1.shape
  obtain ⟨A2, c2, rfl⟩ := s2.shape
  obtain ⟨A3, c3, rfl⟩ := s3.shape
  have C1 := Lib.hid (fun W => placeOk_any x W)
  have HE : Hid (coreB x zs bs rs y = (inB x 0 300 && pileB zs && boxesB bs && readsB rs && inB y 0 4)) := Lib.hid rfl
  replace s1 := s1.below (B0.mono hB)
  replace s2 := s2.below (B0.mono hB)
  replace s3 := s3.below (B0.mono hB)
  go_enter Tryz.func12, Tryz.ntmps12
  go_wp2_with fail
  generalize w.alloc _ = W at *
  have C2 := Lib.hid (pileOk_any B _ zs W s1)
  have C3 := Lib.hid (iBoxesOk_any B _ bs W s2 HBW hS)
  have C4 := Lib.hid (fun W s => readsOk_any B (.slice A3 rs.length c3) rs W s)
  refine (C1.out _).mono ?_
  rintro e w' ⟨rfl, rfl⟩
  generalize inB x 0 300 = q1 at *
  generalize pileB zs = q2 at *
  generalize boxesB bs = q3 at *
  generalize readsB rs = q4 at *
  obtain ⟨p0, p1, p2, p3, p4⟩ := cells5 R0
  cases q1
  · go_wp2_with fail
    go_ret
    exact ⟨ret_bool (by rw [HE.out]; simp), B0⟩
  go_wp2_with fail
  refine C2.out.mono ?_
  rintro e w' ⟨rfl, rfl⟩
  cases q2
  · go_wp2_with fail
    go_ret
    exact ⟨ret_bool (by rw [HE.out]; simp), B0⟩
  go_wp2_with fail
  refine C3.out.mono ?_
  rintro e w2 ⟨rfl, b2⟩
  replace s3 := s3.below (b2.mono HBW)
  have R2 := row_later R0 b2
  replace B0 := below_then B0 b2 (Nat.le_refl _)
  clear p0 p1 p2 p3 p4 s1 s2 R0
  obtain ⟨p0, p1, p2, p3, p4⟩ := cells5 R2
  cases q3
  · go_wp2_with fail
    go_ret
    exact ⟨ret_bool (by rw [HE.out]; simp), B0⟩
  go_wp2_with fail
  refine (C4.out _ s3).mono ?_
  rintro e w' ⟨rfl, rfl⟩
  cases q4
  · go_wp2_with fail
    go_ret
    exact ⟨ret_bool (by rw [HE.out]; simp), B0⟩
  by_cases h0 : 0 ≤ y
  · by_cases h4 : y ≤ 4
    · have hq : Hid (inB y 0 4 = true) := Lib.hid (inB_yes ⟨h0, h4⟩)
      go_wp2_with fail
      go_ret
      exact ⟨ret_bool (by rw [HE.out, hq.out]; rfl), B0⟩
    · have hq : Hid (inB y 0 4 = false) := Lib.hid (inB_no (by omega))
      go_wp2_with fail
      go_ret
      exact ⟨ret_bool (by rw [HE.out, hq.out, decide_eq_false (by omega)]; rfl), B0⟩
  · have hq : Hid (inB y 0 4 = false) := Lib.hid (inB_no (by omega))
    go_wp2_with fail
    go_ret
    exact ⟨ret_bool (by rw [HE.out, hq.out]; rfl), B0⟩

set_option maxHeartbeats 1000000 in
theorem l8Place9_any (n : Int) (w : World) : Calls Tryz.prog 62 #[.int .i64 n] w fun e w' => e = .returned (.bool (inB n 0 300)) ∧ w = w' := by
  go_enter Tryz.func62, Tryz.ntmps62
  go_wp2_with fail
  refine (in_any n 0 300 _).mono ?_
  rintro e w1 ⟨rfl, rfl⟩
  go_wp2_with fail
  go_ret
  exact ⟨rfl, rfl⟩

set_option maxHeartbeats 4000000 in
theorem sCoreOk_any (B : Nat) (x y : Int) (v1 v2 v3 : Value) (zs : List Int) (bs : List Bx) (rs : List Int) (w : World) (s1 : SeeI w B v1 zs) (s2 : SeeBx w B v2 bs) (s3 : SeeI w B v3 rs) (hB : B ≤ w.heap.size) (hS : shortB bs) :
    Calls Tryz.prog 13 #[.agg #[.int .i64 x, v1, v2, v3, .int .i64 y]] w (BoolLt w (coreB x zs bs rs y)) := by
  have B0 := below_new w (.cells #[.int .i64 x, v1, v2, v3, .int .i64 y] 27)
  have R0 := heap_alloc_new w (.cells #[.int .i64 x, v1, v2, v3, .int .i64 y] 27)
  have hZ := heap_lt R0
  have HBW : B ≤ (w.alloc (.cells #[.int .i64 x, v1, v2, v3, .int .i64 y] 27)).heap.size := Nat.le_trans hB B0.size
  have m1 := s1.1
  have m3 := s3.1
  unfold maxLen at m1 m3
  obtain ⟨A1, c1, rfl⟩ := s1.shape
  obtain ⟨A2, c2, rfl⟩ := s2.shape
  obtain ⟨A3, c3, rfl⟩ := s3.shape
  have HE : Hid (coreB x zs bs rs y = (inB x 0 300 && pileB zs && boxesB bs && readsB rs && inB y 0 4)) := Lib.hid rfl
  replace s1 := s1.below (B0.mono hB)
  replace s2 := s2.below (B0.mono hB)
  replace s3 := s3.below (B0.mono hB)
  go_enter Tryz.func13, Tryz.ntmps13
  go_wp2_with fail
  generalize w.alloc _ = W at *
  obtain ⟨p0, p1, p2, p3, p4⟩ := cells5 R0
  go_loop [3] (fun i => ∃ k : Nat, k ≤ zs.length ∧ i = .int .i64 k ∧ (zs.take k).all wordB = true) (fun i => zs.length - (intOf i).toNat)
  case atStart => exact ⟨0, Nat.zero_le _, rfl, by simp⟩
  case round =>
    obtain ⟨k, hk, rfl, hv⟩ := hrel
    have HV := Lib.hid hv
    clear hv
    by_cases hlt : k < zs.length
    · obtain ⟨g, o, u, rfl, -, hx, hc⟩ := s1.at_ hlt
      have HX := Lib.hid hx
      clear hx
      go_wp2_with fail
      refine (l5Word_any u _).mono ?_
      rintro e w' ⟨rfl, rfl⟩
      cases hp : wordB u
      · have HO := Lib.hid (all_out HX.out hp)
        go_wp2_with fail
        go_ret
        exact ⟨ret_bool (by rw [HE.out]; unfold pileB; rw [HO.out]; simp), B0⟩
      · have HO := Lib.hid (all_more HV.out HX.out hp)
        go_wp2_with fail
        go_round
        case rel => exact ⟨k + 1, by omega, by go_num, HO.out⟩
        case measure => simp [intOf]; omega
    · obtain rfl : k = zs.length := by omega
      have HA := Lib.hid (all_end HV.out)
      clear HV hlt
      go_wp2_with fail
      go_loop [4] (fun i => ∃ k : Nat, k ≤ rs.length ∧ i = .int .i64 k ∧ (rs.take k).all readB = true) (fun i => rs.length - (intOf i).toNat)
      case atStart => exact ⟨0, Nat.zero_le _, rfl, by simp⟩
      case round =>
        obtain ⟨k, hk, rfl, hv⟩ := hrel
        have HV := Lib.hid hv
        clear hv
        by_cases hlt : k < rs.length
        · obtain ⟨g, o, u, rfl, -, hx, hc⟩ := s3.at_ hlt
          have HX := Lib.hid hx
          clear hx
          go_wp2_with fail
          refine (in_any u 0 100000 _).mono ?_
          rintro e w' ⟨rfl, rfl⟩
          cases hp : inB u 0 100000
          · have HO := Lib.hid (all_out (p := readB) HX.out hp)
            go_wp2_with fail
            go_ret
            exact ⟨ret_bool (by rw [HE.out]; unfold readsB; rw [HO.out]; simp), B0⟩
          · have HO := Lib.hid (all_more (p := readB) HV.out HX.out hp)
            go_wp2_with fail
            go_round
            case rel => exact ⟨k + 1, by omega, by go_num, HO.out⟩
            case measure => simp [intOf]; omega
        · obtain rfl : k = rs.length := by omega
          have HA2 := Lib.hid (all_end HV.out)
          clear HV hlt
          have HE2 : Hid (coreB x zs bs rs y = (inB x 0 300 && decide (zs.length ≤ 60) && boxesB bs && decide (rs.length = 4) && inB y 0 4)) := Lib.hid (by rw [HE.out]; unfold pileB readsB; rw [HA.out, HA2.out, Bool.and_true, Bool.and_true])
          have C3 := Lib.hid (sBoxesOk_any B _ bs W s2 HBW hS)
          clear HE HA HA2 s1 s2 s3
          go_wp2_with fail
          refine (l8Place9_any x _).mono ?_
          rintro e w' ⟨rfl, rfl⟩
          generalize inB x 0 300 = q1 at *
          generalize boxesB bs = q3 at *
          cases q1
          · go_wp2_with fail
            go_ret
            exact ⟨ret_bool (by rw [HE2.out]; simp), B0⟩
          by_cases h60 : zs.length ≤ 60
          · have h60' : (zs.length : Int) ≤ 60 := by omega
            have D1 : Hid (decide (zs.length ≤ 60) = true) := Lib.hid (decide_eq_true h60)
            rw [D1.out] at HE2
            clear h60 D1
            go_wp2_with fail
            refine C3.out.mono ?_
            rintro e w2 ⟨rfl, b2⟩
            have R2 := row_later R0 b2
            replace B0 := below_then B0 b2 (Nat.le_refl _)
            clear p0 p1 p2 p3 p4 R0
            obtain ⟨p0, p1, p2, p3, p4⟩ := cells5 R2
            cases q3
            · go_wp2_with fail
              go_ret
              exact ⟨ret_bool (by rw [HE2.out]; simp), B0⟩
            by_cases h4 : rs.length = 4
            · have h4' : ((rs.length : Int) == 4) = true := by simp; omega
              have D2 : Hid (decide (rs.length = 4) = true) := Lib.hid (decide_eq_true h4)
              rw [D2.out] at HE2
              clear h4 D2
              go_wp2_with fail
              refine (in_any y 0 4 _).mono ?_
              rintro e w' ⟨rfl, rfl⟩
              go_wp2_with fail
              go_ret
              exact ⟨ret_bool (by rw [HE2.out]; simp), B0⟩
            · have h4' : ((rs.length : Int) == 4) = false := by simp; omega
              have D2 : Hid (decide (rs.length = 4) = false) := Lib.hid (decide_eq_false h4)
              rw [D2.out] at HE2
              clear h4 D2
              go_wp2_with fail
              go_ret
              exact ⟨ret_bool (by rw [HE2.out]; simp), B0⟩
          · have h60' : ¬ (zs.length : Int) ≤ 60 := by omega
            have D1 : Hid (decide (zs.length ≤ 60) = false) := Lib.hid (decide_eq_false h60)
            rw [D1.out] at HE2
            clear h60 D1
            go_wp2_with fail
            go_ret
            exact ⟨ret_bool (by rw [HE2.out]; simp), B0⟩

end Go.Proofs.YtigcbegeaikfcaaGreatDoor

namespace Go.Proofs.YtigcbegeaikfcaaGreatDoor
open Go.RowKit
set_option linter.unusedVariables false

/-- Are two cores one? -/
def sameB (x : Int) (zs : List Int) (bs : List Bx) (rs : List Int) (y x' : Int) (zs' : List Int) (bs' : List Bx) (rs' : List Int) (y' : Int) : Bool :=
  decide (x = x') && eqI zs zs' && eqBx bs bs' && eqI rs rs' && decide (y = y')

theorem neq_box (n n' : List UInt8) (x x' : Int) (W : World) : (binOp .neq 92 (.agg #[str n, .int .i64 x]) (.agg #[str n', .int .i64 x'])).run Tryz.prog W = .ok (.bool (!decide ((n, x) = (n', x')))) W := by
  have u3 := Tryz.underlying9
  have u4 := Tryz.underlying2
  have a3 := Tryz.isAgg9
  have z3 := Tryz.sizeOf9
  have a4 := Tryz.isAgg2
  have z4 := Tryz.sizeOf2
  have hS : Tryz.prog.underlying 92 = some (.struct (Tryz.prog.fieldsOf 92)) := by kernel_rfl
  have hp : Tryz.prog.stoodInHeld 92 = false := by kernel_rfl
  rw [run_neq_struct, show (10000 : Nat) = 9999 + 1 from rfl, run_equalIn_agg W 9999 92 _ _ hS hp]
  simp only [Program.fieldsOf, Tryz.underlying92]
  go_simp
  by_cases h1 : n = n' <;> by_cases h2 : x = x' <;> simp [h1, h2]

theorem guard_box (op : BinOp) (a b : Operand) (n n' : List UInt8) (x x' : Int) (W : World) : (eqGuard op 92 a b (.agg #[str n, .int .i64 x]) (.agg #[str n', .int .i64 x'])).run Tryz.prog W = .ok () W :=
  run_eqGuard_agg W op _ a b _ _ (by kernel_rfl)

set_option maxHeartbeats 1000000 in
theorem equalB_any (B : Nat) (va vb : Value) (xs ys : List Bx) (w : World) (ha : SeeBx w B va xs) (hb : SeeBx w B vb ys) :
    Calls Tryz.prog 65 #[va, vb] w fun e w' => e = .returned (.bool (eqBx xs ys)) ∧ ∃ n, w' = w.drewN n := by
  obtain ⟨A, ca, rfl⟩ := ha.shape
  obtain ⟨A', cb, rfl⟩ := hb.shape
  have hm := ha.len
  have hm' := hb.len
  unfold maxLen at hm hm'
  by_cases hl : xs.length = ys.length
  · have hb1 : ((xs.length : Int) != (ys.length : Int)) = false := by simp [hl]
    have Hl := Lib.hid hl
    clear hl
    go_enter Tryz.func65, Tryz.ntmps65
    go_wp2
    clear hb1
    go_loopw [5, 13] (fun _ i wr => ∃ k m : Nat, k ≤ xs.length ∧ i = .int .i64 k ∧ xs.take k = ys.take k ∧ wr = w.drewN m) (fun _ i _ => xs.length - (intOf i).toNat)
    case atStart => exact ⟨0, 0, Nat.zero_le _, rfl, rfl, rfl⟩
    case round =>
      obtain ⟨k, m, hk, rfl, ht, rfl⟩ := hrel
      have HT := Lib.hid ht
      clear ht
      by_cases hlt : k < xs.length
      · have hlt' : k < ys.length := by have := Hl.out; omega
        have hx := List.getElem?_eq_getElem hlt
        generalize xs[k] = b at hx
        have hy := List.getElem?_eq_getElem hlt'
        generalize ys[k] = d at hy
        obtain ⟨g, o, rfl, -, c0, c1⟩ := ha.at_ hx
        obtain ⟨g', o', rfl, -, d0, d1⟩ := hb.at_ hy
        obtain ⟨n, x⟩ := b
        obtain ⟨n', x'⟩ := d
        dsimp only at c0 c1 d0 d1
        have HX := Lib.hid hx
        have HY := Lib.hid hy
        have hne := fun W => neq_box n n' x x' W
        have hgd := fun op a b W => guard_box op a b n n' x x' W
        clear hx hy ha hb
        by_cases hxy : (n, x) = (n', x')
        · have HR : Hid (xs.take (k + 1) = ys.take (k + 1)) := Lib.hid (takes_more HT.out HX.out (by rw [hxy]; exact HY.out))
          rw [decide_eq_true hxy] at hne
          simp only [Bool.not_true] at hne
          clear hxy
          go_wp2_with fail
          go_quiet (fail)
          go_wp2
          go_roundw
          case rel => exact ⟨k + 1, _, by omega, by go_num, HR.out, rfl⟩
          case measure => simp [intOf]; omega
        · have HE : Hid (eqBx xs ys = false) := Lib.hid (by
            unfold eqBx
            rw [decide_eq_false_iff_not]
            intro h
            have h2 := HX.out
            rw [h, HY.out] at h2
            injection h2 with h2
            exact hxy h2.symm)
          rw [decide_eq_false hxy] at hne
          simp only [Bool.not_false] at hne
          clear hxy
          go_wp2_with fail
          go_quiet (fail)
          go_wp2
          go_ret
          rw [HE.out]
          exact ⟨rfl, _, World.drewN_drewN _ _ _⟩
      · have HE : Hid (eqBx xs ys = true) := Lib.hid (by
          have h := HT.out
          rw [List.take_of_length_le (by omega), List.take_of_length_le (by have := Hl.out; omega)] at h
          simp [eqBx, h])
        go_wp2_with fail
        go_ret
        rw [HE.out]
        exact ⟨rfl, _, rfl⟩
  · have hb1 : ((xs.length : Int) != (ys.length : Int)) = true := by simp; omega
    have HE : Hid (eqBx xs ys = false) := Lib.hid (by
      unfold eqBx
      rw [decide_eq_false_iff_not]
      rintro rfl
      exact hl rfl)
    clear hl
    go_enter Tryz.func65, Tryz.ntmps65
    go_wp2
    go_ret
    rw [HE.out]
    exact ⟨rfl, 0, rfl⟩

set_option maxHeartbeats 4000000 in
theorem iSameCore_any (B : Nat) (x y x' y' : Int) (v1 v2 v3 u1 u2 u3 : Value) (zs : List Int) (bs : List Bx) (rs : List Int) (zs' : List Int) (bs' : List Bx) (rs' : List Int) (w : World) (hB : B ≤ w.heap.size)
    (s1 : SeeI w B v1 zs) (s2 : SeeBx w B v2 bs) (s3 : SeeI w B v3 rs) (t1 : SeeI w B u1 zs') (t2 : SeeBx w B u2 bs') (t3 : SeeI w B u3 rs') :
    Calls Tryz.prog 14 #[.agg #[.int .i64 x, v1, v2, v3, .int .i64 y], .agg #[.int .i64 x', u1, u2, u3, .int .i64 y']] w (BoolLt w (sameB x zs bs rs y x' zs' bs' rs' y')) := by
  obtain ⟨A1, c1, rfl⟩ := s1.shape
  obtain ⟨A2, c2, rfl⟩ := s2.shape
  obtain ⟨A3, c3, rfl⟩ := s3.shape
  obtain ⟨A4, c4, rfl⟩ := t1.shape
  obtain ⟨A5, c5, rfl⟩ := t2.shape
  obtain ⟨A6, c6, rfl⟩ := t3.shape
  have H0 : Hid (∃ W, W = (w.alloc (.cells #[.int .i64 x, .slice A1 zs.length c1, .slice A2 bs.length c2, .slice A3 rs.length c3, .int .i64 y] 27)).alloc (.cells #[.int .i64 x', .slice A4 zs'.length c4, .slice A5 bs'.length c5, .slice A6 rs'.length c6, .int .i64 y'] 27) ∧
      W.heap[w.heap.size]? = some (.cells #[.int .i64 x, .slice A1 zs.length c1, .slice A2 bs.length c2, .slice A3 rs.length c3, .int .i64 y] 27 (0, 0)) ∧
      W.heap[w.heap.size + 1]? = some (.cells #[.int .i64 x', .slice A4 zs'.length c4, .slice A5 bs'.length c5, .slice A6 rs'.length c6, .int .i64 y'] 27 (0, 0)) ∧ Below w.heap.size w W) :=
    Lib.hid ⟨_, rfl, alloc_old (heap_alloc_new _ _) _, by have := heap_alloc_new (w.alloc (.cells #[.int .i64 x, .slice A1 zs.length c1, .slice A2 bs.length c2, .slice A3 rs.length c3, .int .i64 y] 27)) (.cells #[.int .i64 x', .slice A4 zs'.length c4, .slice A5 bs'.length c5, .slice A6 rs'.length c6, .int .i64 y'] 27); rwa [World.size_alloc] at this,
      ((Below.refl _ _).alloc (Nat.le_refl _) _).alloc (by simp) _⟩
  have HE : Hid (sameB x zs bs rs y x' zs' bs' rs' y' = (decide (x = x') && eqI zs zs' && eqBx bs bs' && eqI rs rs' && decide (y = y'))) := Lib.hid rfl
  by_cases hx : x = x'
  · have hxx : (x == x') = true := by simpa using hx
    rw [decide_eq_true hx] at HE
    have HX := Lib.hid hx
    clear hx
    go_enter Tryz.func14, Tryz.ntmps14
    go_wp2_with fail
    obtain ⟨W, hW, h1, h2, bW⟩ := H0.out
    rw [← hW]
    clear hW H0
    replace s1 := s1.below (bW.mono hB)
    replace s2 := s2.below (bW.mono hB)
    replace s3 := s3.below (bW.mono hB)
    replace t1 := t1.below (bW.mono hB)
    replace t2 := t2.below (bW.mono hB)
    replace t3 := t3.below (bW.mono hB)
    refine (equalI_any B _ _ zs zs' _ s1 t1).mono ?_
    rintro e w' ⟨rfl, n, rfl⟩
    have C2 := Lib.hid (equalB_any B _ _ bs bs' (W.drewN n) (s2.below (below_drewN (Below.refl _ _) n)) (t2.below (below_drewN (Below.refl _ _) n)))
    have C3 := Lib.hid (fun m => equalI_any B _ _ rs rs' ((W.drewN n).drewN m) ((s3.drewN n).drewN m) ((t3.drewN n).drewN m))
    have B2 := below_drewN bW n
    have B3 := Lib.hid (fun m => below_drewN (below_drewN bW n) m)
    have k1 : (W.drewN n).heap[w.heap.size]? = _ := h1
    have k2 : (W.drewN n).heap[w.heap.size + 1]? = _ := h2
    generalize W.drewN n = W1 at *
    obtain ⟨p0, p1, p2, p3, p4⟩ := cells5 k1
    obtain ⟨q0, q1, q2, q3, q4⟩ := cells5 k2
    generalize eqI zs zs' = e1 at *
    generalize eqBx bs bs' = e2 at *
    generalize eqI rs rs' = e3 at *
    clear h1 h2 s1 t1 s2 t2 s3 t3
    cases e1
    · go_wp2_with fail
      go_ret
      exact ⟨ret_bool (by rw [HE.out]; simp), B2⟩
    go_wp2_with fail
    refine C2.out.mono ?_
    rintro e w2 ⟨rfl, m, rfl⟩
    cases e2
    · go_wp2_with fail
      go_ret
      exact ⟨ret_bool (by rw [HE.out]; simp), B3.out m⟩
    go_wp2_with fail
    refine (C3.out m).mono ?_
    rintro e w3 ⟨rfl, k, rfl⟩
    cases e3
    · go_wp2_with fail
      go_ret
      exact ⟨ret_bool (by rw [HE.out]; simp), B3.out (m + k)⟩
    by_cases hy : y = y'
    · have hyy : (y == y') = true := by simpa using hy
      rw [decide_eq_true hy] at HE
      clear hy
      go_wp2_with fail
      go_ret
      exact ⟨ret_bool (by rw [HE.out]; simp), B3.out (m + k)⟩
    · have hyy : (y == y') = false := by simpa using hy
      rw [decide_eq_false hy] at HE
      clear hy
      go_wp2_with fail
      go_ret
      exact ⟨ret_bool (by rw [HE.out]; simp), B3.out (m + k)⟩
  · have hxx : (x == x') = false := by simpa using hx
    rw [decide_eq_false hx] at HE
    clear hx
    go_enter Tryz.func14, Tryz.ntmps14
    go_wp2_with fail
    go_ret
    exact ⟨ret_bool (by rw [HE.out]; simp), ((Below.refl _ _).alloc (Nat.le_refl _) _).alloc (by simp) _⟩

theorem prefix_eq {bs bs' : List Bx} (h : bs.take bs.length = bs'.take bs.length) (hl : bs.length = bs'.length) : eqBx bs bs' = true := by
  rw [List.take_length, hl, List.take_length] at h
  simp [eqBx, h]
theorem at_ne {bs bs' : List Bx} {k : Nat} {b d : Bx} (hb : bs[k]? = some b) (hd : bs'[k]? = some d) (h : ¬ b = d) : eqBx bs bs' = false := by
  unfold eqBx
  rw [decide_eq_false_iff_not]
  rintro rfl
  rw [hb] at hd
  injection hd with hd
  exact h hd

set_option maxHeartbeats 4000000 in
theorem sSameCore_any (B : Nat) (x y x' y' : Int) (v1 v2 v3 u1 u2 u3 : Value) (zs : List Int) (bs : List Bx) (rs : List Int) (zs' : List Int) (bs' : List Bx) (rs' : List Int) (w : World) (hB : B ≤ w.heap.size)
    (s1 : SeeI w B v1 zs) (s2 : SeeBx w B v2 bs) (s3 : SeeI w B v3 rs) (t1 : SeeI w B u1 zs') (t2 : SeeBx w B u2 bs') (t3 : SeeI w B u3 rs') :
    Calls Tryz.prog 15 #[.agg #[.int .i64 x, v1, v2, v3, .int .i64 y], .agg #[.int .i64 x', u1, u2, u3, .int .i64 y']] w (BoolLt w (sameB x zs bs rs y x' zs' bs' rs' y')) := by
  have m2 := s2.len
  have m5 := t2.len
  unfold maxLen at m2 m5
  obtain ⟨A1, c1, rfl⟩ := s1.shape
  obtain ⟨A2, c2, rfl⟩ := s2.shape
  obtain ⟨A3, c3, rfl⟩ := s3.shape
  obtain ⟨A4, c4, rfl⟩ := t1.shape
  obtain ⟨A5, c5, rfl⟩ := t2.shape
  obtain ⟨A6, c6, rfl⟩ := t3.shape
  have H0 : Hid (∃ W, W = (w.alloc (.cells #[.int .i64 x, .slice A1 zs.length c1, .slice A2 bs.length c2, .slice A3 rs.length c3, .int .i64 y] 27)).alloc (.cells #[.int .i64 x', .slice A4 zs'.length c4, .slice A5 bs'.length c5, .slice A6 rs'.length c6, .int .i64 y'] 27) ∧
      W.heap[w.heap.size]? = some (.cells #[.int .i64 x, .slice A1 zs.length c1, .slice A2 bs.length c2, .slice A3 rs.length c3, .int .i64 y] 27 (0, 0)) ∧
      W.heap[w.heap.size + 1]? = some (.cells #[.int .i64 x', .slice A4 zs'.length c4, .slice A5 bs'.length c5, .slice A6 rs'.length c6, .int .i64 y'] 27 (0, 0)) ∧ Below w.heap.size w W) :=
    Lib.hid ⟨_, rfl, alloc_old (heap_alloc_new _ _) _, by have := heap_alloc_new (w.alloc (.cells #[.int .i64 x, .slice A1 zs.length c1, .slice A2 bs.length c2, .slice A3 rs.length c3, .int .i64 y] 27)) (.cells #[.int .i64 x', .slice A4 zs'.length c4, .slice A5 bs'.length c5, .slice A6 rs'.length c6, .int .i64 y'] 27); rwa [World.size_alloc] at this,
      ((Below.refl _ _).alloc (Nat.le_refl _) _).alloc (by simp) _⟩
  have HE : Hid (sameB x zs bs rs y x' zs' bs' rs' y' = (decide (x = x') && eqI zs zs' && eqBx bs bs' && eqI rs rs' && decide (y = y'))) := Lib.hid rfl
  have HL : Hid (¬ bs.length = bs'.length → eqBx bs bs' = false) := Lib.hid (fun h => by
    unfold eqBx
    rw [decide_eq_false_iff_not]
    rintro rfl
    exact h rfl)
  by_cases hx : x = x'
  · have hxx : (x != x') = false := by simpa using hx
    rw [decide_eq_true hx] at HE
    clear hx
    go_enter Tryz.func15, Tryz.ntmps15
    go_wp2_with fail
    obtain ⟨W, hW, h1, h2, bW⟩ := H0.out
    rw [← hW]
    clear hW H0
    replace s1 := s1.below (bW.mono hB)
    replace s2 := s2.below (bW.mono hB)
    replace s3 := s3.below (bW.mono hB)
    replace t1 := t1.below (bW.mono hB)
    replace t2 := t2.below (bW.mono hB)
    replace t3 := t3.below (bW.mono hB)
    refine (sameI_any B _ _ zs zs' _ s1 t1).mono ?_
    rintro e w' ⟨rfl, n, rfl⟩
    have C3 := Lib.hid (sameI_any B _ _ rs rs' (W.drewN n) (s3.drewN n) (t3.drewN n))
    have S2 := Lib.hid (fun m => (s2.below (below_drewN (Below.refl _ _) n)).below (below_drewN (Below.refl _ _) m))
    have T2 := Lib.hid (fun m => (t2.below (below_drewN (Below.refl _ _) n)).below (below_drewN (Below.refl _ _) m))
    have B2 := below_drewN bW n
    have B3 := Lib.hid (fun m => below_drewN (below_drewN bW n) m)
    have k1 : (W.drewN n).heap[w.heap.size]? = _ := h1
    have k2 : (W.drewN n).heap[w.heap.size + 1]? = _ := h2
    generalize W.drewN n = W1 at *
    obtain ⟨p0, p1, p2, p3, p4⟩ := cells5 k1
    obtain ⟨q0, q1, q2, q3, q4⟩ := cells5 k2
    generalize eqI zs zs' = e1 at *
    generalize eqI rs rs' = e3 at *
    clear h1 h2 s1 t1 s2 t2 s3 t3
    cases e1
    · go_wp2_with fail
      go_ret
      exact ⟨ret_bool (by rw [HE.out]; simp), B2⟩
    go_wp2_with fail
    refine C3.out.mono ?_
    rintro e w2 ⟨rfl, m, rfl⟩
    cases e3
    · go_wp2_with fail
      go_ret
      exact ⟨ret_bool (by rw [HE.out]; simp), B3.out m⟩
    by_cases hy : y = y'
    · have hyy : (y != y') = false := by simpa using hy
      rw [decide_eq_true hy] at HE
      clear hy
      by_cases hl : bs.length = bs'.length
      · have hll : ((bs.length : Int) != (bs'.length : Int)) = false := by simp [hl]
        have HLN := Lib.hid hl
        clear hl HL
        replace S2 := Lib.hid (S2.out m)
        replace T2 := Lib.hid (T2.out m)
        have bb := B3.out m
        clear B3 B2 C3
        replace k1 : (W1.drewN m).heap[w.heap.size]? = _ := k1
        replace k2 : (W1.drewN m).heap[w.heap.size + 1]? = _ := k2
        go_wp2_with fail
        generalize W1.drewN m = W2 at *
        clear p0 p1 p2 p3 p4 q0 q1 q2 q3 q4 hll
        obtain ⟨p0, p1, p2, p3, p4⟩ := cells5 k1
        obtain ⟨q0, q1, q2, q3, q4⟩ := cells5 k2
        clear p0 p1 p3 p4 q0 q1 q3 q4 k1 k2
        go_loopw [5] (fun i wr => ∃ k m : Nat, k ≤ bs.length ∧ i = .int .i64 k ∧ bs.take k = bs'.take k ∧ wr = W2.drewN m) (fun i _ => bs.length - (intOf i).toNat)
        case atStart => exact ⟨0, 0, Nat.zero_le _, rfl, rfl, rfl⟩
        case round =>
          obtain ⟨k, j, hk, rfl, ht, rfl⟩ := hrel
          have HT := Lib.hid ht
          clear ht
          by_cases hlt : k < bs.length
          · have hlt' : k < bs'.length := by have := HLN.out; omega
            have hb := List.getElem?_eq_getElem hlt
            generalize bs[k] = b at hb
            have hd := List.getElem?_eq_getElem hlt'
            generalize bs'[k] = d at hd
            obtain ⟨g, o, rfl, -, c0, c1'⟩ := S2.out.at_ hb
            obtain ⟨g', o', rfl, -, d0, d1'⟩ := T2.out.at_ hd
            obtain ⟨na, xa⟩ := b
            obtain ⟨nb, xb⟩ := d
            dsimp only at c0 c1' d0 d1'
            have HX := Lib.hid hb
            have HY := Lib.hid hd
            have hne := fun W => neq_box na nb xa xb W
            have hgd := fun op a b W => guard_box op a b na nb xa xb W
            clear hb hd
            by_cases hxy : (na, xa) = (nb, xb)
            · have HR : Hid (bs.take (k + 1) = bs'.take (k + 1)) := Lib.hid (takes_more HT.out HX.out (by rw [hxy]; exact HY.out))
              rw [decide_eq_true hxy] at hne
              simp only [Bool.not_true] at hne
              clear hxy
              go_wp2_with fail
              go_quiet (fail)
              go_wp2
              go_roundw
              case rel => exact ⟨k + 1, _, by omega, by go_num, HR.out, rfl⟩
              case measure => simp [intOf]; omega
            · have HQ : Hid (eqBx bs bs' = false) := Lib.hid (at_ne HX.out HY.out hxy)
              rw [decide_eq_false hxy] at hne
              simp only [Bool.not_false] at hne
              clear hxy
              go_wp2_with fail
              go_quiet (fail)
              go_wp2
              go_ret
              exact ⟨ret_bool (by rw [HE.out, HQ.out]; simp), below_drewN (below_drewN bb _) _⟩
          · have HQ : Hid (eqBx bs bs' = true) := Lib.hid (prefix_eq (by have := HT.out; rwa [show k = bs.length by omega] at this) HLN.out)
            go_wp2_with fail
            go_ret
            exact ⟨ret_bool (by rw [HE.out, HQ.out]; simp), below_drewN bb _⟩
      · have hll : ((bs.length : Int) != (bs'.length : Int)) = true := by simp; omega
        have HQ := Lib.hid (HL.out hl)
        clear hl
        go_wp2_with fail
        go_ret
        exact ⟨ret_bool (by rw [HE.out, HQ.out]; simp), B3.out m⟩
    · have hyy : (y != y') = true := by simpa using hy
      rw [decide_eq_false hy] at HE
      clear hy
      go_wp2_with fail
      go_ret
      exact ⟨ret_bool (by rw [HE.out]; simp), B3.out m⟩
  · have hxx : (x != x') = true := by simpa using hx
    rw [decide_eq_false hx] at HE
    clear hx
    go_enter Tryz.func15, Tryz.ntmps15
    go_wp2_with fail
    go_ret
    exact ⟨ret_bool (by rw [HE.out]; simp), ((Below.refl _ _).alloc (Nat.le_refl _) _).alloc (by simp) _⟩

end Go.Proofs.YtigcbegeaikfcaaGreatDoor
