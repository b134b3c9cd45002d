/- Layer 9 (the player): the model's l9Step. No conditions but those typed. -/
import Derived.Test.YtpmdfogncoapjaaGreatDoorCoreX
namespace Go.Proofs.YtpmdfogncoapjaaGreatDoor
open Go.RowKit
set_option linter.unusedVariables false

theorem stepS_ran {x : Int} {zs : List Int} {bs : List Bx} {rs : List Int} {y : Int} {os : List Opv} {ss : List (List Int)} (h : ¬ y = 0) : stepS ⟨x, zs, bs, rs, y⟩ os ss = onS ⟨x, zs, bs, rs, y⟩ := by
  unfold stepS; rw [if_pos h]
theorem stepS_out {x : Int} {zs : List Int} {bs : List Bx} {rs : List Int} {os : List Opv} {ss : List (List Int)} (h : os[x.toNat]? = none) : stepS ⟨x, zs, bs, rs, 0⟩ os ss = endS ⟨x, zs, bs, rs, 0⟩ 4 := by
  unfold stepS; rw [if_neg (by simp)]; simp only [h]
theorem stepS_bad {x : Int} {zs : List Int} {bs : List Bx} {rs : List Int} {os : List Opv} {ss : List (List Int)} {o : Opv} (h : os[x.toNat]? = some o) (hb : badS ⟨x, zs, bs, rs, 0⟩ o ss = true) : stepS ⟨x, zs, bs, rs, 0⟩ os ss = endS ⟨x, zs, bs, rs, 0⟩ 4 := by
  unfold stepS; rw [if_neg (by simp)]; simp only [h]; rw [if_pos hb]
theorem stepS_do {x : Int} {zs : List Int} {bs : List Bx} {rs : List Int} {os : List Opv} {ss : List (List Int)} {o : Opv} (h : os[x.toNat]? = some o) (hb : badS ⟨x, zs, bs, rs, 0⟩ o ss = false) : stepS ⟨x, zs, bs, rs, 0⟩ os ss = doS ⟨x, zs, bs, rs, 0⟩ o ss := by
  unfold stepS; rw [if_neg (by simp)]; simp only [h]; rw [if_neg (by rw [hb]; simp)]
theorem SeeSS.alloc2 {w : World} {B : Nat} {v : Value} {ss : List (List Int)} (h : SeeSS w B v ss) (hB : B ≤ w.heap.size) (a b : Obj) : SeeSS ((w.alloc a).alloc b) B v ss :=
  h.below ((((Below.refl _ _).alloc (Nat.le_refl _) _).alloc (by simp) _).mono hB)

set_option maxHeartbeats 8000000 in
set_option maxRecDepth 100000 in
theorem l9Step_any (B : Nat) (x y : Int) (v1 v2 v3 vo vs : Value) (zs : List Int) (bs : List Bx) (rs : List Int) (os : List Opv) (ss : List (List Int)) (w : World) (s1 : SeeI w B v1 zs) (s2 : SeeBx w B v2 bs) (s3 : SeeI w B v3 rs) (so : SeeOp w B vo os) (sv : SeeSS w B vs ss) (hB : B ≤ w.heap.size)
    (n1 : nilOk v1) (n2 : nilOk v2) (n3 : nilOk v3) (hR : RightC x zs bs rs y) (hco : y = 0 → codeB os = true) :
    Calls Tryz.prog 54 #[.agg #[.int .i64 x, v1, v2, v3, .int .i64 y], vo, vs] w (StepOut w.heap.size (stepS ⟨x, zs, bs, rs, y⟩ os ss) w) := by
  have hol := so.len
  have hsl := sv.len
  unfold maxLen at hol hsl
  obtain ⟨A1, c1, rfl⟩ := s1.shape
  obtain ⟨A2, c2, rfl⟩ := s2.shape
  obtain ⟨A3, c3, rfl⟩ := s3.shape
  obtain ⟨Ao, co, rfl⟩ := so.shape
  obtain ⟨As, cs, rfl⟩ := sv.shape
  have HRC := Lib.hid hR
  have hx0 := hR.x0
  have hx1 := hR.x1
  have hz60 := hR.zl
  have hbl := hR.b12
  have hr4 : rs.length ≤ 4 := by have := hR.r4; omega
  have H0 : Hid (∃ W, W = (w.alloc (.cells #[.int .i64 x, .slice A1 zs.length c1, .slice A2 bs.length c2, .slice A3 rs.length c3, .int .i64 y] 27)).alloc
      (.cells #[.int .i64 0, .slice none 0 0, .slice none 0 0, .slice none 0 0, .int .i64 0, .bool false, .int .i64 0, .int .i64 0] 33) ∧
      (W.heap[w.heap.size]? = some (.cells #[.int .i64 x, .slice A1 zs.length c1, .slice A2 bs.length c2, .slice A3 rs.length c3, .int .i64 y] 27 (0, 0)) ∧
      W.heap[w.heap.size + 1]? = some (.cells #[.int .i64 0, .slice none 0 0, .slice none 0 0, .slice none 0 0, .int .i64 0, .bool false, .int .i64 0, .int .i64 0] 33 (0, 0))) ∧ Below w.heap.size w W ∧ W.heap.size = w.heap.size + 2) :=
    Lib.hid ⟨_, rfl, ⟨alloc_old (heap_alloc_new _ _) _, alloc_at _ _ (by simp) rfl⟩, ((Below.refl _ _).alloc (Nat.le_refl _) _).alloc (by simp) _, by simp⟩
  obtain ⟨st, hst⟩ : ∃ st, st = stepS ⟨x, zs, bs, rs, y⟩ os ss := ⟨_, rfl⟩
  rw [← hst]
  have HST := Lib.hid hst
  clear hst
  have HCO : Hid (y = 0 → ∀ o ∈ os, opB o = true) := Lib.hid (fun hy o ho => by
    have hc := hco hy
    unfold codeB at hc
    rw [Bool.and_eq_true] at hc
    exact List.all_eq_true.1 hc.2 o ho)
  clear hco hR
  go_enter Tryz.func54, Tryz.ntmps54
  go_wp2_with fail
  obtain ⟨W, hW, hrow, bW, hsz⟩ := H0.out
  rw [← hW]
  clear hW H0
  have HN := Lib.hid hsz
  clear hsz
  have hBW := Nat.le_trans hB bW.size
  refine (l9Copy_any B x y _ _ _ zs bs rs W (s1.below (bW.mono hB)) (s2.below (bW.mono hB)) (s3.below (bW.mono hB)) hBW n1 n2 n3 (by omega) (by omega) (by omega)).mono ?_
  rintro e w1 ⟨g1, g2, g3, d1, d2, d3, rfl, OC, b1⟩
  replace hrow := two_later hrow b1
  replace bW := below_then bW b1 (Nat.le_refl _)
  rw [HN.out] at OC
  have so1 := so.below (bW.mono hB)
  have sv1 := sv.below (bW.mono hB)
  have hsz1 : w.heap.size + 2 ≤ w1.heap.size := by have := b1.size; have := HN.out; omega
  clear s1 s2 s3 so sv n1 n2 n3 b1
  obtain ⟨p0, p1, p2, p3, p4⟩ := cells5 hrow.1
  have f0 := frozen_row (k := 0) hrow.1
  have f1 := frozen_row (k := 1) hrow.1
  have f2 := frozen_row (k := 2) hrow.1
  have f3 := frozen_row (k := 3) hrow.1
  have f4 := frozen_row (k := 4) hrow.1
  go_upto_region 2 with fail
  have hsame : ∀ k, k ≠ w.heap.size → (set5 w1 w.heap.size (.int .i64 x) (.slice (some ⟨g1, 0, none⟩) zs.length d1) (.slice (some ⟨g2, 0, none⟩) bs.length d2) (.slice (some ⟨g3, 0, none⟩) rs.length d3) (.int .i64 y)).heap[k]? = w1.heap[k]? := fun k hk => set5_other hk
  have RK := set5_blk hrow.1 (.int .i64 x) (.slice (some ⟨g1, 0, none⟩) zs.length d1) (.slice (some ⟨g2, 0, none⟩) bs.length d2) (.slice (some ⟨g3, 0, none⟩) rs.length d3) (.int .i64 y)
  have RR := (hsame (w.heap.size + 1) (by omega)).trans hrow.2
  have bK := set5_below bW (Nat.le_refl w.heap.size) (.int .i64 x) (.slice (some ⟨g1, 0, none⟩) zs.length d1) (.slice (some ⟨g2, 0, none⟩) bs.length d2) (.slice (some ⟨g3, 0, none⟩) rs.length d3) (.int .i64 y)
  have b12 := set5_below (Below.refl w.heap.size w1) (Nat.le_refl w.heap.size) (.int .i64 x) (.slice (some ⟨g1, 0, none⟩) zs.length d1) (.slice (some ⟨g2, 0, none⟩) bs.length d2) (.slice (some ⟨g3, 0, none⟩) rs.length d3) (.int .i64 y)
  have OD := OC.set5 (N := w.heap.size) (fun q => by have := (OC.lt _ q).1; omega) (.int .i64 x) (.slice (some ⟨g1, 0, none⟩) zs.length d1) (.slice (some ⟨g2, 0, none⟩) bs.length d2) (.slice (some ⟨g3, 0, none⟩) rs.length d3) (.int .i64 y)
  unfold set5 at RK RR bK OD b12
  clear hsame OC bW hrow p0 p1 p2 p3 p4 f0 f1 f2 f3 f4
  generalize World.setCell _ _ _ = V at *
  have so2 := so1.below (b12.mono hB)
  have sv2 := sv1.below (b12.mono hB)
  have hV : w.heap.size + 2 ≤ V.heap.size := Nat.le_trans hsz1 b12.size
  have OC := OD
  have bW := bK
  clear so1 sv1 b12 OD bK hsz1
  obtain ⟨p0, p1, p2, p3, p4⟩ := cells5 RK
  by_cases hy : y = 0
  · subst hy
    by_cases hx : x < os.length
    · obtain ⟨xn, rfl⟩ : ∃ q : Nat, x = q := ⟨x.toNat, by omega⟩
      have hxn : xn < os.length := by omega
      have ho := List.getElem?_eq_getElem hxn
      generalize os[xn] = o at ho
      have HOP := Lib.hid (HCO.out rfl o (List.mem_of_getElem? ho))
      obtain ⟨go, oo, rfl, -, e0, e1, e2⟩ := so2.at_ ho
      have HO : Hid (os[((xn : Int)).toNat]? = some o) := Lib.hid (by rw [Int.toNat_natCast]; exact ho)
      obtain ⟨a, m, s⟩ := o
      dsimp only at e0 e1 e2
      have bA := below_new V (.cells #[.int .i64 a, .int .i64 m, str s] 41)
      have RO := heap_alloc_new V (.cells #[.int .i64 a, .int .i64 m, str s] 41)
      clear ho
      go_wp2_with fail
      replace RK := row_later RK bA
      replace RR := row_later RR bA
      replace OC := OC.later bA
      replace bW := below_then bW bA (Nat.le_refl _)
      have sv3 := sv2.below (bA.mono (by omega))
      have hV2 := Nat.le_trans hV bA.size
      clear p0 p1 p2 p3 p4 e0 e1 e2 so2 sv2 bA
      generalize V.alloc _ = V2 at *
      generalize V.heap.size = M at *
      refine (l9Turn_any a m s _).mono ?_
      rintro e w2 ⟨rfl, b2⟩
      replace RK := row_later RK b2
      replace RR := row_later RR b2
      replace RO := row_later RO b2
      replace OC := OC.later b2
      replace bW := below_then bW b2 (Nat.le_refl _)
      have sv4 := sv3.below (b2.mono (by omega))
      have hV3 := Nat.le_trans hV2 b2.size
      clear b2 sv3
      obtain ⟨p0, p1, p2, p3, p4⟩ := cells5 RK
      obtain ⟨q0, q1, q2⟩ := cells3 RO
      have HBAD : Hid (badS ⟨(xn : Int), zs, bs, rs, 0⟩ (a, m, s) ss = (decide (zs.length < needS a) || (decide (a = 1 ∨ a = 2) && decide (60 < zs.length + 1)) || (decide (a = 5 ∨ a = 6) && decide ((ss.length : Int) ≤ m)))) := Lib.hid rfl
      have HMO : Hid ((60 < (zs.length : Int) + (if a = 1 ∨ a = 2 then (1 : Int) else if a = 3 ∨ a = 4 ∨ a = 6 ∨ a = 8 then -1 else 0)) ↔ ((a = 1 ∨ a = 2) ∧ 60 < zs.length + 1)) := Lib.hid (by
        by_cases h12 : a = 1 ∨ a = 2
        · rw [if_pos h12]; constructor
          · intro h; exact ⟨h12, by omega⟩
          · intro h; omega
        · rw [if_neg h12]; constructor
          · intro h; split at h <;> omega
          · intro h; exact absurd h.1 h12)
      have hmo1 : -1 ≤ (if a = 1 ∨ a = 2 then (1 : Int) else if a = 3 ∨ a = 4 ∨ a = 6 ∨ a = 8 then -1 else 0) ∧ (if a = 1 ∨ a = 2 then (1 : Int) else if a = 3 ∨ a = 4 ∨ a = 6 ∨ a = 8 then -1 else 0) ≤ 1 := by
        split <;> (try split) <;> omega
      have hnd : needS a ≤ 2 := by unfold needS; split <;> (try split) <;> omega
      generalize (if a = 1 ∨ a = 2 then (1 : Int) else if a = 3 ∨ a = 4 ∨ a = 6 ∨ a = 8 then -1 else 0) = mo at *
      obtain ⟨nd, hnde⟩ : ∃ q, needS a = q := ⟨_, rfl⟩
      rw [hnde] at HBAD hnd ⊢
      clear hnde
      obtain ⟨hmo2, hmo3⟩ := hmo1
      by_cases hA : zs.length < nd
      · have hA' : (zs.length : Int) < (nd : Int) := by omega
        have HBT : Hid (badS ⟨(xn : Int), zs, bs, rs, 0⟩ (a, m, s) ss = true) := Lib.hid (by rw [HBAD.out, decide_eq_true hA]; rfl)
        by_cases h5 : a = 5
        · subst h5
          obtain rfl : st = endS ⟨(xn : Int), zs, bs, rs, 0⟩ 4 := HST.out.trans (stepS_bad HO.out HBT.out)
          go_wp2_with fail
          refine (l9Bad_any (xn : Int) 0 _ _ _ _ _ _ _ _ _ _).mono ?_
          rintro e w3 ⟨rfl, b3⟩
          replace RR := row_later RR b3
          replace OC := OC.later b3
          replace bW := below_then bW b3 (Nat.le_refl _)
          clear b3 p0 p1 p2 p3 p4 q0 q1 q2 RK RO sv4
          obtain ⟨r0, r1, r2, r3, r4, r5, r6, r7⟩ := cells8 RR
          have f0 := frozen_row (k := 0) RR
          have f1 := frozen_row (k := 1) RR
          have f2 := frozen_row (k := 2) RR
          have f3 := frozen_row (k := 3) RR
          have f4 := frozen_row (k := 4) RR
          have f5 := frozen_row (k := 5) RR
          have f6 := frozen_row (k := 6) RR
          have f7 := frozen_row (k := 7) RR
          have ZB := Lib.hid (set8_blk RR (.int .i64 ((xn : Int))) (.slice (some ⟨g1, 0, none⟩) zs.length d1) (.slice (some ⟨g2, 0, none⟩) bs.length d2) (.slice (some ⟨g3, 0, none⟩) rs.length d3) (.int .i64 (4)) (.bool false) (.int .i64 0) (.int .i64 0))
          have OZ := Lib.hid (OC.set8 (N := w.heap.size + 1) (fun q => by have := (OC.lt _ q).1; omega) (.int .i64 ((xn : Int))) (.slice (some ⟨g1, 0, none⟩) zs.length d1) (.slice (some ⟨g2, 0, none⟩) bs.length d2) (.slice (some ⟨g3, 0, none⟩) rs.length d3) (.int .i64 (4)) (.bool false) (.int .i64 0) (.int .i64 0))
          have BZ := Lib.hid (set8_below bW (show w.heap.size ≤ w.heap.size + 1 by omega) (.int .i64 ((xn : Int))) (.slice (some ⟨g1, 0, none⟩) zs.length d1) (.slice (some ⟨g2, 0, none⟩) bs.length d2) (.slice (some ⟨g3, 0, none⟩) rs.length d3) (.int .i64 (4)) (.bool false) (.int .i64 0) (.int .i64 0))
          unfold set8 at ZB OZ BZ
          clear RR OC bW
          go_wp2_with fail
          generalize World.setCell _ _ _ = Wc at *
          obtain ⟨y0, y1, y2, y3, y4, y5, y6, y7⟩ := cells8 ZB.out
          exact bodyPost_ret (v := .agg #[.int .i64 ((xn : Int)), .slice (some ⟨g1, 0, none⟩) zs.length d1, .slice (some ⟨g2, 0, none⟩) bs.length d2, .slice (some ⟨g3, 0, none⟩) rs.length d3, .int .i64 (4), .bool false, .int .i64 0, .int .i64 0]) (by simp [results, Tryz.results54, go_sem, y0, y1, y2, y3, y4, y5, y6, y7]) rfl (StepOut.mk rfl rfl rfl (OZ.out.less (by omega)) BZ.out)
        · have h5' : (a == 5) = false := by simpa using h5
          by_cases h6 : a = 6
          · subst h6
            obtain rfl : st = endS ⟨(xn : Int), zs, bs, rs, 0⟩ 4 := HST.out.trans (stepS_bad HO.out HBT.out)
            go_wp2_with fail
            refine (l9Bad_any (xn : Int) 0 _ _ _ _ _ _ _ _ _ _).mono ?_
            rintro e w3 ⟨rfl, b3⟩
            replace RR := row_later RR b3
            replace OC := OC.later b3
            replace bW := below_then bW b3 (Nat.le_refl _)
            clear b3 p0 p1 p2 p3 p4 q0 q1 q2 RK RO sv4
            obtain ⟨r0, r1, r2, r3, r4, r5, r6, r7⟩ := cells8 RR
            have f0 := frozen_row (k := 0) RR
            have f1 := frozen_row (k := 1) RR
            have f2 := frozen_row (k := 2) RR
            have f3 := frozen_row (k := 3) RR
            have f4 := frozen_row (k := 4) RR
            have f5 := frozen_row (k := 5) RR
            have f6 := frozen_row (k := 6) RR
            have f7 := frozen_row (k := 7) RR
            have ZB := Lib.hid (set8_blk RR (.int .i64 ((xn : Int))) (.slice (some ⟨g1, 0, none⟩) zs.length d1) (.slice (some ⟨g2, 0, none⟩) bs.length d2) (.slice (some ⟨g3, 0, none⟩) rs.length d3) (.int .i64 (4)) (.bool false) (.int .i64 0) (.int .i64 0))
            have OZ := Lib.hid (OC.set8 (N := w.heap.size + 1) (fun q => by have := (OC.lt _ q).1; omega) (.int .i64 ((xn : Int))) (.slice (some ⟨g1, 0, none⟩) zs.length d1) (.slice (some ⟨g2, 0, none⟩) bs.length d2) (.slice (some ⟨g3, 0, none⟩) rs.length d3) (.int .i64 (4)) (.bool false) (.int .i64 0) (.int .i64 0))
            have BZ := Lib.hid (set8_below bW (show w.heap.size ≤ w.heap.size + 1 by omega) (.int .i64 ((xn : Int))) (.slice (some ⟨g1, 0, none⟩) zs.length d1) (.slice (some ⟨g2, 0, none⟩) bs.length d2) (.slice (some ⟨g3, 0, none⟩) rs.length d3) (.int .i64 (4)) (.bool false) (.int .i64 0) (.int .i64 0))
            unfold set8 at ZB OZ BZ
            clear RR OC bW
            go_wp2_with fail
            generalize World.setCell _ _ _ = Wc at *
            obtain ⟨y0, y1, y2, y3, y4, y5, y6, y7⟩ := cells8 ZB.out
            exact bodyPost_ret (v := .agg #[.int .i64 ((xn : Int)), .slice (some ⟨g1, 0, none⟩) zs.length d1, .slice (some ⟨g2, 0, none⟩) bs.length d2, .slice (some ⟨g3, 0, none⟩) rs.length d3, .int .i64 (4), .bool false, .int .i64 0, .int .i64 0]) (by simp [results, Tryz.results54, go_sem, y0, y1, y2, y3, y4, y5, y6, y7]) rfl (StepOut.mk rfl rfl rfl (OZ.out.less (by omega)) BZ.out)
          · have h6' : (a == 6) = false := by simpa using h6
            clear h5 h6
            obtain rfl : st = endS ⟨(xn : Int), zs, bs, rs, 0⟩ 4 := HST.out.trans (stepS_bad HO.out HBT.out)
            go_wp2_with fail
            refine (l9Bad_any (xn : Int) 0 _ _ _ _ _ _ _ _ _ _).mono ?_
            rintro e w3 ⟨rfl, b3⟩
            replace RR := row_later RR b3
            replace OC := OC.later b3
            replace bW := below_then bW b3 (Nat.le_refl _)
            clear b3 p0 p1 p2 p3 p4 q0 q1 q2 RK RO sv4
            obtain ⟨r0, r1, r2, r3, r4, r5, r6, r7⟩ := cells8 RR
            have f0 := frozen_row (k := 0) RR
            have f1 := frozen_row (k := 1) RR
            have f2 := frozen_row (k := 2) RR
            have f3 := frozen_row (k := 3) RR
            have f4 := frozen_row (k := 4) RR
            have f5 := frozen_row (k := 5) RR
            have f6 := frozen_row (k := 6) RR
            have f7 := frozen_row (k := 7) RR
            have ZB := Lib.hid (set8_blk RR (.int .i64 ((xn : Int))) (.slice (some ⟨g1, 0, none⟩) zs.length d1) (.slice (some ⟨g2, 0, none⟩) bs.length d2) (.slice (some ⟨g3, 0, none⟩) rs.length d3) (.int .i64 (4)) (.bool false) (.int .i64 0) (.int .i64 0))
            have OZ := Lib.hid (OC.set8 (N := w.heap.size + 1) (fun q => by have := (OC.lt _ q).1; omega) (.int .i64 ((xn : Int))) (.slice (some ⟨g1, 0, none⟩) zs.length d1) (.slice (some ⟨g2, 0, none⟩) bs.length d2) (.slice (some ⟨g3, 0, none⟩) rs.length d3) (.int .i64 (4)) (.bool false) (.int .i64 0) (.int .i64 0))
            have BZ := Lib.hid (set8_below bW (show w.heap.size ≤ w.heap.size + 1 by omega) (.int .i64 ((xn : Int))) (.slice (some ⟨g1, 0, none⟩) zs.length d1) (.slice (some ⟨g2, 0, none⟩) bs.length d2) (.slice (some ⟨g3, 0, none⟩) rs.length d3) (.int .i64 (4)) (.bool false) (.int .i64 0) (.int .i64 0))
            unfold set8 at ZB OZ BZ
            clear RR OC bW
            go_wp2_with fail
            generalize World.setCell _ _ _ = Wc at *
            obtain ⟨y0, y1, y2, y3, y4, y5, y6, y7⟩ := cells8 ZB.out
            exact bodyPost_ret (v := .agg #[.int .i64 ((xn : Int)), .slice (some ⟨g1, 0, none⟩) zs.length d1, .slice (some ⟨g2, 0, none⟩) bs.length d2, .slice (some ⟨g3, 0, none⟩) rs.length d3, .int .i64 (4), .bool false, .int .i64 0, .int .i64 0]) (by simp [results, Tryz.results54, go_sem, y0, y1, y2, y3, y4, y5, y6, y7]) rfl (StepOut.mk rfl rfl rfl (OZ.out.less (by omega)) BZ.out)
      · have hA' : ¬ (zs.length : Int) < (nd : Int) := by omega
        by_cases hM : (60 : Int) < (zs.length : Int) + mo
        · have HBT : Hid (badS ⟨(xn : Int), zs, bs, rs, 0⟩ (a, m, s) ss = true) := Lib.hid (by
            have := HMO.out.1 hM
            rw [HBAD.out, decide_eq_true this.1, decide_eq_true this.2]
            simp)
          by_cases h5 : a = 5
          · subst h5
            obtain rfl : st = endS ⟨(xn : Int), zs, bs, rs, 0⟩ 4 := HST.out.trans (stepS_bad HO.out HBT.out)
            go_wp2_with fail
            refine (l9Bad_any (xn : Int) 0 _ _ _ _ _ _ _ _ _ _).mono ?_
            rintro e w3 ⟨rfl, b3⟩
            replace RR := row_later RR b3
            replace OC := OC.later b3
            replace bW := below_then bW b3 (Nat.le_refl _)
            clear b3 p0 p1 p2 p3 p4 q0 q1 q2 RK RO sv4
            obtain ⟨r0, r1, r2, r3, r4, r5, r6, r7⟩ := cells8 RR
            have f0 := frozen_row (k := 0) RR
            have f1 := frozen_row (k := 1) RR
            have f2 := frozen_row (k := 2) RR
            have f3 := frozen_row (k := 3) RR
            have f4 := frozen_row (k := 4) RR
            have f5 := frozen_row (k := 5) RR
            have f6 := frozen_row (k := 6) RR
            have f7 := frozen_row (k := 7) RR
            have ZB := Lib.hid (set8_blk RR (.int .i64 ((xn : Int))) (.slice (some ⟨g1, 0, none⟩) zs.length d1) (.slice (some ⟨g2, 0, none⟩) bs.length d2) (.slice (some ⟨g3, 0, none⟩) rs.length d3) (.int .i64 (4)) (.bool false) (.int .i64 0) (.int .i64 0))
            have OZ := Lib.hid (OC.set8 (N := w.heap.size + 1) (fun q => by have := (OC.lt _ q).1; omega) (.int .i64 ((xn : Int))) (.slice (some ⟨g1, 0, none⟩) zs.length d1) (.slice (some ⟨g2, 0, none⟩) bs.length d2) (.slice (some ⟨g3, 0, none⟩) rs.length d3) (.int .i64 (4)) (.bool false) (.int .i64 0) (.int .i64 0))
            have BZ := Lib.hid (set8_below bW (show w.heap.size ≤ w.heap.size + 1 by omega) (.int .i64 ((xn : Int))) (.slice (some ⟨g1, 0, none⟩) zs.length d1) (.slice (some ⟨g2, 0, none⟩) bs.length d2) (.slice (some ⟨g3, 0, none⟩) rs.length d3) (.int .i64 (4)) (.bool false) (.int .i64 0) (.int .i64 0))
            unfold set8 at ZB OZ BZ
            clear RR OC bW
            go_wp2_with fail
            generalize World.setCell _ _ _ = Wc at *
            obtain ⟨y0, y1, y2, y3, y4, y5, y6, y7⟩ := cells8 ZB.out
            exact bodyPost_ret (v := .agg #[.int .i64 ((xn : Int)), .slice (some ⟨g1, 0, none⟩) zs.length d1, .slice (some ⟨g2, 0, none⟩) bs.length d2, .slice (some ⟨g3, 0, none⟩) rs.length d3, .int .i64 (4), .bool false, .int .i64 0, .int .i64 0]) (by simp [results, Tryz.results54, go_sem, y0, y1, y2, y3, y4, y5, y6, y7]) rfl (StepOut.mk rfl rfl rfl (OZ.out.less (by omega)) BZ.out)
          · have h5' : (a == 5) = false := by simpa using h5
            by_cases h6 : a = 6
            · subst h6
              obtain rfl : st = endS ⟨(xn : Int), zs, bs, rs, 0⟩ 4 := HST.out.trans (stepS_bad HO.out HBT.out)
              go_wp2_with fail
              refine (l9Bad_any (xn : Int) 0 _ _ _ _ _ _ _ _ _ _).mono ?_
              rintro e w3 ⟨rfl, b3⟩
              replace RR := row_later RR b3
              replace OC := OC.later b3
              replace bW := below_then bW b3 (Nat.le_refl _)
              clear b3 p0 p1 p2 p3 p4 q0 q1 q2 RK RO sv4
              obtain ⟨r0, r1, r2, r3, r4, r5, r6, r7⟩ := cells8 RR
              have f0 := frozen_row (k := 0) RR
              have f1 := frozen_row (k := 1) RR
              have f2 := frozen_row (k := 2) RR
              have f3 := frozen_row (k := 3) RR
              have f4 := frozen_row (k := 4) RR
              have f5 := frozen_row (k := 5) RR
              have f6 := frozen_row (k := 6) RR
              have f7 := frozen_row (k := 7) RR
              have ZB := Lib.hid (set8_blk RR (.int .i64 ((xn : Int))) (.slice (some ⟨g1, 0, none⟩) zs.length d1) (.slice (some ⟨g2, 0, none⟩) bs.length d2) (.slice (some ⟨g3, 0, none⟩) rs.length d3) (.int .i64 (4)) (.bool false) (.int .i64 0) (.int .i64 0))
              have OZ := Lib.hid (OC.set8 (N := w.heap.size + 1) (fun q => by have := (OC.lt _ q).1; omega) (.int .i64 ((xn : Int))) (.slice (some ⟨g1, 0, none⟩) zs.length d1) (.slice (some ⟨g2, 0, none⟩) bs.length d2) (.slice (some ⟨g3, 0, none⟩) rs.length d3) (.int .i64 (4)) (.bool false) (.int .i64 0) (.int .i64 0))
              have BZ := Lib.hid (set8_below bW (show w.heap.size ≤ w.heap.size + 1 by omega) (.int .i64 ((xn : Int))) (.slice (some ⟨g1, 0, none⟩) zs.length d1) (.slice (some ⟨g2, 0, none⟩) bs.length d2) (.slice (some ⟨g3, 0, none⟩) rs.length d3) (.int .i64 (4)) (.bool false) (.int .i64 0) (.int .i64 0))
              unfold set8 at ZB OZ BZ
              clear RR OC bW
              go_wp2_with fail
              generalize World.setCell _ _ _ = Wc at *
              obtain ⟨y0, y1, y2, y3, y4, y5, y6, y7⟩ := cells8 ZB.out
              exact bodyPost_ret (v := .agg #[.int .i64 ((xn : Int)), .slice (some ⟨g1, 0, none⟩) zs.length d1, .slice (some ⟨g2, 0, none⟩) bs.length d2, .slice (some ⟨g3, 0, none⟩) rs.length d3, .int .i64 (4), .bool false, .int .i64 0, .int .i64 0]) (by simp [results, Tryz.results54, go_sem, y0, y1, y2, y3, y4, y5, y6, y7]) rfl (StepOut.mk rfl rfl rfl (OZ.out.less (by omega)) BZ.out)
            · have h6' : (a == 6) = false := by simpa using h6
              clear h5 h6
              obtain rfl : st = endS ⟨(xn : Int), zs, bs, rs, 0⟩ 4 := HST.out.trans (stepS_bad HO.out HBT.out)
              go_wp2_with fail
              refine (l9Bad_any (xn : Int) 0 _ _ _ _ _ _ _ _ _ _).mono ?_
              rintro e w3 ⟨rfl, b3⟩
              replace RR := row_later RR b3
              replace OC := OC.later b3
              replace bW := below_then bW b3 (Nat.le_refl _)
              clear b3 p0 p1 p2 p3 p4 q0 q1 q2 RK RO sv4
              obtain ⟨r0, r1, r2, r3, r4, r5, r6, r7⟩ := cells8 RR
              have f0 := frozen_row (k := 0) RR
              have f1 := frozen_row (k := 1) RR
              have f2 := frozen_row (k := 2) RR
              have f3 := frozen_row (k := 3) RR
              have f4 := frozen_row (k := 4) RR
              have f5 := frozen_row (k := 5) RR
              have f6 := frozen_row (k := 6) RR
              have f7 := frozen_row (k := 7) RR
              have ZB := Lib.hid (set8_blk RR (.int .i64 ((xn : Int))) (.slice (some ⟨g1, 0, none⟩) zs.length d1) (.slice (some ⟨g2, 0, none⟩) bs.length d2) (.slice (some ⟨g3, 0, none⟩) rs.length d3) (.int .i64 (4)) (.bool false) (.int .i64 0) (.int .i64 0))
              have OZ := Lib.hid (OC.set8 (N := w.heap.size + 1) (fun q => by have := (OC.lt _ q).1; omega) (.int .i64 ((xn : Int))) (.slice (some ⟨g1, 0, none⟩) zs.length d1) (.slice (some ⟨g2, 0, none⟩) bs.length d2) (.slice (some ⟨g3, 0, none⟩) rs.length d3) (.int .i64 (4)) (.bool false) (.int .i64 0) (.int .i64 0))
              have BZ := Lib.hid (set8_below bW (show w.heap.size ≤ w.heap.size + 1 by omega) (.int .i64 ((xn : Int))) (.slice (some ⟨g1, 0, none⟩) zs.length d1) (.slice (some ⟨g2, 0, none⟩) bs.length d2) (.slice (some ⟨g3, 0, none⟩) rs.length d3) (.int .i64 (4)) (.bool false) (.int .i64 0) (.int .i64 0))
              unfold set8 at ZB OZ BZ
              clear RR OC bW
              go_wp2_with fail
              generalize World.setCell _ _ _ = Wc at *
              obtain ⟨y0, y1, y2, y3, y4, y5, y6, y7⟩ := cells8 ZB.out
              exact bodyPost_ret (v := .agg #[.int .i64 ((xn : Int)), .slice (some ⟨g1, 0, none⟩) zs.length d1, .slice (some ⟨g2, 0, none⟩) bs.length d2, .slice (some ⟨g3, 0, none⟩) rs.length d3, .int .i64 (4), .bool false, .int .i64 0, .int .i64 0]) (by simp [results, Tryz.results54, go_sem, y0, y1, y2, y3, y4, y5, y6, y7]) rfl (StepOut.mk rfl rfl rfl (OZ.out.less (by omega)) BZ.out)
        · have HQ : Hid ((decide (zs.length < nd) || (decide (a = 1 ∨ a = 2) && decide (60 < zs.length + 1))) = false) := Lib.hid (by
            rw [decide_eq_false hA, Bool.false_or]
            by_cases h12 : a = 1 ∨ a = 2
            · rw [decide_eq_true h12, Bool.true_and, decide_eq_false_iff_not]
              intro q
              exact hM (HMO.out.2 ⟨h12, q⟩)
            · rw [decide_eq_false h12, Bool.false_and])
          have hM' : ¬ (60 : Int) < (zs.length : Int) + mo := hM
          by_cases h5 : a = 5
          · subst h5
            by_cases hg : (ss.length : Int) ≤ m
            · have HBT : Hid (badS ⟨(xn : Int), zs, bs, rs, 0⟩ (5, m, s) ss = true) := Lib.hid (by rw [HBAD.out, HQ.out, decide_eq_true hg]; rfl)
              obtain rfl : st = endS ⟨(xn : Int), zs, bs, rs, 0⟩ 4 := HST.out.trans (stepS_bad HO.out HBT.out)
              go_wp2_with fail
              refine (l9Bad_any (xn : Int) 0 _ _ _ _ _ _ _ _ _ _).mono ?_
              rintro e w3 ⟨rfl, b3⟩
              replace RR := row_later RR b3
              replace OC := OC.later b3
              replace bW := below_then bW b3 (Nat.le_refl _)
              clear b3 p0 p1 p2 p3 p4 q0 q1 q2 RK RO sv4
              obtain ⟨r0, r1, r2, r3, r4, r5, r6, r7⟩ := cells8 RR
              have f0 := frozen_row (k := 0) RR
              have f1 := frozen_row (k := 1) RR
              have f2 := frozen_row (k := 2) RR
              have f3 := frozen_row (k := 3) RR
              have f4 := frozen_row (k := 4) RR
              have f5 := frozen_row (k := 5) RR
              have f6 := frozen_row (k := 6) RR
              have f7 := frozen_row (k := 7) RR
              have ZB := Lib.hid (set8_blk RR (.int .i64 ((xn : Int))) (.slice (some ⟨g1, 0, none⟩) zs.length d1) (.slice (some ⟨g2, 0, none⟩) bs.length d2) (.slice (some ⟨g3, 0, none⟩) rs.length d3) (.int .i64 (4)) (.bool false) (.int .i64 0) (.int .i64 0))
              have OZ := Lib.hid (OC.set8 (N := w.heap.size + 1) (fun q => by have := (OC.lt _ q).1; omega) (.int .i64 ((xn : Int))) (.slice (some ⟨g1, 0, none⟩) zs.length d1) (.slice (some ⟨g2, 0, none⟩) bs.length d2) (.slice (some ⟨g3, 0, none⟩) rs.length d3) (.int .i64 (4)) (.bool false) (.int .i64 0) (.int .i64 0))
              have BZ := Lib.hid (set8_below bW (show w.heap.size ≤ w.heap.size + 1 by omega) (.int .i64 ((xn : Int))) (.slice (some ⟨g1, 0, none⟩) zs.length d1) (.slice (some ⟨g2, 0, none⟩) bs.length d2) (.slice (some ⟨g3, 0, none⟩) rs.length d3) (.int .i64 (4)) (.bool false) (.int .i64 0) (.int .i64 0))
              unfold set8 at ZB OZ BZ
              clear RR OC bW
              go_wp2_with fail
              generalize World.setCell _ _ _ = Wc at *
              obtain ⟨y0, y1, y2, y3, y4, y5, y6, y7⟩ := cells8 ZB.out
              exact bodyPost_ret (v := .agg #[.int .i64 ((xn : Int)), .slice (some ⟨g1, 0, none⟩) zs.length d1, .slice (some ⟨g2, 0, none⟩) bs.length d2, .slice (some ⟨g3, 0, none⟩) rs.length d3, .int .i64 (4), .bool false, .int .i64 0, .int .i64 0]) (by simp [results, Tryz.results54, go_sem, y0, y1, y2, y3, y4, y5, y6, y7]) rfl (StepOut.mk rfl rfl rfl (OZ.out.less (by omega)) BZ.out)
            · have HBF : Hid (badS ⟨(xn : Int), zs, bs, rs, 0⟩ (5, m, s) ss = false) := Lib.hid (by rw [HBAD.out, HQ.out, decide_eq_false hg]; rfl)
              have e0 := HST.out.trans (stepS_do HO.out HBF.out)
              have CD := Lib.hid (l9Do_any (w.heap.size + 2) (xn : Int) _ g1 g2 g3 d1 d2 d3 zs bs rs 0 _ ss w2 OC hV3 (sv4.more (by omega)) HRC.out HOP.out HBF.out)
              rw [← e0] at CD
              clear e0 HST
              go_wp2_with fail
              refine CD.out.mono ?_
              rintro e w3 ⟨k1, k2, k3, t1, t2, t3, rfl, OE, b3⟩
              replace RR := (b3.block (w.heap.size + 1) (by omega)).trans RR
              replace bW := bW.trans (b3.mono (by omega))
              clear OC
              have OC := OE
              clear b3 p0 p1 p2 p3 p4 q0 q1 q2 RK RO sv4 OE CD
              obtain ⟨r0, r1, r2, r3, r4, r5, r6, r7⟩ := cells8 RR
              have f0 := frozen_row (k := 0) RR
              have f1 := frozen_row (k := 1) RR
              have f2 := frozen_row (k := 2) RR
              have f3 := frozen_row (k := 3) RR
              have f4 := frozen_row (k := 4) RR
              have f5 := frozen_row (k := 5) RR
              have f6 := frozen_row (k := 6) RR
              have f7 := frozen_row (k := 7) RR
              have ZB := Lib.hid (set8_blk RR (.int .i64 (st.c.pl)) (.slice (some ⟨k1, 0, none⟩) st.c.pile.length t1) (.slice (some ⟨k2, 0, none⟩) st.c.bxs.length t2) (.slice (some ⟨k3, 0, none⟩) st.c.rds.length t3) (.int .i64 (st.c.cd)) (.bool st.says) (.int .i64 st.gate) (.int .i64 st.val))
              have OZ := Lib.hid (OC.set8 (N := w.heap.size + 1) (fun q => by have := (OC.lt _ q).1; omega) (.int .i64 (st.c.pl)) (.slice (some ⟨k1, 0, none⟩) st.c.pile.length t1) (.slice (some ⟨k2, 0, none⟩) st.c.bxs.length t2) (.slice (some ⟨k3, 0, none⟩) st.c.rds.length t3) (.int .i64 (st.c.cd)) (.bool st.says) (.int .i64 st.gate) (.int .i64 st.val))
              have BZ := Lib.hid (set8_below bW (show w.heap.size ≤ w.heap.size + 1 by omega) (.int .i64 (st.c.pl)) (.slice (some ⟨k1, 0, none⟩) st.c.pile.length t1) (.slice (some ⟨k2, 0, none⟩) st.c.bxs.length t2) (.slice (some ⟨k3, 0, none⟩) st.c.rds.length t3) (.int .i64 (st.c.cd)) (.bool st.says) (.int .i64 st.gate) (.int .i64 st.val))
              unfold set8 at ZB OZ BZ
              clear RR OC bW
              go_wp2_with fail
              generalize World.setCell _ _ _ = Wc at *
              obtain ⟨y0, y1, y2, y3, y4, y5, y6, y7⟩ := cells8 ZB.out
              exact bodyPost_ret (v := .agg #[.int .i64 (st.c.pl), .slice (some ⟨k1, 0, none⟩) st.c.pile.length t1, .slice (some ⟨k2, 0, none⟩) st.c.bxs.length t2, .slice (some ⟨k3, 0, none⟩) st.c.rds.length t3, .int .i64 (st.c.cd), .bool st.says, .int .i64 st.gate, .int .i64 st.val]) (by simp [results, Tryz.results54, go_sem, y0, y1, y2, y3, y4, y5, y6, y7]) rfl (StepOut.mk rfl rfl rfl (OZ.out.less (by omega)) BZ.out)
          · have h5' : (a == 5) = false := by simpa using h5
            by_cases h6 : a = 6
            · subst h6
              by_cases hg : (ss.length : Int) ≤ m
              · have HBT : Hid (badS ⟨(xn : Int), zs, bs, rs, 0⟩ (6, m, s) ss = true) := Lib.hid (by rw [HBAD.out, HQ.out, decide_eq_true hg]; rfl)
                obtain rfl : st = endS ⟨(xn : Int), zs, bs, rs, 0⟩ 4 := HST.out.trans (stepS_bad HO.out HBT.out)
                go_wp2_with fail
                refine (l9Bad_any (xn : Int) 0 _ _ _ _ _ _ _ _ _ _).mono ?_
                rintro e w3 ⟨rfl, b3⟩
                replace RR := row_later RR b3
                replace OC := OC.later b3
                replace bW := below_then bW b3 (Nat.le_refl _)
                clear b3 p0 p1 p2 p3 p4 q0 q1 q2 RK RO sv4
                obtain ⟨r0, r1, r2, r3, r4, r5, r6, r7⟩ := cells8 RR
                have f0 := frozen_row (k := 0) RR
                have f1 := frozen_row (k := 1) RR
                have f2 := frozen_row (k := 2) RR
                have f3 := frozen_row (k := 3) RR
                have f4 := frozen_row (k := 4) RR
                have f5 := frozen_row (k := 5) RR
                have f6 := frozen_row (k := 6) RR
                have f7 := frozen_row (k := 7) RR
                have ZB := Lib.hid (set8_blk RR (.int .i64 ((xn : Int))) (.slice (some ⟨g1, 0, none⟩) zs.length d1) (.slice (some ⟨g2, 0, none⟩) bs.length d2) (.slice (some ⟨g3, 0, none⟩) rs.length d3) (.int .i64 (4)) (.bool false) (.int .i64 0) (.int .i64 0))
                have OZ := Lib.hid (OC.set8 (N := w.heap.size + 1) (fun q => by have := (OC.lt _ q).1; omega) (.int .i64 ((xn : Int))) (.slice (some ⟨g1, 0, none⟩) zs.length d1) (.slice (some ⟨g2, 0, none⟩) bs.length d2) (.slice (some ⟨g3, 0, none⟩) rs.length d3) (.int .i64 (4)) (.bool false) (.int .i64 0) (.int .i64 0))
                have BZ := Lib.hid (set8_below bW (show w.heap.size ≤ w.heap.size + 1 by omega) (.int .i64 ((xn : Int))) (.slice (some ⟨g1, 0, none⟩) zs.length d1) (.slice (some ⟨g2, 0, none⟩) bs.length d2) (.slice (some ⟨g3, 0, none⟩) rs.length d3) (.int .i64 (4)) (.bool false) (.int .i64 0) (.int .i64 0))
                unfold set8 at ZB OZ BZ
                clear RR OC bW
                go_wp2_with fail
                generalize World.setCell _ _ _ = Wc at *
                obtain ⟨y0, y1, y2, y3, y4, y5, y6, y7⟩ := cells8 ZB.out
                exact bodyPost_ret (v := .agg #[.int .i64 ((xn : Int)), .slice (some ⟨g1, 0, none⟩) zs.length d1, .slice (some ⟨g2, 0, none⟩) bs.length d2, .slice (some ⟨g3, 0, none⟩) rs.length d3, .int .i64 (4), .bool false, .int .i64 0, .int .i64 0]) (by simp [results, Tryz.results54, go_sem, y0, y1, y2, y3, y4, y5, y6, y7]) rfl (StepOut.mk rfl rfl rfl (OZ.out.less (by omega)) BZ.out)
              · have HBF : Hid (badS ⟨(xn : Int), zs, bs, rs, 0⟩ (6, m, s) ss = false) := Lib.hid (by rw [HBAD.out, HQ.out, decide_eq_false hg]; rfl)
                have e0 := HST.out.trans (stepS_do HO.out HBF.out)
                have CD := Lib.hid (l9Do_any (w.heap.size + 2) (xn : Int) _ g1 g2 g3 d1 d2 d3 zs bs rs 0 _ ss w2 OC hV3 (sv4.more (by omega)) HRC.out HOP.out HBF.out)
                rw [← e0] at CD
                clear e0 HST
                go_wp2_with fail
                refine CD.out.mono ?_
                rintro e w3 ⟨k1, k2, k3, t1, t2, t3, rfl, OE, b3⟩
                replace RR := (b3.block (w.heap.size + 1) (by omega)).trans RR
                replace bW := bW.trans (b3.mono (by omega))
                clear OC
                have OC := OE
                clear b3 p0 p1 p2 p3 p4 q0 q1 q2 RK RO sv4 OE CD
                obtain ⟨r0, r1, r2, r3, r4, r5, r6, r7⟩ := cells8 RR
                have f0 := frozen_row (k := 0) RR
                have f1 := frozen_row (k := 1) RR
                have f2 := frozen_row (k := 2) RR
                have f3 := frozen_row (k := 3) RR
                have f4 := frozen_row (k := 4) RR
                have f5 := frozen_row (k := 5) RR
                have f6 := frozen_row (k := 6) RR
                have f7 := frozen_row (k := 7) RR
                have ZB := Lib.hid (set8_blk RR (.int .i64 (st.c.pl)) (.slice (some ⟨k1, 0, none⟩) st.c.pile.length t1) (.slice (some ⟨k2, 0, none⟩) st.c.bxs.length t2) (.slice (some ⟨k3, 0, none⟩) st.c.rds.length t3) (.int .i64 (st.c.cd)) (.bool st.says) (.int .i64 st.gate) (.int .i64 st.val))
                have OZ := Lib.hid (OC.set8 (N := w.heap.size + 1) (fun q => by have := (OC.lt _ q).1; omega) (.int .i64 (st.c.pl)) (.slice (some ⟨k1, 0, none⟩) st.c.pile.length t1) (.slice (some ⟨k2, 0, none⟩) st.c.bxs.length t2) (.slice (some ⟨k3, 0, none⟩) st.c.rds.length t3) (.int .i64 (st.c.cd)) (.bool st.says) (.int .i64 st.gate) (.int .i64 st.val))
                have BZ := Lib.hid (set8_below bW (show w.heap.size ≤ w.heap.size + 1 by omega) (.int .i64 (st.c.pl)) (.slice (some ⟨k1, 0, none⟩) st.c.pile.length t1) (.slice (some ⟨k2, 0, none⟩) st.c.bxs.length t2) (.slice (some ⟨k3, 0, none⟩) st.c.rds.length t3) (.int .i64 (st.c.cd)) (.bool st.says) (.int .i64 st.gate) (.int .i64 st.val))
                unfold set8 at ZB OZ BZ
                clear RR OC bW
                go_wp2_with fail
                generalize World.setCell _ _ _ = Wc at *
                obtain ⟨y0, y1, y2, y3, y4, y5, y6, y7⟩ := cells8 ZB.out
                exact bodyPost_ret (v := .agg #[.int .i64 (st.c.pl), .slice (some ⟨k1, 0, none⟩) st.c.pile.length t1, .slice (some ⟨k2, 0, none⟩) st.c.bxs.length t2, .slice (some ⟨k3, 0, none⟩) st.c.rds.length t3, .int .i64 (st.c.cd), .bool st.says, .int .i64 st.gate, .int .i64 st.val]) (by simp [results, Tryz.results54, go_sem, y0, y1, y2, y3, y4, y5, y6, y7]) rfl (StepOut.mk rfl rfl rfl (OZ.out.less (by omega)) BZ.out)
            · have h6' : (a == 6) = false := by simpa using h6
              have HBF : Hid (badS ⟨(xn : Int), zs, bs, rs, 0⟩ (a, m, s) ss = false) := Lib.hid (by rw [HBAD.out, HQ.out, decide_eq_false (by omega : ¬ (a = 5 ∨ a = 6))]; rfl)
              clear h5 h6
              have e0 := HST.out.trans (stepS_do HO.out HBF.out)
              have CD := Lib.hid (l9Do_any (w.heap.size + 2) (xn : Int) _ g1 g2 g3 d1 d2 d3 zs bs rs 0 _ ss w2 OC hV3 (sv4.more (by omega)) HRC.out HOP.out HBF.out)
              rw [← e0] at CD
              clear e0 HST
              go_wp2_with fail
              refine CD.out.mono ?_
              rintro e w3 ⟨k1, k2, k3, t1, t2, t3, rfl, OE, b3⟩
              replace RR := (b3.block (w.heap.size + 1) (by omega)).trans RR
              replace bW := bW.trans (b3.mono (by omega))
              clear OC
              have OC := OE
              clear b3 p0 p1 p2 p3 p4 q0 q1 q2 RK RO sv4 OE CD
              obtain ⟨r0, r1, r2, r3, r4, r5, r6, r7⟩ := cells8 RR
              have f0 := frozen_row (k := 0) RR
              have f1 := frozen_row (k := 1) RR
              have f2 := frozen_row (k := 2) RR
              have f3 := frozen_row (k := 3) RR
              have f4 := frozen_row (k := 4) RR
              have f5 := frozen_row (k := 5) RR
              have f6 := frozen_row (k := 6) RR
              have f7 := frozen_row (k := 7) RR
              have ZB := Lib.hid (set8_blk RR (.int .i64 (st.c.pl)) (.slice (some ⟨k1, 0, none⟩) st.c.pile.length t1) (.slice (some ⟨k2, 0, none⟩) st.c.bxs.length t2) (.slice (some ⟨k3, 0, none⟩) st.c.rds.length t3) (.int .i64 (st.c.cd)) (.bool st.says) (.int .i64 st.gate) (.int .i64 st.val))
              have OZ := Lib.hid (OC.set8 (N := w.heap.size + 1) (fun q => by have := (OC.lt _ q).1; omega) (.int .i64 (st.c.pl)) (.slice (some ⟨k1, 0, none⟩) st.c.pile.length t1) (.slice (some ⟨k2, 0, none⟩) st.c.bxs.length t2) (.slice (some ⟨k3, 0, none⟩) st.c.rds.length t3) (.int .i64 (st.c.cd)) (.bool st.says) (.int .i64 st.gate) (.int .i64 st.val))
              have BZ := Lib.hid (set8_below bW (show w.heap.size ≤ w.heap.size + 1 by omega) (.int .i64 (st.c.pl)) (.slice (some ⟨k1, 0, none⟩) st.c.pile.length t1) (.slice (some ⟨k2, 0, none⟩) st.c.bxs.length t2) (.slice (some ⟨k3, 0, none⟩) st.c.rds.length t3) (.int .i64 (st.c.cd)) (.bool st.says) (.int .i64 st.gate) (.int .i64 st.val))
              unfold set8 at ZB OZ BZ
              clear RR OC bW
              go_wp2_with fail
              generalize World.setCell _ _ _ = Wc at *
              obtain ⟨y0, y1, y2, y3, y4, y5, y6, y7⟩ := cells8 ZB.out
              exact bodyPost_ret (v := .agg #[.int .i64 (st.c.pl), .slice (some ⟨k1, 0, none⟩) st.c.pile.length t1, .slice (some ⟨k2, 0, none⟩) st.c.bxs.length t2, .slice (some ⟨k3, 0, none⟩) st.c.rds.length t3, .int .i64 (st.c.cd), .bool st.says, .int .i64 st.gate, .int .i64 st.val]) (by simp [results, Tryz.results54, go_sem, y0, y1, y2, y3, y4, y5, y6, y7]) rfl (StepOut.mk rfl rfl rfl (OZ.out.less (by omega)) BZ.out)
    · obtain rfl : st = endS ⟨x, zs, bs, rs, 0⟩ 4 := HST.out.trans (stepS_out (List.getElem?_eq_none (by omega)))
      have hx' : (os.length : Int) ≤ x := by omega
      go_wp2_with fail
      refine (l9Bad_any x 0 _ _ _ _ _ _ _ _ _ _).mono ?_
      rintro e w2 ⟨rfl, b2⟩
      replace RR := row_later RR b2
      replace OC := OC.later b2
      replace bW := below_then bW b2 (Nat.le_refl _)
      clear b2 p0 p1 p2 p3 p4 so2 sv2 RK
      obtain ⟨r0, r1, r2, r3, r4, r5, r6, r7⟩ := cells8 RR
      have f0 := frozen_row (k := 0) RR
      have f1 := frozen_row (k := 1) RR
      have f2 := frozen_row (k := 2) RR
      have f3 := frozen_row (k := 3) RR
      have f4 := frozen_row (k := 4) RR
      have f5 := frozen_row (k := 5) RR
      have f6 := frozen_row (k := 6) RR
      have f7 := frozen_row (k := 7) RR
      have ZB := Lib.hid (set8_blk RR (.int .i64 (x)) (.slice (some ⟨g1, 0, none⟩) zs.length d1) (.slice (some ⟨g2, 0, none⟩) bs.length d2) (.slice (some ⟨g3, 0, none⟩) rs.length d3) (.int .i64 (4)) (.bool false) (.int .i64 0) (.int .i64 0))
      have OZ := Lib.hid (OC.set8 (N := w.heap.size + 1) (fun q => by have := (OC.lt _ q).1; omega) (.int .i64 (x)) (.slice (some ⟨g1, 0, none⟩) zs.length d1) (.slice (some ⟨g2, 0, none⟩) bs.length d2) (.slice (some ⟨g3, 0, none⟩) rs.length d3) (.int .i64 (4)) (.bool false) (.int .i64 0) (.int .i64 0))
      have BZ := Lib.hid (set8_below bW (show w.heap.size ≤ w.heap.size + 1 by omega) (.int .i64 (x)) (.slice (some ⟨g1, 0, none⟩) zs.length d1) (.slice (some ⟨g2, 0, none⟩) bs.length d2) (.slice (some ⟨g3, 0, none⟩) rs.length d3) (.int .i64 (4)) (.bool false) (.int .i64 0) (.int .i64 0))
      unfold set8 at ZB OZ BZ
      clear RR OC bW
      go_wp2_with fail
      generalize World.setCell _ _ _ = Wc at *
      obtain ⟨y0, y1, y2, y3, y4, y5, y6, y7⟩ := cells8 ZB.out
      exact bodyPost_ret (v := .agg #[.int .i64 (x), .slice (some ⟨g1, 0, none⟩) zs.length d1, .slice (some ⟨g2, 0, none⟩) bs.length d2, .slice (some ⟨g3, 0, none⟩) rs.length d3, .int .i64 (4), .bool false, .int .i64 0, .int .i64 0]) (by simp [results, Tryz.results54, go_sem, y0, y1, y2, y3, y4, y5, y6, y7]) rfl (StepOut.mk rfl rfl rfl (OZ.out.less (by omega)) BZ.out)
  · obtain rfl : st = onS ⟨x, zs, bs, rs, y⟩ := HST.out.trans (stepS_ran hy)
    have hy' : (y != 0) = true := by simpa using hy
    clear hy
    go_upto_region 3 with fail
    obtain ⟨r0, r1, r2, r3, r4, r5, r6, r7⟩ := cells8 RR
    have f0 := frozen_row (k := 0) RR
    have f1 := frozen_row (k := 1) RR
    have f2 := frozen_row (k := 2) RR
    have f3 := frozen_row (k := 3) RR
    have f4 := frozen_row (k := 4) RR
    have f5 := frozen_row (k := 5) RR
    have f6 := frozen_row (k := 6) RR
    have f7 := frozen_row (k := 7) RR
    have ZB := Lib.hid (set8_blk RR (.int .i64 (x)) (.slice (some ⟨g1, 0, none⟩) zs.length d1) (.slice (some ⟨g2, 0, none⟩) bs.length d2) (.slice (some ⟨g3, 0, none⟩) rs.length d3) (.int .i64 (y)) (.bool false) (.int .i64 0) (.int .i64 0))
    have OZ := Lib.hid (OC.set8 (N := w.heap.size + 1) (fun q => by have := (OC.lt _ q).1; omega) (.int .i64 (x)) (.slice (some ⟨g1, 0, none⟩) zs.length d1) (.slice (some ⟨g2, 0, none⟩) bs.length d2) (.slice (some ⟨g3, 0, none⟩) rs.length d3) (.int .i64 (y)) (.bool false) (.int .i64 0) (.int .i64 0))
    have BZ := Lib.hid (set8_below bW (show w.heap.size ≤ w.heap.size + 1 by omega) (.int .i64 (x)) (.slice (some ⟨g1, 0, none⟩) zs.length d1) (.slice (some ⟨g2, 0, none⟩) bs.length d2) (.slice (some ⟨g3, 0, none⟩) rs.length d3) (.int .i64 (y)) (.bool false) (.int .i64 0) (.int .i64 0))
    unfold set8 at ZB OZ BZ
    clear RR OC bW
    go_wp2_with fail
    generalize World.setCell _ _ _ = Wc at *
    obtain ⟨y0, y1, y2, y3, y4, y5, y6, y7⟩ := cells8 ZB.out
    exact bodyPost_ret (v := .agg #[.int .i64 (x), .slice (some ⟨g1, 0, none⟩) zs.length d1, .slice (some ⟨g2, 0, none⟩) bs.length d2, .slice (some ⟨g3, 0, none⟩) rs.length d3, .int .i64 (y), .bool false, .int .i64 0, .int .i64 0]) (by simp [results, Tryz.results54, go_sem, y0, y1, y2, y3, y4, y5, y6, y7]) rfl (StepOut.mk rfl rfl rfl (OZ.out.less (by omega)) BZ.out)

end Go.Proofs.YtpmdfogncoapjaaGreatDoor
