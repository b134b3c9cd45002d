/- Layer 9 (the player): the model's l9Do at every right op for which enough lies there. No conditions but those typed. Layer 9 (the player): the model's l9Step. No conditions but those typed. Layer 9 (the player): the model's Stepped. No conditions but those typed. The laws' own helpers on Steps: whether two are equal, marks in them. No conditions but those typed. -/
import Derived.Test.YtigcbegeaikfcaaGreatDoorCoreS
import Derived.Test.YtigcbegeaikfcaaGreatDoorCoreT
import Derived.Test.YtigcbegeaikfcaaGreatDoorCoreU
import Derived.Test.YtigcbegeaikfcaaGreatDoorCoreW
import Derived.Test.YtigcbegeaikfcaaGreatDoorCoreB
namespace Go.Proofs.YtigcbegeaikfcaaGreatDoor
open Go.RowKit
set_option linter.unusedVariables false

/-- What a right core is like. -/
structure RightC (x : Int) (zs : List Int) (bs : List Bx) (rs : List Int) (y : Int) : Prop where
  x0 : 0 ≤ x
  x1 : x ≤ 300
  zl : zs.length ≤ 60
  zw : zs.all wordB = true
  b12 : bs.length ≤ 12
  bb : boxesB bs = true
  r4 : rs.length = 4
  rr : ∀ r ∈ rs, 0 ≤ r ∧ r ≤ 100000
  y0 : 0 ≤ y
  y4 : y ≤ 4
theorem coreB_right {x : Int} {zs : List Int} {bs : List Bx} {rs : List Int} {y : Int} (h : coreB x zs bs rs y = true) : RightC x zs bs rs y := by
  unfold coreB pileB readsB at h
  simp only [Bool.and_eq_true, decide_eq_true_eq] at h
  obtain ⟨⟨⟨⟨h1, h2, h3⟩, h4⟩, h5, h6⟩, h7⟩ := h
  have i1 : 0 ≤ x ∧ x ≤ 300 := by simpa [inB] using h1
  have i7 : 0 ≤ y ∧ y ≤ 4 := by simpa [inB] using h7
  have b12 : bs.length ≤ 12 := by
    have := h4
    unfold boxesB at this
    simp only [Bool.and_eq_true, decide_eq_true_eq] at this
    exact this.2
  exact ⟨i1.1, i1.2, h2, h3, b12, h4, h5, fun r hr => by
    have := List.all_eq_true.1 h6 r hr
    unfold readB inB at this
    simpa using this, i7.1, i7.2⟩

theorem opB_kind {o : Opv} (h : opB o = true) : 1 ≤ o.1 ∧ o.1 ≤ 10 := by
  by_cases h1 : o.1 < 1 ∨ 10 < o.1
  · rw [opB_out h1] at h; cases h
  · omega
theorem opB_gate {o : Opv} (h : opB o = true) (hg : o.1 = 5 ∨ o.1 = 6) : 0 ≤ o.2.1 ∧ o.2.1 ≤ 3 := by
  obtain ⟨a, n, s⟩ := o
  dsimp only at hg ⊢
  unfold opB at h
  dsimp only at h
  rcases hg with rfl | rfl
  · simp only [show ¬ (5 : Int) = 1 by omega, show ¬ ((5 : Int) = 2 ∨ (5 : Int) = 4) by omega, show ¬ (5 : Int) = 3 by omega, if_false, if_true, Bool.and_eq_true] at h
    simpa [inB] using h.2
  · simp only [show ¬ (6 : Int) = 1 by omega, show ¬ ((6 : Int) = 2 ∨ (6 : Int) = 4) by omega, show ¬ (6 : Int) = 3 by omega, show ¬ (6 : Int) = 5 by omega, if_false, if_true, Bool.and_eq_true] at h
    simpa [inB] using h.1

theorem l9Do_any (B : Nat) (x : Int) (o : Opv) (g1 g2 g3 c1 c2 c3 : Nat) (zs : List Int) (bs : List Bx) (rs : List Int) (y : Int) (v : Value) (ss : List (List Int)) (w : World)
    (h : OwnC w B (.slice (some ⟨g1, 0, none⟩) zs.length c1) (.slice (some ⟨g2, 0, none⟩) bs.length c2) (.slice (some ⟨g3, 0, none⟩) rs.length c3) zs bs rs) (hB : B ≤ w.heap.size) (sv : SeeSS w B v ss)
    (hR : RightC x zs bs rs y) (ho : opB o = true) (hb : badS ⟨x, zs, bs, rs, y⟩ o ss = false) :
    Calls Tryz.prog 107 #[.agg #[.int .i64 x, .slice (some ⟨g1, 0, none⟩) zs.length c1, .slice (some ⟨g2, 0, none⟩) bs.length c2, .slice (some ⟨g3, 0, none⟩) rs.length c3, .int .i64 y], .agg #[.int .i64 o.1, .int .i64 o.2.1, str o.2.2], v] w
      (StepOut B (doS ⟨x, zs, bs, rs, y⟩ o ss) w) := by
  have hk := opB_kind ho
  have hgt := opB_gate ho
  obtain ⟨a, m, s⟩ := o
  dsimp only at hk hgt ⊢
  unfold badS at hb
  simp only [Bool.or_eq_false_iff, Bool.and_eq_false_iff, decide_eq_false_iff_not] at hb
  obtain ⟨⟨hn, hp⟩, hg⟩ := hb
  have hx : 0 ≤ x ∧ x ≤ 300 := ⟨hR.x0, hR.x1⟩
  have hz := hR.zl
  by_cases h1 : a = 1
  · subst h1
    have e : doS ⟨x, zs, bs, rs, y⟩ (1, m, s) ss = onS ⟨x + 1, zs ++ [m], bs, rs, y⟩ := rfl
    rw [e]
    exact do1_any B x m s g1 g2 g3 c1 c2 c3 zs bs rs y v w h hB hx (by omega)
  by_cases h2 : a = 2
  · subst h2
    have e : doS ⟨x, zs, bs, rs, y⟩ (2, m, s) ss = onS ⟨x + 1, zs ++ [valueS bs s], bs, rs, y⟩ := rfl
    rw [e]
    exact do2_any B x m s g1 g2 g3 c1 c2 c3 zs bs rs y v w h hB hx (by omega)
  by_cases h3 : a = 3
  · subst h3
    have e : doS ⟨x, zs, bs, rs, y⟩ (3, m, s) ss = (if (didS m (topS zs 2) (topS zs 1)).2 = true then onS ⟨x + 1, cutS zs 2 ++ [(didS m (topS zs 2) (topS zs 1)).1], bs, rs, y⟩ else endS ⟨x, zs, bs, rs, y⟩ 3) := rfl
    rw [e]
    have hn3 : ¬ zs.length < 2 := hn
    exact do3_any B x m s g1 g2 g3 c1 c2 c3 zs bs rs y v w h hB hx (by omega) hz
  by_cases h4 : a = 4
  · subst h4
    have e : doS ⟨x, zs, bs, rs, y⟩ (4, m, s) ss = (if (setS bs s (topS zs 1)).2 = true then onS ⟨x + 1, cutS zs 1, (setS bs s (topS zs 1)).1, rs, y⟩ else endS ⟨x, zs, bs, rs, y⟩ 4) := rfl
    rw [e]
    have hn3 : ¬ zs.length < 1 := hn
    exact do4_any B x m s g1 g2 g3 c1 c2 c3 zs bs rs y v w h hB hx (by omega) hz hR.b12
  by_cases h5 : a = 5
  · subst h5
    obtain ⟨q0, q3⟩ := hgt (.inl rfl)
    have hms : ¬ (ss.length : Int) ≤ m := by rcases hg with q | q; exact absurd (.inl rfl) q; exact q
    have e : doS ⟨x, zs, bs, rs, y⟩ (5, m, s) ss = (if rs.getD m.toNat 0 = 100000 then endS ⟨x, zs, bs, rs, y⟩ 4
        else if (setS bs s (itemS ss m (rs.getD m.toNat 0))).2 = true then onS ⟨x + 1, zs, (setS bs s (itemS ss m (rs.getD m.toNat 0))).1, rs.set m.toNat (rs.getD m.toNat 0 + 1), y⟩ else endS ⟨x, zs, bs, rs, y⟩ 4) := rfl
    rw [e]
    exact do5_any B x m s g1 g2 g3 c1 c2 c3 zs bs rs y v w h hB hx ss sv q0 (by rw [hR.r4]; omega) hR.r4 (by omega) hR.rr hR.b12 hz
  by_cases h6 : a = 6
  · subst h6
    have e : doS ⟨x, zs, bs, rs, y⟩ (6, m, s) ss = ⟨⟨x + 1, cutS zs 1, bs, rs, y⟩, true, m, topS zs 1⟩ := rfl
    rw [e]
    have hn3 : ¬ zs.length < 1 := hn
    exact do6_any B x m s g1 g2 g3 c1 c2 c3 zs bs rs y v w h hB hx (by omega) hz
  by_cases h7 : a = 7
  · subst h7
    have e : doS ⟨x, zs, bs, rs, y⟩ (7, m, s) ss = onS ⟨m, zs, bs, rs, y⟩ := rfl
    rw [e]
    exact do7_any B x m s g1 g2 g3 c1 c2 c3 zs bs rs y v w h hB hx
  by_cases h8 : a = 8
  · subst h8
    have e : doS ⟨x, zs, bs, rs, y⟩ (8, m, s) ss = onS ⟨if topS zs 1 = 0 then m else x + 1, cutS zs 1, bs, rs, y⟩ := rfl
    rw [e]
    have hn3 : ¬ zs.length < 1 := hn
    exact do8_any B x m s g1 g2 g3 c1 c2 c3 zs bs rs y v w h hB hx (by omega) hz
  by_cases h9 : a = 9
  · subst h9
    have e : doS ⟨x, zs, bs, rs, y⟩ (9, m, s) ss = endS ⟨x, zs, bs, rs, y⟩ 2 := rfl
    rw [e]
    exact do9_any B x m s g1 g2 g3 c1 c2 c3 zs bs rs y v w h hB hx
  · obtain rfl : a = 10 := by omega
    have e : doS ⟨x, zs, bs, rs, y⟩ (10, m, s) ss = endS ⟨x, zs, bs, rs, y⟩ 1 := rfl
    rw [e]
    exact do10_any B x m s g1 g2 g3 c1 c2 c3 zs bs rs y v w h hB hx

end Go.Proofs.YtigcbegeaikfcaaGreatDoor

namespace Go.Proofs.YtigcbegeaikfcaaGreatDoor
open Go.RowKit
set_option linter.unusedVariables false

theorem stepS_ran {x : Int} {zs : List Int} {bs : List Bx} {rs : List Int} {y : Int} {os : List Opv} {ss : List (List Int)} (h : ¬ y = 0) : stepS ⟨x, zs, bs, rs, y⟩ os ss = onS ⟨x, zs, bs, rs, y⟩ := by
  unfold stepS; rw [if_pos h]
theorem stepS_out {x : Int} {zs : List Int} {bs : List Bx} {rs : List Int} {os : List Opv} {ss : List (List Int)} (h : os[x.toNat]? = none) : stepS ⟨x, zs, bs, rs, 0⟩ os ss = endS ⟨x, zs, bs, rs, 0⟩ 4 := by
  unfold stepS; rw [if_neg (by simp)]; simp only [h]
theorem stepS_bad {x : Int} {zs : List Int} {bs : List Bx} {rs : List Int} {os : List Opv} {ss : List (List Int)} {o : Opv} (h : os[x.toNat]? = some o) (hb : badS ⟨x, zs, bs, rs, 0⟩ o ss = true) : stepS ⟨x, zs, bs, rs, 0⟩ os ss = endS ⟨x, zs, bs, rs, 0⟩ 4 := by
  unfold stepS; rw [if_neg (by simp)]; simp only [h]; rw [if_pos hb]
theorem stepS_do {x : Int} {zs : List Int} {bs : List Bx} {rs : List Int} {os : List Opv} {ss : List (List Int)} {o : Opv} (h : os[x.toNat]? = some o) (hb : badS ⟨x, zs, bs, rs, 0⟩ o ss = false) : stepS ⟨x, zs, bs, rs, 0⟩ os ss = doS ⟨x, zs, bs, rs, 0⟩ o ss := by
  unfold stepS; rw [if_neg (by simp)]; simp only [h]; rw [if_neg (by rw [hb]; simp)]
theorem SeeSS.alloc2 {w : World} {B : Nat} {v : Value} {ss : List (List Int)} (h : SeeSS w B v ss) (hB : B ≤ w.heap.size) (a b : Obj) : SeeSS ((w.alloc a).alloc b) B v ss :=
  h.below ((((Below.refl _ _).alloc (Nat.le_refl _) _).alloc (by simp) _).mono hB)

set_option maxHeartbeats 8000000 in
set_option maxRecDepth 100000 in
theorem l9Step_any (B : Nat) (x y : Int) (v1 v2 v3 vo vs : Value) (zs : List Int) (bs : List Bx) (rs : List Int) (os : List Opv) (ss : List (List Int)) (w : World) (s1 : SeeI w B v1 zs) (s2 : SeeBx w B v2 bs) (s3 : SeeI w B v3 rs) (so : SeeOp w B vo os) (sv : SeeSS w B vs ss) (hB : B ≤ w.heap.size)
    (n1 : nilOk v1) (n2 : nilOk v2) (n3 : nilOk v3) (hR : RightC x zs bs rs y) (hco : y = 0 → codeB os = true) :
    Calls Tryz.prog 54 #[.agg #[.int .i64 x, v1, v2, v3, .int .i64 y], vo, vs] w (StepOut w.heap.size (stepS ⟨x, zs, bs, rs, y⟩ os ss) w) := by
  have hol := so.len
  have hsl := sv.len
  unfold maxLen at hol hsl
  obtain ⟨A1, c1, rfl⟩ := s1.shape
  obtain ⟨A2, c2, rfl⟩ := s2.shape
  obtain ⟨A3, c3, rfl⟩ := s3.shape
  obtain ⟨Ao, co, rfl⟩ := so.shape
  obtain ⟨As, cs, rfl⟩ := sv.shape
  have HRC := Lib.hid hR
  have hx0 := hR.x0
  have hx1 := hR.x1
  have hz60 := hR.zl
  have hbl := hR.b12
  have hr4 : rs.length ≤ 4 := by have := hR.r4; omega
  have H0 : Hid (∃ W, W = (w.alloc (.cells #[.int .i64 x, .slice A1 zs.length c1, .slice A2 bs.length c2, .slice A3 rs.length c3, .int .i64 y] 27)).alloc
      (.cells #[.int .i64 0, .slice none 0 0, .slice none 0 0, .slice none 0 0, .int .i64 0, .bool false, .int .i64 0, .int .i64 0] 33) ∧
      (W.heap[w.heap.size]? = some (.cells #[.int .i64 x, .slice A1 zs.length c1, .slice A2 bs.length c2, .slice A3 rs.length c3, .int .i64 y] 27 (0, 0)) ∧
      W.heap[w.heap.size + 1]? = some (.cells #[.int .i64 0, .slice none 0 0, .slice none 0 0, .slice none 0 0, .int .i64 0, .bool false, .int .i64 0, .int .i64 0] 33 (0, 0))) ∧ Below w.heap.size w W ∧ W.heap.size = w.heap.size + 2) :=
    Lib.hid ⟨_, rfl, ⟨alloc_old (heap_alloc_new _ _) _, alloc_at _ _ (by simp) rfl⟩, ((Below.refl _ _).alloc (Nat.le_refl _) _).alloc (by simp) _, by simp⟩
  obtain ⟨st, hst⟩ : ∃ st, st = stepS ⟨x, zs, bs, rs, y⟩ os ss := ⟨_, rfl⟩
  rw [← hst]
  have HST := Lib.hid hst
  clear hst
  have HCO : Hid (y = 0 → ∀ o ∈ os, opB o = true) := Lib.hid (fun hy o ho => by
    have hc := hco hy
    unfold codeB at hc
    rw [Bool.and_eq_true] at hc
    exact List.all_eq_true.1 hc.2 o ho)
  clear hco hR
  go_enter Tryz.func54, Tryz.ntmps54
  go_wp2_with fail
  obtain ⟨W, hW, hrow, bW, hsz⟩ := H0.out
  rw [← hW]
  clear hW H0
  have HN := Lib.hid hsz
  clear hsz
  have hBW := Nat.le_trans hB bW.size
  refine (l9Copy_any B x y _ _ _ zs bs rs W (s1.below (bW.mono hB)) (s2.below (bW.mono hB)) (s3.below (bW.mono hB)) hBW n1 n2 n3 (by omega) (by omega) (by omega)).mono ?_
  rintro e w1 ⟨g1, g2, g3, d1, d2, d3, rfl, OC, b1⟩
  replace hrow := two_later hrow b1
  replace bW := below_then bW b1 (Nat.le_refl _)
  rw [HN.out] at OC
  have so1 := so.below (bW.mono hB)
  have sv1 := sv.below (bW.mono hB)
  have hsz1 : w.heap.size + 2 ≤ w1.heap.size := by have := b1.size; have := HN.out; omega
  clear s1 s2 s3 so sv n1 n2 n3 b1
  obtain ⟨p0, p1, p2, p3, p4⟩ := cells5 hrow.1
  have f0 := frozen_row (k := 0) hrow.1
  have f1 := frozen_row (k := 1) hrow.1
  have f2 := frozen_row (k := 2) hrow.1
  have f3 := frozen_row (k := 3) hrow.1
  have f4 := frozen_row (k := 4) hrow.1
  go_upto_region 2 with fail
  have hsame : ∀ k, k ≠ w.heap.size → (set5 w1 w.heap.size (.int .i64 x) (.slice (some ⟨g1, 0, none⟩) zs.length d1) (.slice (some ⟨g2, 0, none⟩) bs.length d2) (.slice (some ⟨g3, 0, none⟩) rs.length d3) (.int .i64 y)).heap[k]? = w1.heap[k]? := fun k hk => set5_other hk
  have RK := set5_blk hrow.1 (.int .i64 x) (.slice (some ⟨g1, 0, none⟩) zs.length d1) (.slice (some ⟨g2, 0, none⟩) bs.length d2) (.slice (some ⟨g3, 0, none⟩) rs.length d3) (.int .i64 y)
  have RR := (hsame (w.heap.size + 1) (by omega)).trans hrow.2
  have bK := set5_below bW (Nat.le_refl w.heap.size) (.int .i64 x) (.slice (some ⟨g1, 0, none⟩) zs.length d1) (.slice (some ⟨g2, 0, none⟩) bs.length d2) (.slice (some ⟨g3, 0, none⟩) rs.length d3) (.int .i64 y)
  have b12 := set5_below (Below.refl w.heap.size w1) (Nat.le_refl w.heap.size) (.int .i64 x) (.slice (some ⟨g1, 0, none⟩) zs.length d1) (.slice (some ⟨g2, 0, none⟩) bs.length d2) (.slice (some ⟨g3, 0, none⟩) rs.length d3) (.int .i64 y)
  have OD := OC.set5 (N := w.heap.size) (fun q => by have := (OC.lt _ q).1; omega) (.int .i64 x) (.slice (some ⟨g1, 0, none⟩) zs.length d1) (.slice (some ⟨g2, 0, none⟩) bs.length d2) (.slice (some ⟨g3, 0, none⟩) rs.length d3) (.int .i64 y)
  unfold set5 at RK RR bK OD b12
  clear hsame OC bW hrow p0 p1 p2 p3 p4 f0 f1 f2 f3 f4
  generalize World.setCell _ _ _ = V at *
  have so2 := so1.below (b12.mono hB)
  have sv2 := sv1.below (b12.mono hB)
  have hV : w.heap.size + 2 ≤ V.heap.size := Nat.le_trans hsz1 b12.size
  have OC := OD
  have bW := bK
  clear so1 sv1 b12 OD bK hsz1
  obtain ⟨p0, p1, p2, p3, p4⟩ := cells5 RK
  by_cases hy : y = 0
  · subst hy
    by_cases hx : x < os.length
    · obtain ⟨xn, rfl⟩ : ∃ q : Nat, x = q := ⟨x.toNat, by omega⟩
      have hxn : xn < os.length := by omega
      have ho := List.getElem?_eq_getElem hxn
      generalize os[xn] = o at ho
      have HOP := Lib.hid (HCO.out rfl o (List.mem_of_getElem? ho))
      obtain ⟨go, oo, rfl, -, e0, e1, e2⟩ := so2.at_ ho
      have HO : Hid (os[((xn : Int)).toNat]? = some o) := Lib.hid (by rw [Int.toNat_natCast]; exact ho)
      obtain ⟨a, m, s⟩ := o
      dsimp only at e0 e1 e2
      have bA := below_new V (.cells #[.int .i64 a, .int .i64 m, str s] 41)
      have RO := heap_alloc_new V (.cells #[.int .i64 a, .int .i64 m, str s] 41)
      clear ho
      go_wp2_with fail
      replace RK := row_later RK bA
      replace RR := row_later RR bA
      replace OC := OC.later bA
      replace bW := below_then bW bA (Nat.le_refl _)
      have sv3 := sv2.below (bA.mono (by omega))
      have hV2 := Nat.le_trans hV bA.size
      clear p0 p1 p2 p3 p4 e0 e1 e2 so2 sv2 bA
      generalize V.alloc _ = V2 at *
      generalize V.heap.size = M at *
      refine (l9Turn_any a m s _).mono ?_
      rintro e w2 ⟨rfl, b2⟩
      replace RK := row_later RK b2
      replace RR := row_later RR b2
      replace RO := row_later RO b2
      replace OC := OC.later b2
      replace bW := below_then bW b2 (Nat.le_refl _)
      have sv4 := sv3.below (b2.mono (by omega))
      have hV3 := Nat.le_trans hV2 b2.size
      clear b2 sv3
      obtain ⟨p0, p1, p2, p3, p4⟩ := cells5 RK
      obtain ⟨q0, q1, q2⟩ := cells3 RO
      have HBAD : Hid (badS ⟨(xn : Int), zs, bs, rs, 0⟩ (a, m, s) ss = (decide (zs.length < needS a) || (decide (a = 1 ∨ a = 2) && decide (60 < zs.length + 1)) || (decide (a = 5 ∨ a = 6) && decide ((ss.length : Int) ≤ m)))) := Lib.hid rfl
      have HMO : Hid ((60 < (zs.length : Int) + (if a = 1 ∨ a = 2 then (1 : Int) else if a = 3 ∨ a = 4 ∨ a = 6 ∨ a = 8 then -1 else 0)) ↔ ((a = 1 ∨ a = 2) ∧ 60 < zs.length + 1)) := Lib.hid (by
        by_cases h12 : a = 1 ∨ a = 2
        · rw [if_pos h12]; constructor
          · intro h; exact ⟨h12, by omega⟩
          · intro h; omega
        · rw [if_neg h12]; constructor
          · intro h; split at h <;> omega
          · intro h; exact absurd h.1 h12)
      have hmo1 : -1 ≤ (if a = 1 ∨ a = 2 then (1 : Int) else if a = 3 ∨ a = 4 ∨ a = 6 ∨ a = 8 then -1 else 0) ∧ (if a = 1 ∨ a = 2 then (1 : Int) else if a = 3 ∨ a = 4 ∨ a = 6 ∨ a = 8 then -1 else 0) ≤ 1 := by
        split <;> (try split) <;> omega
      have hnd : needS a ≤ 2 := by unfold needS; split <;> (try split) <;> omega
      generalize (if a = 1 ∨ a = 2 then (1 : Int) else if a = 3 ∨ a = 4 ∨ a = 6 ∨ a = 8 then -1 else 0) = mo at *
      obtain ⟨nd, hnde⟩ : ∃ q, needS a = q := ⟨_, rfl⟩
      rw [hnde] at HBAD hnd ⊢
      clear hnde
      obtain ⟨hmo2, hmo3⟩ := hmo1
      by_cases hA : zs.length < nd
      · have hA' : (zs.length : Int) < (nd : Int) := by omega
        have HBT : Hid (badS ⟨(xn : Int), zs, bs, rs, 0⟩ (a, m, s) ss = true) := Lib.hid (by rw [HBAD.out, decide_eq_true hA]; rfl)
        by_cases h5 : a = 5
        · subst h5
          obtain rfl : st = endS ⟨(xn : Int), zs, bs, rs, 0⟩ 4 := HST.out.trans (stepS_bad HO.out HBT.out)
          go_wp2_with fail
          refine (l9Bad_any (xn : Int) 0 _ _ _ _ _ _ _ _ _ _).mono ?_
          rintro e w3 ⟨rfl, b3⟩
          replace RR := row_later RR b3
          replace OC := OC.later b3
          replace bW := below_then bW b3 (Nat.le_refl _)
          clear b3 p0 p1 p2 p3 p4 q0 q1 q2 RK RO sv4
          obtain ⟨r0, r1, r2, r3, r4, r5, r6, r7⟩ := cells8 RR
          have f0 := frozen_row (k := 0) RR
          have f1 := frozen_row (k := 1) RR
          have f2 := frozen_row (k := 2) RR
          have f3 := frozen_row (k := 3) RR
          have f4 := frozen_row (k := 4) RR
          have f5 := frozen_row (k := 5) RR
          have f6 := frozen_row (k := 6) RR
          have f7 := frozen_row (k := 7) RR
          have ZB := Lib.hid (set8_blk RR (.int .i64 ((xn : Int))) (.slice (some ⟨g1, 0, none⟩) zs.length d1) (.slice (some ⟨g2, 0, none⟩) bs.length d2) (.slice (some ⟨g3, 0, none⟩) rs.length d3) (.int .i64 (4)) (.bool false) (.int .i64 0) (.int .i64 0))
          have OZ := Lib.hid (OC.set8 (N := w.heap.size + 1) (fun q => by have := (OC.lt _ q).1; omega) (.int .i64 ((xn : Int))) (.slice (some ⟨g1, 0, none⟩) zs.length d1) (.slice (some ⟨g2, 0, none⟩) bs.length d2) (.slice (some ⟨g3, 0, none⟩) rs.length d3) (.int .i64 (4)) (.bool false) (.int .i64 0) (.int .i64 0))
          have BZ := Lib.hid (set8_below bW (show w.heap.size ≤ w.heap.size + 1 by omega) (.int .i64 ((xn : Int))) (.slice (some ⟨g1, 0, none⟩) zs.length d1) (.slice (some ⟨g2, 0, none⟩) bs.length d2) (.slice (some ⟨g3, 0, none⟩) rs.length d3) (.int .i64 (4)) (.bool false) (.int .i64 0) (.int .i64 0))
          unfold set8 at ZB OZ BZ
          clear RR OC bW
          go_wp2_with fail
          generalize World.setCell _ _ _ = Wc at *
          obtain ⟨y0, y1, y2, y3, y4, y5, y6, y7⟩ := cells8 ZB.out
          exact bodyPost_ret (v := .agg #[.int .i64 ((xn : Int)), .slice (some ⟨g1, 0, none⟩) zs.length d1, .slice (some ⟨g2, 0, none⟩) bs.length d2, .slice (some ⟨g3, 0, none⟩) rs.length d3, .int .i64 (4), .bool false, .int .i64 0, .int .i64 0]) (by simp [results, Tryz.results54, go_sem, y0, y1, y2, y3, y4, y5, y6, y7]) rfl (StepOut.mk rfl rfl rfl (OZ.out.less (by omega)) BZ.out)
        · have h5' : (a == 5) = false := by simpa using h5
          by_cases h6 : a = 6
          · subst h6
            obtain rfl : st = endS ⟨(xn : Int), zs, bs, rs, 0⟩ 4 := HST.out.trans (stepS_bad HO.out HBT.out)
            go_wp2_with fail
            refine (l9Bad_any (xn : Int) 0 _ _ _ _ _ _ _ _ _ _).mono ?_
            rintro e w3 ⟨rfl, b3⟩
            replace RR := row_later RR b3
            replace OC := OC.later b3
            replace bW := below_then bW b3 (Nat.le_refl _)
            clear b3 p0 p1 p2 p3 p4 q0 q1 q2 RK RO sv4
            obtain ⟨r0, r1, r2, r3, r4, r5, r6, r7⟩ := cells8 RR
            have f0 := frozen_row (k := 0) RR
            have f1 := frozen_row (k := 1) RR
            have f2 := frozen_row (k := 2) RR
            have f3 := frozen_row (k := 3) RR
            have f4 := frozen_row (k := 4) RR
            have f5 := frozen_row (k := 5) RR
            have f6 := frozen_row (k := 6) RR
            have f7 := frozen_row (k := 7) RR
            have ZB := Lib.hid (set8_blk RR (.int .i64 ((xn : Int))) (.slice (some ⟨g1, 0, none⟩) zs.length d1) (.slice (some ⟨g2, 0, none⟩) bs.length d2) (.slice (some ⟨g3, 0, none⟩) rs.length d3) (.int .i64 (4)) (.bool false) (.int .i64 0) (.int .i64 0))
            have OZ := Lib.hid (OC.set8 (N := w.heap.size + 1) (fun q => by have := (OC.lt _ q).1; omega) (.int .i64 ((xn : Int))) (.slice (some ⟨g1, 0, none⟩) zs.length d1) (.slice (some ⟨g2, 0, none⟩) bs.length d2) (.slice (some ⟨g3, 0, none⟩) rs.length d3) (.int .i64 (4)) (.bool false) (.int .i64 0) (.int .i64 0))
            have BZ := Lib.hid (set8_below bW (show w.heap.size ≤ w.heap.size + 1 by omega) (.int .i64 ((xn : Int))) (.slice (some ⟨g1, 0, none⟩) zs.length d1) (.slice (some ⟨g2, 0, none⟩) bs.length d2) (.slice (some ⟨g3, 0, none⟩) rs.length d3) (.int .i64 (4)) (.bool false) (.int .i64 0) (.int .i64 0))
            unfold set8 at ZB OZ BZ
            clear RR OC bW
            go_wp2_with fail
            generalize World.setCell _ _ _ = Wc at *
            obtain ⟨y0, y1, y2, y3, y4, y5, y6, y7⟩ := cells8 ZB.out
            exact bodyPost_ret (v := .agg #[.int .i64 ((xn : Int)), .slice (some ⟨g1, 0, none⟩) zs.length d1, .slice (some ⟨g2, 0, none⟩) bs.length d2, .slice (some ⟨g3, 0, none⟩) rs.length d3, .int .i64 (4), .bool false, .int .i64 0, .int .i64 0]) (by simp [results, Tryz.results54, go_sem, y0, y1, y2, y3, y4, y5, y6, y7]) rfl (StepOut.mk rfl rfl rfl (OZ.out.less (by omega)) BZ.out)
          · have h6' : (a == 6) = false := by simpa using h6
            clear h5 h6
            obtain rfl : st = endS ⟨(xn : Int), zs, bs, rs, 0⟩ 4 := HST.out.trans (stepS_bad HO.out HBT.out)
            go_wp2_with fail
            refine (l9Bad_any (xn : Int) 0 _ _ _ _ _ _ _ _ _ _).mono ?_
            rintro e w3 ⟨rfl, b3⟩
            replace RR := row_later RR b3
            replace OC := OC.later b3
            replace bW := below_then bW b3 (Nat.le_refl _)
            clear b3 p0 p1 p2 p3 p4 q0 q1 q2 RK RO sv4
            obtain ⟨r0, r1, r2, r3, r4, r5, r6, r7⟩ := cells8 RR
            have f0 := frozen_row (k := 0) RR
            have f1 := frozen_row (k := 1) RR
            have f2 := frozen_row (k := 2) RR
            have f3 := frozen_row (k := 3) RR
            have f4 := frozen_row (k := 4) RR
            have f5 := frozen_row (k := 5) RR
            have f6 := frozen_row (k := 6) RR
            have f7 := frozen_row (k := 7) RR
            have ZB := Lib.hid (set8_blk RR (.int .i64 ((xn : Int))) (.slice (some ⟨g1, 0, none⟩) zs.length d1) (.slice (some ⟨g2, 0, none⟩) bs.length d2) (.slice (some ⟨g3, 0, none⟩) rs.length d3) (.int .i64 (4)) (.bool false) (.int .i64 0) (.int .i64 0))
            have OZ := Lib.hid (OC.set8 (N := w.heap.size + 1) (fun q => by have := (OC.lt _ q).1; omega) (.int .i64 ((xn : Int))) (.slice (some ⟨g1, 0, none⟩) zs.length d1) (.slice (some ⟨g2, 0, none⟩) bs.length d2) (.slice (some ⟨g3, 0, none⟩) rs.length d3) (.int .i64 (4)) (.bool false) (.int .i64 0) (.int .i64 0))
            have BZ := Lib.hid (set8_below bW (show w.heap.size ≤ w.heap.size + 1 by omega) (.int .i64 ((xn : Int))) (.slice (some ⟨g1, 0, none⟩) zs.length d1) (.slice (some ⟨g2, 0, none⟩) bs.length d2) (.slice (some ⟨g3, 0, none⟩) rs.length d3) (.int .i64 (4)) (.bool false) (.int .i64 0) (.int .i64 0))
            unfold set8 at ZB OZ BZ
            clear RR OC bW
            go_wp2_with fail
            generalize World.setCell _ _ _ = Wc at *
            obtain ⟨y0, y1, y2, y3, y4, y5, y6, y7⟩ := cells8 ZB.out
            exact bodyPost_ret (v := .agg #[.int .i64 ((xn : Int)), .slice (some ⟨g1, 0, none⟩) zs.length d1, .slice (some ⟨g2, 0, none⟩) bs.length d2, .slice (some ⟨g3, 0, none⟩) rs.length d3, .int .i64 (4), .bool false, .int .i64 0, .int .i64 0]) (by simp [results, Tryz.results54, go_sem, y0, y1, y2, y3, y4, y5, y6, y7]) rfl (StepOut.mk rfl rfl rfl (OZ.out.less (by omega)) BZ.out)
      · have hA' : ¬ (zs.length : Int) < (nd : Int) := by omega
        by_cases hM : (60 : Int) < (zs.length : Int) + mo
        · have HBT : Hid (badS ⟨(xn : Int), zs, bs, rs, 0⟩ (a, m, s) ss = true) := Lib.hid (by
            have := HMO.out.1 hM
            rw [HBAD.out, decide_eq_true this.1, decide_eq_true this.2]
            simp)
          by_cases h5 : a = 5
          · subst h5
            obtain rfl : st = endS ⟨(xn : Int), zs, bs, rs, 0⟩ 4 := HST.out.trans (stepS_bad HO.out HBT.out)
            go_wp2_with fail
            refine (l9Bad_any (xn : Int) 0 _ _ _ _ _ _ _ _ _ _).mono ?_
            rintro e w3 ⟨rfl, b3⟩
            replace RR := row_later RR b3
            replace OC := OC.later b3
            replace bW := below_then bW b3 (Nat.le_refl _)
            clear b3 p0 p1 p2 p3 p4 q0 q1 q2 RK RO sv4
            obtain ⟨r0, r1, r2, r3, r4, r5, r6, r7⟩ := cells8 RR
            have f0 := frozen_row (k := 0) RR
            have f1 := frozen_row (k := 1) RR
            have f2 := frozen_row (k := 2) RR
            have f3 := frozen_row (k := 3) RR
            have f4 := frozen_row (k := 4) RR
            have f5 := frozen_row (k := 5) RR
            have f6 := frozen_row (k := 6) RR
            have f7 := frozen_row (k := 7) RR
            have ZB := Lib.hid (set8_blk RR (.int .i64 ((xn : Int))) (.slice (some ⟨g1, 0, none⟩) zs.length d1) (.slice (some ⟨g2, 0, none⟩) bs.length d2) (.slice (some ⟨g3, 0, none⟩) rs.length d3) (.int .i64 (4)) (.bool false) (.int .i64 0) (.int .i64 0))
            have OZ := Lib.hid (OC.set8 (N := w.heap.size + 1) (fun q => by have := (OC.lt _ q).1; omega) (.int .i64 ((xn : Int))) (.slice (some ⟨g1, 0, none⟩) zs.length d1) (.slice (some ⟨g2, 0, none⟩) bs.length d2) (.slice (some ⟨g3, 0, none⟩) rs.length d3) (.int .i64 (4)) (.bool false) (.int .i64 0) (.int .i64 0))
            have BZ := Lib.hid (set8_below bW (show w.heap.size ≤ w.heap.size + 1 by omega) (.int .i64 ((xn : Int))) (.slice (some ⟨g1, 0, none⟩) zs.length d1) (.slice (some ⟨g2, 0, none⟩) bs.length d2) (.slice (some ⟨g3, 0, none⟩) rs.length d3) (.int .i64 (4)) (.bool false) (.int .i64 0) (.int .i64 0))
            unfold set8 at ZB OZ BZ
            clear RR OC bW
            go_wp2_with fail
            generalize World.setCell _ _ _ = Wc at *
            obtain ⟨y0, y1, y2, y3, y4, y5, y6, y7⟩ := cells8 ZB.out
            exact bodyPost_ret (v := .agg #[.int .i64 ((xn : Int)), .slice (some ⟨g1, 0, none⟩) zs.length d1, .slice (some ⟨g2, 0, none⟩) bs.length d2, .slice (some ⟨g3, 0, none⟩) rs.length d3, .int .i64 (4), .bool false, .int .i64 0, .int .i64 0]) (by simp [results, Tryz.results54, go_sem, y0, y1, y2, y3, y4, y5, y6, y7]) rfl (StepOut.mk rfl rfl rfl (OZ.out.less (by omega)) BZ.out)
          · have h5' : (a == 5) = false := by simpa using h5
            by_cases h6 : a = 6
            · subst h6
              obtain rfl : st = endS ⟨(xn : Int), zs, bs, rs, 0⟩ 4 := HST.out.trans (stepS_bad HO.out HBT.out)
              go_wp2_with fail
              refine (l9Bad_any (xn : Int) 0 _ _ _ _ _ _ _ _ _ _).mono ?_
              rintro e w3 ⟨rfl, b3⟩
              replace RR := row_later RR b3
              replace OC := OC.later b3
              replace bW := below_then bW b3 (Nat.le_refl _)
              clear b3 p0 p1 p2 p3 p4 q0 q1 q2 RK RO sv4
              obtain ⟨r0, r1, r2, r3, r4, r5, r6, r7⟩ := cells8 RR
              have f0 := frozen_row (k := 0) RR
              have f1 := frozen_row (k := 1) RR
              have f2 := frozen_row (k := 2) RR
              have f3 := frozen_row (k := 3) RR
              have f4 := frozen_row (k := 4) RR
              have f5 := frozen_row (k := 5) RR
              have f6 := frozen_row (k := 6) RR
              have f7 := frozen_row (k := 7) RR
              have ZB := Lib.hid (set8_blk RR (.int .i64 ((xn : Int))) (.slice (some ⟨g1, 0, none⟩) zs.length d1) (.slice (some ⟨g2, 0, none⟩) bs.length d2) (.slice (some ⟨g3, 0, none⟩) rs.length d3) (.int .i64 (4)) (.bool false) (.int .i64 0) (.int .i64 0))
              have OZ := Lib.hid (OC.set8 (N := w.heap.size + 1) (fun q => by have := (OC.lt _ q).1; omega) (.int .i64 ((xn : Int))) (.slice (some ⟨g1, 0, none⟩) zs.length d1) (.slice (some ⟨g2, 0, none⟩) bs.length d2) (.slice (some ⟨g3, 0, none⟩) rs.length d3) (.int .i64 (4)) (.bool false) (.int .i64 0) (.int .i64 0))
              have BZ := Lib.hid (set8_below bW (show w.heap.size ≤ w.heap.size + 1 by omega) (.int .i64 ((xn : Int))) (.slice (some ⟨g1, 0, none⟩) zs.length d1) (.slice (some ⟨g2, 0, none⟩) bs.length d2) (.slice (some ⟨g3, 0, none⟩) rs.length d3) (.int .i64 (4)) (.bool false) (.int .i64 0) (.int .i64 0))
              unfold set8 at ZB OZ BZ
              clear RR OC bW
              go_wp2_with fail
              generalize World.setCell _ _ _ = Wc at *
              obtain ⟨y0, y1, y2, y3, y4, y5, y6, y7⟩ := cells8 ZB.out
              exact bodyPost_ret (v := .agg #[.int .i64 ((xn : Int)), .slice (some ⟨g1, 0, none⟩) zs.length d1, .slice (some ⟨g2, 0, none⟩) bs.length d2, .slice (some ⟨g3, 0, none⟩) rs.length d3, .int .i64 (4), .bool false, .int .i64 0, .int .i64 0]) (by simp [results, Tryz.results54, go_sem, y0, y1, y2, y3, y4, y5, y6, y7]) rfl (StepOut.mk rfl rfl rfl (OZ.out.less (by omega)) BZ.out)
            · have h6' : (a == 6) = false := by simpa using h6
              clear h5 h6
              obtain rfl : st = endS ⟨(xn : Int), zs, bs, rs, 0⟩ 4 := HST.out.trans (stepS_bad HO.out HBT.out)
              go_wp2_with fail
              refine (l9Bad_any (xn : Int) 0 _ _ _ _ _ _ _ _ _ _).mono ?_
              rintro e w3 ⟨rfl, b3⟩
              replace RR := row_later RR b3
              replace OC := OC.later b3
              replace bW := below_then bW b3 (Nat.le_refl _)
              clear b3 p0 p1 p2 p3 p4 q0 q1 q2 RK RO sv4
              obtain ⟨r0, r1, r2, r3, r4, r5, r6, r7⟩ := cells8 RR
              have f0 := frozen_row (k := 0) RR
              have f1 := frozen_row (k := 1) RR
              have f2 := frozen_row (k := 2) RR
              have f3 := frozen_row (k := 3) RR
              have f4 := frozen_row (k := 4) RR
              have f5 := frozen_row (k := 5) RR
              have f6 := frozen_row (k := 6) RR
              have f7 := frozen_row (k := 7) RR
              have ZB := Lib.hid (set8_blk RR (.int .i64 ((xn : Int))) (.slice (some ⟨g1, 0, none⟩) zs.length d1) (.slice (some ⟨g2, 0, none⟩) bs.length d2) (.slice (some ⟨g3, 0, none⟩) rs.length d3) (.int .i64 (4)) (.bool false) (.int .i64 0) (.int .i64 0))
              have OZ := Lib.hid (OC.set8 (N := w.heap.size + 1) (fun q => by have := (OC.lt _ q).1; omega) (.int .i64 ((xn : Int))) (.slice (some ⟨g1, 0, none⟩) zs.length d1) (.slice (some ⟨g2, 0, none⟩) bs.length d2) (.slice (some ⟨g3, 0, none⟩) rs.length d3) (.int .i64 (4)) (.bool false) (.int .i64 0) (.int .i64 0))
              have BZ := Lib.hid (set8_below bW (show w.heap.size ≤ w.heap.size + 1 by omega) (.int .i64 ((xn : Int))) (.slice (some ⟨g1, 0, none⟩) zs.length d1) (.slice (some ⟨g2, 0, none⟩) bs.length d2) (.slice (some ⟨g3, 0, none⟩) rs.length d3) (.int .i64 (4)) (.bool false) (.int .i64 0) (.int .i64 0))
              unfold set8 at ZB OZ BZ
              clear RR OC bW
              go_wp2_with fail
              generalize World.setCell _ _ _ = Wc at *
              obtain ⟨y0, y1, y2, y3, y4, y5, y6, y7⟩ := cells8 ZB.out
              exact bodyPost_ret (v := .agg #[.int .i64 ((xn : Int)), .slice (some ⟨g1, 0, none⟩) zs.length d1, .slice (some ⟨g2, 0, none⟩) bs.length d2, .slice (some ⟨g3, 0, none⟩) rs.length d3, .int .i64 (4), .bool false, .int .i64 0, .int .i64 0]) (by simp [results, Tryz.results54, go_sem, y0, y1, y2, y3, y4, y5, y6, y7]) rfl (StepOut.mk rfl rfl rfl (OZ.out.less (by omega)) BZ.out)
        · have HQ : Hid ((decide (zs.length < nd) || (decide (a = 1 ∨ a = 2) && decide (60 < zs.length + 1))) = false) := Lib.hid (by
            rw [decide_eq_false hA, Bool.false_or]
            by_cases h12 : a = 1 ∨ a = 2
            · rw [decide_eq_true h12, Bool.true_and, decide_eq_false_iff_not]
              intro q
              exact hM (HMO.out.2 ⟨h12, q⟩)
            · rw [decide_eq_false h12, Bool.false_and])
          have hM' : ¬ (60 : Int) < (zs.length : Int) + mo := hM
          by_cases h5 : a = 5
          · subst h5
            by_cases hg : (ss.length : Int) ≤ m
            · have HBT : Hid (badS ⟨(xn : Int), zs, bs, rs, 0⟩ (5, m, s) ss = true) := Lib.hid (by rw [HBAD.out, HQ.out, decide_eq_true hg]; rfl)
              obtain rfl : st = endS ⟨(xn : Int), zs, bs, rs, 0⟩ 4 := HST.out.trans (stepS_bad HO.out HBT.out)
              go_wp2_with fail
              refine (l9Bad_any (xn : Int) 0 _ _ _ _ _ _ _ _ _ _).mono ?_
              rintro e w3 ⟨rfl, b3⟩
              replace RR := row_later RR b3
              replace OC := OC.later b3
              replace bW := below_then bW b3 (Nat.le_refl _)
              clear b3 p0 p1 p2 p3 p4 q0 q1 q2 RK RO sv4
              obtain ⟨r0, r1, r2, r3, r4, r5, r6, r7⟩ := cells8 RR
              have f0 := frozen_row (k := 0) RR
              have f1 := frozen_row (k := 1) RR
              have f2 := frozen_row (k := 2) RR
              have f3 := frozen_row (k := 3) RR
              have f4 := frozen_row (k := 4) RR
              have f5 := frozen_row (k := 5) RR
              have f6 := frozen_row (k := 6) RR
              have f7 := frozen_row (k := 7) RR
              have ZB := Lib.hid (set8_blk RR (.int .i64 ((xn : Int))) (.slice (some ⟨g1, 0, none⟩) zs.length d1) (.slice (some ⟨g2, 0, none⟩) bs.length d2) (.slice (some ⟨g3, 0, none⟩) rs.length d3) (.int .i64 (4)) (.bool false) (.int .i64 0) (.int .i64 0))
              have OZ := Lib.hid (OC.set8 (N := w.heap.size + 1) (fun q => by have := (OC.lt _ q).1; omega) (.int .i64 ((xn : Int))) (.slice (some ⟨g1, 0, none⟩) zs.length d1) (.slice (some ⟨g2, 0, none⟩) bs.length d2) (.slice (some ⟨g3, 0, none⟩) rs.length d3) (.int .i64 (4)) (.bool false) (.int .i64 0) (.int .i64 0))
              have BZ := Lib.hid (set8_below bW (show w.heap.size ≤ w.heap.size + 1 by omega) (.int .i64 ((xn : Int))) (.slice (some ⟨g1, 0, none⟩) zs.length d1) (.slice (some ⟨g2, 0, none⟩) bs.length d2) (.slice (some ⟨g3, 0, none⟩) rs.length d3) (.int .i64 (4)) (.bool false) (.int .i64 0) (.int .i64 0))
              unfold set8 at ZB OZ BZ
              clear RR OC bW
              go_wp2_with fail
              generalize World.setCell _ _ _ = Wc at *
              obtain ⟨y0, y1, y2, y3, y4, y5, y6, y7⟩ := cells8 ZB.out
              exact bodyPost_ret (v := .agg #[.int .i64 ((xn : Int)), .slice (some ⟨g1, 0, none⟩) zs.length d1, .slice (some ⟨g2, 0, none⟩) bs.length d2, .slice (some ⟨g3, 0, none⟩) rs.length d3, .int .i64 (4), .bool false, .int .i64 0, .int .i64 0]) (by simp [results, Tryz.results54, go_sem, y0, y1, y2, y3, y4, y5, y6, y7]) rfl (StepOut.mk rfl rfl rfl (OZ.out.less (by omega)) BZ.out)
            · have HBF : Hid (badS ⟨(xn : Int), zs, bs, rs, 0⟩ (5, m, s) ss = false) := Lib.hid (by rw [HBAD.out, HQ.out, decide_eq_false hg]; rfl)
              have e0 := HST.out.trans (stepS_do HO.out HBF.out)
              have CD := Lib.hid (l9Do_any (w.heap.size + 2) (xn : Int) _ g1 g2 g3 d1 d2 d3 zs bs rs 0 _ ss w2 OC hV3 (sv4.more (by omega)) HRC.out HOP.out HBF.out)
              rw [← e0] at CD
              clear e0 HST
              go_wp2_with fail
              refine CD.out.mono ?_
              rintro e w3 ⟨k1, k2, k3, t1, t2, t3, rfl, OE, b3⟩
              replace RR := (b3.block (w.heap.size + 1) (by omega)).trans RR
              replace bW := bW.trans (b3.mono (by omega))
              clear OC
              have OC := OE
              clear b3 p0 p1 p2 p3 p4 q0 q1 q2 RK RO sv4 OE CD
              obtain ⟨r0, r1, r2, r3, r4, r5, r6, r7⟩ := cells8 RR
              have f0 := frozen_row (k := 0) RR
              have f1 := frozen_row (k := 1) RR
              have f2 := frozen_row (k := 2) RR
              have f3 := frozen_row (k := 3) RR
              have f4 := frozen_row (k := 4) RR
              have f5 := frozen_row (k := 5) RR
              have f6 := frozen_row (k := 6) RR
              have f7 := frozen_row (k := 7) RR
              have ZB := Lib.hid (set8_blk RR (.int .i64 (st.c.pl)) (.slice (some ⟨k1, 0, none⟩) st.c.pile.length t1) (.slice (some ⟨k2, 0, none⟩) st.c.bxs.length t2) (.slice (some ⟨k3, 0, none⟩) st.c.rds.length t3) (.int .i64 (st.c.cd)) (.bool st.says) (.int .i64 st.gate) (.int .i64 st.val))
              have OZ := Lib.hid (OC.set8 (N := w.heap.size + 1) (fun q => by have := (OC.lt _ q).1; omega) (.int .i64 (st.c.pl)) (.slice (some ⟨k1, 0, none⟩) st.c.pile.length t1) (.slice (some ⟨k2, 0, none⟩) st.c.bxs.length t2) (.slice (some ⟨k3, 0, none⟩) st.c.rds.length t3) (.int .i64 (st.c.cd)) (.bool st.says) (.int .i64 st.gate) (.int .i64 st.val))
              have BZ := Lib.hid (set8_below bW (show w.heap.size ≤ w.heap.size + 1 by omega) (.int .i64 (st.c.pl)) (.slice (some ⟨k1, 0, none⟩) st.c.pile.length t1) (.slice (some ⟨k2, 0, none⟩) st.c.bxs.length t2) (.slice (some ⟨k3, 0, none⟩) st.c.rds.length t3) (.int .i64 (st.c.cd)) (.bool st.says) (.int .i64 st.gate) (.int .i64 st.val))
              unfold set8 at ZB OZ BZ
              clear RR OC bW
              go_wp2_with fail
              generalize World.setCell _ _ _ = Wc at *
              obtain ⟨y0, y1, y2, y3, y4, y5, y6, y7⟩ := cells8 ZB.out
              exact bodyPost_ret (v := .agg #[.int .i64 (st.c.pl), .slice (some ⟨k1, 0, none⟩) st.c.pile.length t1, .slice (some ⟨k2, 0, none⟩) st.c.bxs.length t2, .slice (some ⟨k3, 0, none⟩) st.c.rds.length t3, .int .i64 (st.c.cd), .bool st.says, .int .i64 st.gate, .int .i64 st.val]) (by simp [results, Tryz.results54, go_sem, y0, y1, y2, y3, y4, y5, y6, y7]) rfl (StepOut.mk rfl rfl rfl (OZ.out.less (by omega)) BZ.out)
          · have h5' : (a == 5) = false := by simpa using h5
            by_cases h6 : a = 6
            · subst h6
              by_cases hg : (ss.length : Int) ≤ m
              · have HBT : Hid (badS ⟨(xn : Int), zs, bs, rs, 0⟩ (6, m, s) ss = true) := Lib.hid (by rw [HBAD.out, HQ.out, decide_eq_true hg]; rfl)
                obtain rfl : st = endS ⟨(xn : Int), zs, bs, rs, 0⟩ 4 := HST.out.trans (stepS_bad HO.out HBT.out)
                go_wp2_with fail
                refine (l9Bad_any (xn : Int) 0 _ _ _ _ _ _ _ _ _ _).mono ?_
                rintro e w3 ⟨rfl, b3⟩
                replace RR := row_later RR b3
                replace OC := OC.later b3
                replace bW := below_then bW b3 (Nat.le_refl _)
                clear b3 p0 p1 p2 p3 p4 q0 q1 q2 RK RO sv4
                obtain ⟨r0, r1, r2, r3, r4, r5, r6, r7⟩ := cells8 RR
                have f0 := frozen_row (k := 0) RR
                have f1 := frozen_row (k := 1) RR
                have f2 := frozen_row (k := 2) RR
                have f3 := frozen_row (k := 3) RR
                have f4 := frozen_row (k := 4) RR
                have f5 := frozen_row (k := 5) RR
                have f6 := frozen_row (k := 6) RR
                have f7 := frozen_row (k := 7) RR
                have ZB := Lib.hid (set8_blk RR (.int .i64 ((xn : Int))) (.slice (some ⟨g1, 0, none⟩) zs.length d1) (.slice (some ⟨g2, 0, none⟩) bs.length d2) (.slice (some ⟨g3, 0, none⟩) rs.length d3) (.int .i64 (4)) (.bool false) (.int .i64 0) (.int .i64 0))
                have OZ := Lib.hid (OC.set8 (N := w.heap.size + 1) (fun q => by have := (OC.lt _ q).1; omega) (.int .i64 ((xn : Int))) (.slice (some ⟨g1, 0, none⟩) zs.length d1) (.slice (some ⟨g2, 0, none⟩) bs.length d2) (.slice (some ⟨g3, 0, none⟩) rs.length d3) (.int .i64 (4)) (.bool false) (.int .i64 0) (.int .i64 0))
                have BZ := Lib.hid (set8_below bW (show w.heap.size ≤ w.heap.size + 1 by omega) (.int .i64 ((xn : Int))) (.slice (some ⟨g1, 0, none⟩) zs.length d1) (.slice (some ⟨g2, 0, none⟩) bs.length d2) (.slice (some ⟨g3, 0, none⟩) rs.length d3) (.int .i64 (4)) (.bool false) (.int .i64 0) (.int .i64 0))
                unfold set8 at ZB OZ BZ
                clear RR OC bW
                go_wp2_with fail
                generalize World.setCell _ _ _ = Wc at *
                obtain ⟨y0, y1, y2, y3, y4, y5, y6, y7⟩ := cells8 ZB.out
                exact bodyPost_ret (v := .agg #[.int .i64 ((xn : Int)), .slice (some ⟨g1, 0, none⟩) zs.length d1, .slice (some ⟨g2, 0, none⟩) bs.length d2, .slice (some ⟨g3, 0, none⟩) rs.length d3, .int .i64 (4), .bool false, .int .i64 0, .int .i64 0]) (by simp [results, Tryz.results54, go_sem, y0, y1, y2, y3, y4, y5, y6, y7]) rfl (StepOut.mk rfl rfl rfl (OZ.out.less (by omega)) BZ.out)
              · have HBF : Hid (badS ⟨(xn : Int), zs, bs, rs, 0⟩ (6, m, s) ss = false) := Lib.hid (by rw [HBAD.out, HQ.out, decide_eq_false hg]; rfl)
                have e0 := HST.out.trans (stepS_do HO.out HBF.out)
                have CD := Lib.hid (l9Do_any (w.heap.size + 2) (xn : Int) _ g1 g2 g3 d1 d2 d3 zs bs rs 0 _ ss w2 OC hV3 (sv4.more (by omega)) HRC.out HOP.out HBF.out)
                rw [← e0] at CD
                clear e0 HST
                go_wp2_with fail
                refine CD.out.mono ?_
                rintro e w3 ⟨k1, k2, k3, t1, t2, t3, rfl, OE, b3⟩
                replace RR := (b3.block (w.heap.size + 1) (by omega)).trans RR
                replace bW := bW.trans (b3.mono (by omega))
                clear OC
                have OC := OE
                clear b3 p0 p1 p2 p3 p4 q0 q1 q2 RK RO sv4 OE CD
                obtain ⟨r0, r1, r2, r3, r4, r5, r6, r7⟩ := cells8 RR
                have f0 := frozen_row (k := 0) RR
                have f1 := frozen_row (k := 1) RR
                have f2 := frozen_row (k := 2) RR
                have f3 := frozen_row (k := 3) RR
                have f4 := frozen_row (k := 4) RR
                have f5 := frozen_row (k := 5) RR
                have f6 := frozen_row (k := 6) RR
                have f7 := frozen_row (k := 7) RR
                have ZB := Lib.hid (set8_blk RR (.int .i64 (st.c.pl)) (.slice (some ⟨k1, 0, none⟩) st.c.pile.length t1) (.slice (some ⟨k2, 0, none⟩) st.c.bxs.length t2) (.slice (some ⟨k3, 0, none⟩) st.c.rds.length t3) (.int .i64 (st.c.cd)) (.bool st.says) (.int .i64 st.gate) (.int .i64 st.val))
                have OZ := Lib.hid (OC.set8 (N := w.heap.size + 1) (fun q => by have := (OC.lt _ q).1; omega) (.int .i64 (st.c.pl)) (.slice (some ⟨k1, 0, none⟩) st.c.pile.length t1) (.slice (some ⟨k2, 0, none⟩) st.c.bxs.length t2) (.slice (some ⟨k3, 0, none⟩) st.c.rds.length t3) (.int .i64 (st.c.cd)) (.bool st.says) (.int .i64 st.gate) (.int .i64 st.val))
                have BZ := Lib.hid (set8_below bW (show w.heap.size ≤ w.heap.size + 1 by omega) (.int .i64 (st.c.pl)) (.slice (some ⟨k1, 0, none⟩) st.c.pile.length t1) (.slice (some ⟨k2, 0, none⟩) st.c.bxs.length t2) (.slice (some ⟨k3, 0, none⟩) st.c.rds.length t3) (.int .i64 (st.c.cd)) (.bool st.says) (.int .i64 st.gate) (.int .i64 st.val))
                unfold set8 at ZB OZ BZ
                clear RR OC bW
                go_wp2_with fail
                generalize World.setCell _ _ _ = Wc at *
                obtain ⟨y0, y1, y2, y3, y4, y5, y6, y7⟩ := cells8 ZB.out
                exact bodyPost_ret (v := .agg #[.int .i64 (st.c.pl), .slice (some ⟨k1, 0, none⟩) st.c.pile.length t1, .slice (some ⟨k2, 0, none⟩) st.c.bxs.length t2, .slice (some ⟨k3, 0, none⟩) st.c.rds.length t3, .int .i64 (st.c.cd), .bool st.says, .int .i64 st.gate, .int .i64 st.val]) (by simp [results, Tryz.results54, go_sem, y0, y1, y2, y3, y4, y5, y6, y7]) rfl (StepOut.mk rfl rfl rfl (OZ.out.less (by omega)) BZ.out)
            · have h6' : (a == 6) = false := by simpa using h6
              have HBF : Hid (badS ⟨(xn : Int), zs, bs, rs, 0⟩ (a, m, s) ss = false) := Lib.hid (by rw [HBAD.out, HQ.out, decide_eq_false (by omega : ¬ (a = 5 ∨ a = 6))]; rfl)
              clear h5 h6
              have e0 := HST.out.trans (stepS_do HO.out HBF.out)
              have CD := Lib.hid (l9Do_any (w.heap.size + 2) (xn : Int) _ g1 g2 g3 d1 d2 d3 zs bs rs 0 _ ss w2 OC hV3 (sv4.more (by omega)) HRC.out HOP.out HBF.out)
              rw [← e0] at CD
              clear e0 HST
              go_wp2_with fail
              refine CD.out.mono ?_
              rintro e w3 ⟨k1, k2, k3, t1, t2, t3, rfl, OE, b3⟩
              replace RR := (b3.block (w.heap.size + 1) (by omega)).trans RR
              replace bW := bW.trans (b3.mono (by omega))
              clear OC
              have OC := OE
              clear b3 p0 p1 p2 p3 p4 q0 q1 q2 RK RO sv4 OE CD
              obtain ⟨r0, r1, r2, r3, r4, r5, r6, r7⟩ := cells8 RR
              have f0 := frozen_row (k := 0) RR
              have f1 := frozen_row (k := 1) RR
              have f2 := frozen_row (k := 2) RR
              have f3 := frozen_row (k := 3) RR
              have f4 := frozen_row (k := 4) RR
              have f5 := frozen_row (k := 5) RR
              have f6 := frozen_row (k := 6) RR
              have f7 := frozen_row (k := 7) RR
              have ZB := Lib.hid (set8_blk RR (.int .i64 (st.c.pl)) (.slice (some ⟨k1, 0, none⟩) st.c.pile.length t1) (.slice (some ⟨k2, 0, none⟩) st.c.bxs.length t2) (.slice (some ⟨k3, 0, none⟩) st.c.rds.length t3) (.int .i64 (st.c.cd)) (.bool st.says) (.int .i64 st.gate) (.int .i64 st.val))
              have OZ := Lib.hid (OC.set8 (N := w.heap.size + 1) (fun q => by have := (OC.lt _ q).1; omega) (.int .i64 (st.c.pl)) (.slice (some ⟨k1, 0, none⟩) st.c.pile.length t1) (.slice (some ⟨k2, 0, none⟩) st.c.bxs.length t2) (.slice (some ⟨k3, 0, none⟩) st.c.rds.length t3) (.int .i64 (st.c.cd)) (.bool st.says) (.int .i64 st.gate) (.int .i64 st.val))
              have BZ := Lib.hid (set8_below bW (show w.heap.size ≤ w.heap.size + 1 by omega) (.int .i64 (st.c.pl)) (.slice (some ⟨k1, 0, none⟩) st.c.pile.length t1) (.slice (some ⟨k2, 0, none⟩) st.c.bxs.length t2) (.slice (some ⟨k3, 0, none⟩) st.c.rds.length t3) (.int .i64 (st.c.cd)) (.bool st.says) (.int .i64 st.gate) (.int .i64 st.val))
              unfold set8 at ZB OZ BZ
              clear RR OC bW
              go_wp2_with fail
              generalize World.setCell _ _ _ = Wc at *
              obtain ⟨y0, y1, y2, y3, y4, y5, y6, y7⟩ := cells8 ZB.out
              exact bodyPost_ret (v := .agg #[.int .i64 (st.c.pl), .slice (some ⟨k1, 0, none⟩) st.c.pile.length t1, .slice (some ⟨k2, 0, none⟩) st.c.bxs.length t2, .slice (some ⟨k3, 0, none⟩) st.c.rds.length t3, .int .i64 (st.c.cd), .bool st.says, .int .i64 st.gate, .int .i64 st.val]) (by simp [results, Tryz.results54, go_sem, y0, y1, y2, y3, y4, y5, y6, y7]) rfl (StepOut.mk rfl rfl rfl (OZ.out.less (by omega)) BZ.out)
    · obtain rfl : st = endS ⟨x, zs, bs, rs, 0⟩ 4 := HST.out.trans (stepS_out (List.getElem?_eq_none (by omega)))
      have hx' : (os.length : Int) ≤ x := by omega
      go_wp2_with fail
      refine (l9Bad_any x 0 _ _ _ _ _ _ _ _ _ _).mono ?_
      rintro e w2 ⟨rfl, b2⟩
      replace RR := row_later RR b2
      replace OC := OC.later b2
      replace bW := below_then bW b2 (Nat.le_refl _)
      clear b2 p0 p1 p2 p3 p4 so2 sv2 RK
      obtain ⟨r0, r1, r2, r3, r4, r5, r6, r7⟩ := cells8 RR
      have f0 := frozen_row (k := 0) RR
      have f1 := frozen_row (k := 1) RR
      have f2 := frozen_row (k := 2) RR
      have f3 := frozen_row (k := 3) RR
      have f4 := frozen_row (k := 4) RR
      have f5 := frozen_row (k := 5) RR
      have f6 := frozen_row (k := 6) RR
      have f7 := frozen_row (k := 7) RR
      have ZB := Lib.hid (set8_blk RR (.int .i64 (x)) (.slice (some ⟨g1, 0, none⟩) zs.length d1) (.slice (some ⟨g2, 0, none⟩) bs.length d2) (.slice (some ⟨g3, 0, none⟩) rs.length d3) (.int .i64 (4)) (.bool false) (.int .i64 0) (.int .i64 0))
      have OZ := Lib.hid (OC.set8 (N := w.heap.size + 1) (fun q => by have := (OC.lt _ q).1; omega) (.int .i64 (x)) (.slice (some ⟨g1, 0, none⟩) zs.length d1) (.slice (some ⟨g2, 0, none⟩) bs.length d2) (.slice (some ⟨g3, 0, none⟩) rs.length d3) (.int .i64 (4)) (.bool false) (.int .i64 0) (.int .i64 0))
      have BZ := Lib.hid (set8_below bW (show w.heap.size ≤ w.heap.size + 1 by omega) (.int .i64 (x)) (.slice (some ⟨g1, 0, none⟩) zs.length d1) (.slice (some ⟨g2, 0, none⟩) bs.length d2) (.slice (some ⟨g3, 0, none⟩) rs.length d3) (.int .i64 (4)) (.bool false) (.int .i64 0) (.int .i64 0))
      unfold set8 at ZB OZ BZ
      clear RR OC bW
      go_wp2_with fail
      generalize World.setCell _ _ _ = Wc at *
      obtain ⟨y0, y1, y2, y3, y4, y5, y6, y7⟩ := cells8 ZB.out
      exact bodyPost_ret (v := .agg #[.int .i64 (x), .slice (some ⟨g1, 0, none⟩) zs.length d1, .slice (some ⟨g2, 0, none⟩) bs.length d2, .slice (some ⟨g3, 0, none⟩) rs.length d3, .int .i64 (4), .bool false, .int .i64 0, .int .i64 0]) (by simp [results, Tryz.results54, go_sem, y0, y1, y2, y3, y4, y5, y6, y7]) rfl (StepOut.mk rfl rfl rfl (OZ.out.less (by omega)) BZ.out)
  · obtain rfl : st = onS ⟨x, zs, bs, rs, y⟩ := HST.out.trans (stepS_ran hy)
    have hy' : (y != 0) = true := by simpa using hy
    clear hy
    go_upto_region 3 with fail
    obtain ⟨r0, r1, r2, r3, r4, r5, r6, r7⟩ := cells8 RR
    have f0 := frozen_row (k := 0) RR
    have f1 := frozen_row (k := 1) RR
    have f2 := frozen_row (k := 2) RR
    have f3 := frozen_row (k := 3) RR
    have f4 := frozen_row (k := 4) RR
    have f5 := frozen_row (k := 5) RR
    have f6 := frozen_row (k := 6) RR
    have f7 := frozen_row (k := 7) RR
    have ZB := Lib.hid (set8_blk RR (.int .i64 (x)) (.slice (some ⟨g1, 0, none⟩) zs.length d1) (.slice (some ⟨g2, 0, none⟩) bs.length d2) (.slice (some ⟨g3, 0, none⟩) rs.length d3) (.int .i64 (y)) (.bool false) (.int .i64 0) (.int .i64 0))
    have OZ := Lib.hid (OC.set8 (N := w.heap.size + 1) (fun q => by have := (OC.lt _ q).1; omega) (.int .i64 (x)) (.slice (some ⟨g1, 0, none⟩) zs.length d1) (.slice (some ⟨g2, 0, none⟩) bs.length d2) (.slice (some ⟨g3, 0, none⟩) rs.length d3) (.int .i64 (y)) (.bool false) (.int .i64 0) (.int .i64 0))
    have BZ := Lib.hid (set8_below bW (show w.heap.size ≤ w.heap.size + 1 by omega) (.int .i64 (x)) (.slice (some ⟨g1, 0, none⟩) zs.length d1) (.slice (some ⟨g2, 0, none⟩) bs.length d2) (.slice (some ⟨g3, 0, none⟩) rs.length d3) (.int .i64 (y)) (.bool false) (.int .i64 0) (.int .i64 0))
    unfold set8 at ZB OZ BZ
    clear RR OC bW
    go_wp2_with fail
    generalize World.setCell _ _ _ = Wc at *
    obtain ⟨y0, y1, y2, y3, y4, y5, y6, y7⟩ := cells8 ZB.out
    exact bodyPost_ret (v := .agg #[.int .i64 (x), .slice (some ⟨g1, 0, none⟩) zs.length d1, .slice (some ⟨g2, 0, none⟩) bs.length d2, .slice (some ⟨g3, 0, none⟩) rs.length d3, .int .i64 (y), .bool false, .int .i64 0, .int .i64 0]) (by simp [results, Tryz.results54, go_sem, y0, y1, y2, y3, y4, y5, y6, y7]) rfl (StepOut.mk rfl rfl rfl (OZ.out.less (by omega)) BZ.out)

end Go.Proofs.YtigcbegeaikfcaaGreatDoor

namespace Go.Proofs.YtigcbegeaikfcaaGreatDoor
open Go.RowKit
set_option linter.unusedVariables false

def SteppedOut (st : St) (w : World) (e : Ending) (w' : World) : Prop :=
  ∃ u1 u2 u3, e = .returned (stepVal st.c.pl u1 u2 u3 st.c.cd st.says st.gate st.val) ∧ OwnC w' w.heap.size u1 u2 u3 st.c.pile st.c.bxs st.c.rds ∧ Below w.heap.size w w' ∧ nilOk u1 ∧ nilOk u2 ∧ nilOk u3
theorem SteppedOut.mk {st : St} {w w' : World} {u1 u2 u3 : Value} (o : OwnC w' w.heap.size u1 u2 u3 st.c.pile st.c.bxs st.c.rds) (b : Below w.heap.size w w') (n1 : nilOk u1) (n2 : nilOk u2) (n3 : nilOk u3) :
    SteppedOut st w (.returned (stepVal st.c.pl u1 u2 u3 st.c.cd st.says st.gate st.val)) w' := ⟨u1, u2, u3, rfl, o, b, n1, n2, n3⟩

set_option maxHeartbeats 8000000 in
set_option maxRecDepth 100000 in
theorem sStepped_any (B : Nat) (x y : Int) (v1 v2 v3 vo vs : Value) (zs : List Int) (bs : List Bx) (rs : List Int) (os : List Opv) (ss : List (List Int)) (w : World) (s1 : SeeI w B v1 zs) (s2 : SeeBx w B v2 bs) (s3 : SeeI w B v3 rs) (so : SeeOp w B vo os) (sv : SeeSS w B vs ss) (hB : B ≤ w.heap.size)
    (n1 : nilOk v1) (n2 : nilOk v2) (n3 : nilOk v3) (hS : shortB bs) (hO : shortOp os) :
    Calls Tryz.prog 10 #[.agg #[.int .i64 x, v1, v2, v3, .int .i64 y], vo, vs] w (SteppedOut (steppedS ⟨x, zs, bs, rs, y⟩ os ss) w) := by
  obtain ⟨A1, c1, rfl⟩ := s1.shape
  obtain ⟨A2, c2, rfl⟩ := s2.shape
  obtain ⟨A3, c3, rfl⟩ := s3.shape
  obtain ⟨Ao, co, rfl⟩ := so.shape
  obtain ⟨As, cs, rfl⟩ := sv.shape
  have H0 : Hid (∃ W, W = (w.alloc (.cells #[.int .i64 x, .slice A1 zs.length c1, .slice A2 bs.length c2, .slice A3 rs.length c3, .int .i64 y] 27)).alloc
      (.cells #[.int .i64 0, .slice none 0 0, .slice none 0 0, .slice none 0 0, .int .i64 0, .bool false, .int .i64 0, .int .i64 0] 33) ∧
      (W.heap[w.heap.size]? = some (.cells #[.int .i64 x, .slice A1 zs.length c1, .slice A2 bs.length c2, .slice A3 rs.length c3, .int .i64 y] 27 (0, 0)) ∧
      W.heap[w.heap.size + 1]? = some (.cells #[.int .i64 0, .slice none 0 0, .slice none 0 0, .slice none 0 0, .int .i64 0, .bool false, .int .i64 0, .int .i64 0] 33 (0, 0))) ∧ Below w.heap.size w W ∧ W.heap.size = w.heap.size + 2) :=
    Lib.hid ⟨_, rfl, ⟨alloc_old (heap_alloc_new _ _) _, alloc_at _ _ (by simp) rfl⟩, ((Below.refl _ _).alloc (Nat.le_refl _) _).alloc (by simp) _, by simp⟩
  obtain ⟨st, hst⟩ : ∃ st, st = steppedS ⟨x, zs, bs, rs, y⟩ os ss := ⟨_, rfl⟩
  rw [← hst]
  have HST := Lib.hid hst
  clear hst
  go_enter Tryz.func10, Tryz.ntmps10
  go_wp2_with fail
  obtain ⟨W, hW, hrow, bW, hsz⟩ := H0.out
  rw [← hW]
  clear hW H0
  have HN := Lib.hid hsz
  clear hsz
  have hBW := Nat.le_trans hB bW.size
  refine (sCoreOk_any B x y _ _ _ zs bs rs W (s1.below (bW.mono hB)) (s2.below (bW.mono hB)) (s3.below (bW.mono hB)) hBW hS).mono ?_
  rintro e w1 ⟨rfl, b1⟩
  replace hrow := two_later hrow b1
  replace bW := below_then bW b1 (Nat.le_refl _)
  have hV : w.heap.size + 2 ≤ w1.heap.size := by have := b1.size; have := HN.out; omega
  have s1' := s1.below (bW.mono hB)
  have s2' := s2.below (bW.mono hB)
  have s3' := s3.below (bW.mono hB)
  have so' := so.below (bW.mono hB)
  have sv' := sv.below (bW.mono hB)
  have RK := hrow.1
  have RR := hrow.2
  clear hrow s1 s2 s3 so sv b1
  have hB1 : B ≤ w1.heap.size := by omega
  obtain ⟨p0, p1, p2, p3, p4⟩ := cells5 RK
  cases hC : coreB x zs bs rs y
  · obtain rfl : st = ⟨⟨0, [], [], [], 4⟩, false, 0, 0⟩ := by rw [HST.out]; unfold steppedS crB; rw [hC]; rfl
    have OC : OwnC w1 (w.heap.size + 2) (.slice none 0 0) (.slice none 0 0) (.slice none 0 0) [] [] [] := ⟨OwnI.nil _ _ _, OwnN.nil _ _ _ _, OwnI.nil _ _ _, fun _ h => by simp [Value.ownBlock] at h, fun _ h => by simp [Value.ownBlock] at h, fun _ h => by simp [Value.ownBlock] at h⟩
    clear p0 p1 p2 p3 p4 RK s1' s2' s3' so' sv' hC
    obtain ⟨r0, r1, r2, r3, r4, r5, r6, r7⟩ := cells8 RR
    have f0 := frozen_row (k := 0) RR
    have f1 := frozen_row (k := 1) RR
    have f2 := frozen_row (k := 2) RR
    have f3 := frozen_row (k := 3) RR
    have f4 := frozen_row (k := 4) RR
    have f5 := frozen_row (k := 5) RR
    have f6 := frozen_row (k := 6) RR
    have f7 := frozen_row (k := 7) RR
    have ZB := Lib.hid (set8_blk RR (.int .i64 (0)) (.slice none 0 0) (.slice none 0 0) (.slice none 0 0) (.int .i64 (4)) (.bool false) (.int .i64 0) (.int .i64 0))
    have OZ := Lib.hid (OC.set8 (N := w.heap.size + 1) (fun q => by have := (OC.lt _ q).1; omega) (.int .i64 (0)) (.slice none 0 0) (.slice none 0 0) (.slice none 0 0) (.int .i64 (4)) (.bool false) (.int .i64 0) (.int .i64 0))
    have BZ := Lib.hid (set8_below bW (show w.heap.size ≤ w.heap.size + 1 by omega) (.int .i64 (0)) (.slice none 0 0) (.slice none 0 0) (.slice none 0 0) (.int .i64 (4)) (.bool false) (.int .i64 0) (.int .i64 0))
    unfold set8 at ZB OZ BZ
    clear RR OC bW
    go_wp2_with fail
    generalize World.setCell _ _ _ = Wc at *
    obtain ⟨y0, y1, y2, y3, y4, y5, y6, y7⟩ := cells8 ZB.out
    exact bodyPost_ret (v := .agg #[.int .i64 (0), .slice none 0 0, .slice none 0 0, .slice none 0 0, .int .i64 (4), .bool false, .int .i64 0, .int .i64 0]) (by simp [results, Tryz.results10, go_sem, y0, y1, y2, y3, y4, y5, y6, y7]) rfl (SteppedOut.mk (OZ.out.less (by omega)) BZ.out rfl rfl rfl)
  · have HRC := Lib.hid (coreB_right hC)
    by_cases hy : y = 0
    · subst hy
      have C1 := Lib.hid (l8Code_any B _ os w1 so' hB1 hO)
      go_wp2_with fail
      refine C1.out.mono ?_
      clear C1
      rintro e w2 ⟨rfl, b2⟩
      replace RK := row_later RK b2
      replace RR := row_later RR b2
      replace bW := below_then bW b2 (Nat.le_refl _)
      replace s1' := s1'.below (b2.mono hB1)
      replace s2' := s2'.below (b2.mono hB1)
      replace s3' := s3'.below (b2.mono hB1)
      replace so' := so'.below (b2.mono hB1)
      replace sv' := sv'.below (b2.mono hB1)
      replace hV := Nat.le_trans hV b2.size
      replace hB1 := Nat.le_trans hB1 b2.size
      clear b2 p0 p1 p2 p3 p4
      obtain ⟨p0, p1, p2, p3, p4⟩ := cells5 RK
      cases hco : codeB os
      · obtain rfl : st = endS ⟨x, zs, bs, rs, 0⟩ 4 := by rw [HST.out]; unfold steppedS crB; rw [hC, hco]; rfl
        clear hC hco
        go_wp2_with fail
        refine (l9Copy_any B x 0 _ _ _ zs bs rs _ s1' s2' s3' hB1 n1 n2 n3 (by have := HRC.out.zl; omega) (by have := HRC.out.b12; omega) (by have := HRC.out.r4; omega)).mono ?_
        rintro e w4 ⟨g1, g2, g3, d1, d2, d3, rfl, OC, b4⟩
        replace OC := OC.less hV
        replace RR := row_later RR b4
        replace bW := below_then bW b4 (Nat.le_refl _)
        clear b4 p0 p1 p2 p3 p4 RK s1' s2' s3' so' sv'
        go_wp2_with fail
        refine (l9Bad_any x 0 _ _ _ _ _ _ _ _ _ _).mono ?_
        rintro e w5 ⟨rfl, b5⟩
        replace OC := OC.later b5
        replace RR := row_later RR b5
        replace bW := below_then bW b5 (Nat.le_refl _)
        clear b5
        obtain ⟨r0, r1, r2, r3, r4, r5, r6, r7⟩ := cells8 RR
        have f0 := frozen_row (k := 0) RR
        have f1 := frozen_row (k := 1) RR
        have f2 := frozen_row (k := 2) RR
        have f3 := frozen_row (k := 3) RR
        have f4 := frozen_row (k := 4) RR
        have f5 := frozen_row (k := 5) RR
        have f6 := frozen_row (k := 6) RR
        have f7 := frozen_row (k := 7) RR
        have ZB := Lib.hid (set8_blk RR (.int .i64 (x)) (.slice (some ⟨g1, 0, none⟩) zs.length d1) (.slice (some ⟨g2, 0, none⟩) bs.length d2) (.slice (some ⟨g3, 0, none⟩) rs.length d3) (.int .i64 (4)) (.bool false) (.int .i64 0) (.int .i64 0))
        have OZ := Lib.hid (OC.set8 (N := w.heap.size + 1) (fun q => by have := (OC.lt _ q).1; omega) (.int .i64 (x)) (.slice (some ⟨g1, 0, none⟩) zs.length d1) (.slice (some ⟨g2, 0, none⟩) bs.length d2) (.slice (some ⟨g3, 0, none⟩) rs.length d3) (.int .i64 (4)) (.bool false) (.int .i64 0) (.int .i64 0))
        have BZ := Lib.hid (set8_below bW (show w.heap.size ≤ w.heap.size + 1 by omega) (.int .i64 (x)) (.slice (some ⟨g1, 0, none⟩) zs.length d1) (.slice (some ⟨g2, 0, none⟩) bs.length d2) (.slice (some ⟨g3, 0, none⟩) rs.length d3) (.int .i64 (4)) (.bool false) (.int .i64 0) (.int .i64 0))
        unfold set8 at ZB OZ BZ
        clear RR OC bW
        go_wp2_with fail
        generalize World.setCell _ _ _ = Wc at *
        obtain ⟨y0, y1, y2, y3, y4, y5, y6, y7⟩ := cells8 ZB.out
        exact bodyPost_ret (v := .agg #[.int .i64 (x), .slice (some ⟨g1, 0, none⟩) zs.length d1, .slice (some ⟨g2, 0, none⟩) bs.length d2, .slice (some ⟨g3, 0, none⟩) rs.length d3, .int .i64 (4), .bool false, .int .i64 0, .int .i64 0]) (by simp [results, Tryz.results10, go_sem, y0, y1, y2, y3, y4, y5, y6, y7]) rfl (SteppedOut.mk (OZ.out.less (by omega)) BZ.out trivial trivial trivial)
      · have C2 := Lib.hid (l9Slots_any B _ ss w2 sv')
        have HCO := Lib.hid hco
        go_wp2_with fail
        refine C2.out.mono ?_
        clear C2
        rintro e w3 ⟨rfl, rfl⟩
        cases hso : slotsB ss
        · obtain rfl : st = endS ⟨x, zs, bs, rs, 0⟩ 4 := by rw [HST.out]; unfold steppedS crB; rw [hC, hco, hso]; rfl
          clear hC hco hso
          go_wp2_with fail
          refine (l9Copy_any B x 0 _ _ _ zs bs rs _ s1' s2' s3' hB1 n1 n2 n3 (by have := HRC.out.zl; omega) (by have := HRC.out.b12; omega) (by have := HRC.out.r4; omega)).mono ?_
          rintro e w4 ⟨g1, g2, g3, d1, d2, d3, rfl, OC, b4⟩
          replace OC := OC.less hV
          replace RR := row_later RR b4
          replace bW := below_then bW b4 (Nat.le_refl _)
          clear b4 p0 p1 p2 p3 p4 RK s1' s2' s3' so' sv'
          go_wp2_with fail
          refine (l9Bad_any x 0 _ _ _ _ _ _ _ _ _ _).mono ?_
          rintro e w5 ⟨rfl, b5⟩
          replace OC := OC.later b5
          replace RR := row_later RR b5
          replace bW := below_then bW b5 (Nat.le_refl _)
          clear b5
          obtain ⟨r0, r1, r2, r3, r4, r5, r6, r7⟩ := cells8 RR
          have f0 := frozen_row (k := 0) RR
          have f1 := frozen_row (k := 1) RR
          have f2 := frozen_row (k := 2) RR
          have f3 := frozen_row (k := 3) RR
          have f4 := frozen_row (k := 4) RR
          have f5 := frozen_row (k := 5) RR
          have f6 := frozen_row (k := 6) RR
          have f7 := frozen_row (k := 7) RR
          have ZB := Lib.hid (set8_blk RR (.int .i64 (x)) (.slice (some ⟨g1, 0, none⟩) zs.length d1) (.slice (some ⟨g2, 0, none⟩) bs.length d2) (.slice (some ⟨g3, 0, none⟩) rs.length d3) (.int .i64 (4)) (.bool false) (.int .i64 0) (.int .i64 0))
          have OZ := Lib.hid (OC.set8 (N := w.heap.size + 1) (fun q => by have := (OC.lt _ q).1; omega) (.int .i64 (x)) (.slice (some ⟨g1, 0, none⟩) zs.length d1) (.slice (some ⟨g2, 0, none⟩) bs.length d2) (.slice (some ⟨g3, 0, none⟩) rs.length d3) (.int .i64 (4)) (.bool false) (.int .i64 0) (.int .i64 0))
          have BZ := Lib.hid (set8_below bW (show w.heap.size ≤ w.heap.size + 1 by omega) (.int .i64 (x)) (.slice (some ⟨g1, 0, none⟩) zs.length d1) (.slice (some ⟨g2, 0, none⟩) bs.length d2) (.slice (some ⟨g3, 0, none⟩) rs.length d3) (.int .i64 (4)) (.bool false) (.int .i64 0) (.int .i64 0))
          unfold set8 at ZB OZ BZ
          clear RR OC bW
          go_wp2_with fail
          generalize World.setCell _ _ _ = Wc at *
          obtain ⟨y0, y1, y2, y3, y4, y5, y6, y7⟩ := cells8 ZB.out
          exact bodyPost_ret (v := .agg #[.int .i64 (x), .slice (some ⟨g1, 0, none⟩) zs.length d1, .slice (some ⟨g2, 0, none⟩) bs.length d2, .slice (some ⟨g3, 0, none⟩) rs.length d3, .int .i64 (4), .bool false, .int .i64 0, .int .i64 0]) (by simp [results, Tryz.results10, go_sem, y0, y1, y2, y3, y4, y5, y6, y7]) rfl (SteppedOut.mk (OZ.out.less (by omega)) BZ.out trivial trivial trivial)
        · have HSS : Hid (st = stepS ⟨x, zs, bs, rs, 0⟩ os ss) := Lib.hid (by rw [HST.out]; unfold steppedS crB; rw [hC, hco, hso]; rfl)
          clear hC hco hso HST
          have CD := Lib.hid (fun W a1 a2 a3 a4 a5 a6 => l9Step_any B x 0 (.slice A1 zs.length c1) (.slice A2 bs.length c2) (.slice A3 rs.length c3) (.slice Ao os.length co) (.slice As ss.length cs) zs bs rs os ss W a1 a2 a3 a4 a5 a6 n1 n2 n3 HRC.out (fun _ => HCO.out))
          go_wp2_with fail
          refine (CD.out _ s1' s2' s3' so' sv' hB1).mono ?_
          rintro e w4 ⟨g1, g2, g3, d1, d2, d3, rfl, OC, b4⟩
          replace OC := OC.less hV
          replace RR := (b4.block (w.heap.size + 1) (by omega)).trans RR
          replace bW := below_then bW b4 (Nat.le_refl _)
          rw [← HSS.out] at OC ⊢
          clear b4 p0 p1 p2 p3 p4 RK s1' s2' s3' so' sv' CD HSS
          obtain ⟨r0, r1, r2, r3, r4, r5, r6, r7⟩ := cells8 RR
          have f0 := frozen_row (k := 0) RR
          have f1 := frozen_row (k := 1) RR
          have f2 := frozen_row (k := 2) RR
          have f3 := frozen_row (k := 3) RR
          have f4 := frozen_row (k := 4) RR
          have f5 := frozen_row (k := 5) RR
          have f6 := frozen_row (k := 6) RR
          have f7 := frozen_row (k := 7) RR
          have ZB := Lib.hid (set8_blk RR (.int .i64 (st.c.pl)) (.slice (some ⟨g1, 0, none⟩) st.c.pile.length d1) (.slice (some ⟨g2, 0, none⟩) st.c.bxs.length d2) (.slice (some ⟨g3, 0, none⟩) st.c.rds.length d3) (.int .i64 (st.c.cd)) (.bool st.says) (.int .i64 st.gate) (.int .i64 st.val))
          have OZ := Lib.hid (OC.set8 (N := w.heap.size + 1) (fun q => by have := (OC.lt _ q).1; omega) (.int .i64 (st.c.pl)) (.slice (some ⟨g1, 0, none⟩) st.c.pile.length d1) (.slice (some ⟨g2, 0, none⟩) st.c.bxs.length d2) (.slice (some ⟨g3, 0, none⟩) st.c.rds.length d3) (.int .i64 (st.c.cd)) (.bool st.says) (.int .i64 st.gate) (.int .i64 st.val))
          have BZ := Lib.hid (set8_below bW (show w.heap.size ≤ w.heap.size + 1 by omega) (.int .i64 (st.c.pl)) (.slice (some ⟨g1, 0, none⟩) st.c.pile.length d1) (.slice (some ⟨g2, 0, none⟩) st.c.bxs.length d2) (.slice (some ⟨g3, 0, none⟩) st.c.rds.length d3) (.int .i64 (st.c.cd)) (.bool st.says) (.int .i64 st.gate) (.int .i64 st.val))
          unfold set8 at ZB OZ BZ
          clear RR OC bW
          go_wp2_with fail
          generalize World.setCell _ _ _ = Wc at *
          obtain ⟨y0, y1, y2, y3, y4, y5, y6, y7⟩ := cells8 ZB.out
          exact bodyPost_ret (v := .agg #[.int .i64 (st.c.pl), .slice (some ⟨g1, 0, none⟩) st.c.pile.length d1, .slice (some ⟨g2, 0, none⟩) st.c.bxs.length d2, .slice (some ⟨g3, 0, none⟩) st.c.rds.length d3, .int .i64 (st.c.cd), .bool st.says, .int .i64 st.gate, .int .i64 st.val]) (by simp [results, Tryz.results10, go_sem, y0, y1, y2, y3, y4, y5, y6, y7]) rfl (SteppedOut.mk (OZ.out.less (by omega)) BZ.out trivial trivial trivial)
    · have hy' : (y == 0) = false := by simpa using hy
      have HSS : Hid (st = stepS ⟨x, zs, bs, rs, y⟩ os ss) := Lib.hid (by rw [HST.out]; unfold steppedS crB; rw [hC, if_neg (by simp), if_neg (fun q => hy q.1)])
      have HNY := Lib.hid hy
      clear hC HST hy
      have CD := Lib.hid (fun W a1 a2 a3 a4 a5 a6 => l9Step_any B x y (.slice A1 zs.length c1) (.slice A2 bs.length c2) (.slice A3 rs.length c3) (.slice Ao os.length co) (.slice As ss.length cs) zs bs rs os ss W a1 a2 a3 a4 a5 a6 n1 n2 n3 HRC.out (fun q => absurd q HNY.out))
      go_wp2_with fail
      refine (CD.out _ s1' s2' s3' so' sv' hB1).mono ?_
      rintro e w4 ⟨g1, g2, g3, d1, d2, d3, rfl, OC, b4⟩
      replace OC := OC.less hV
      replace RR := (b4.block (w.heap.size + 1) (by omega)).trans RR
      replace bW := below_then bW b4 (Nat.le_refl _)
      rw [← HSS.out] at OC ⊢
      clear b4 p0 p1 p2 p3 p4 RK s1' s2' s3' so' sv' CD HSS
      obtain ⟨r0, r1, r2, r3, r4, r5, r6, r7⟩ := cells8 RR
      have f0 := frozen_row (k := 0) RR
      have f1 := frozen_row (k := 1) RR
      have f2 := frozen_row (k := 2) RR
      have f3 := frozen_row (k := 3) RR
      have f4 := frozen_row (k := 4) RR
      have f5 := frozen_row (k := 5) RR
      have f6 := frozen_row (k := 6) RR
      have f7 := frozen_row (k := 7) RR
      have ZB := Lib.hid (set8_blk RR (.int .i64 (st.c.pl)) (.slice (some ⟨g1, 0, none⟩) st.c.pile.length d1) (.slice (some ⟨g2, 0, none⟩) st.c.bxs.length d2) (.slice (some ⟨g3, 0, none⟩) st.c.rds.length d3) (.int .i64 (st.c.cd)) (.bool st.says) (.int .i64 st.gate) (.int .i64 st.val))
      have OZ := Lib.hid (OC.set8 (N := w.heap.size + 1) (fun q => by have := (OC.lt _ q).1; omega) (.int .i64 (st.c.pl)) (.slice (some ⟨g1, 0, none⟩) st.c.pile.length d1) (.slice (some ⟨g2, 0, none⟩) st.c.bxs.length d2) (.slice (some ⟨g3, 0, none⟩) st.c.rds.length d3) (.int .i64 (st.c.cd)) (.bool st.says) (.int .i64 st.gate) (.int .i64 st.val))
      have BZ := Lib.hid (set8_below bW (show w.heap.size ≤ w.heap.size + 1 by omega) (.int .i64 (st.c.pl)) (.slice (some ⟨g1, 0, none⟩) st.c.pile.length d1) (.slice (some ⟨g2, 0, none⟩) st.c.bxs.length d2) (.slice (some ⟨g3, 0, none⟩) st.c.rds.length d3) (.int .i64 (st.c.cd)) (.bool st.says) (.int .i64 st.gate) (.int .i64 st.val))
      unfold set8 at ZB OZ BZ
      clear RR OC bW
      go_wp2_with fail
      generalize World.setCell _ _ _ = Wc at *
      obtain ⟨y0, y1, y2, y3, y4, y5, y6, y7⟩ := cells8 ZB.out
      exact bodyPost_ret (v := .agg #[.int .i64 (st.c.pl), .slice (some ⟨g1, 0, none⟩) st.c.pile.length d1, .slice (some ⟨g2, 0, none⟩) st.c.bxs.length d2, .slice (some ⟨g3, 0, none⟩) st.c.rds.length d3, .int .i64 (st.c.cd), .bool st.says, .int .i64 st.gate, .int .i64 st.val]) (by simp [results, Tryz.results10, go_sem, y0, y1, y2, y3, y4, y5, y6, y7]) rfl (SteppedOut.mk (OZ.out.less (by omega)) BZ.out trivial trivial trivial)

end Go.Proofs.YtigcbegeaikfcaaGreatDoor

namespace Go.Proofs.YtigcbegeaikfcaaGreatDoor
open Go.RowKit
set_option linter.unusedVariables false

set_option maxHeartbeats 2000000 in
theorem eqStep_same (B : Nat) (x y g t : Int) (b : Bool) (v1 v2 v3 u1 u2 u3 : Value) (zs : List Int) (bs : List Bx) (rs : List Int) (w : World) (hB : B ≤ w.heap.size)
    (s1 : SeeI w B v1 zs) (s2 : SeeBx w B v2 bs) (s3 : SeeI w B v3 rs) (t1 : SeeI w B u1 zs) (t2 : SeeBx w B u2 bs) (t3 : SeeI w B u3 rs) :
    Calls Tryz.prog 32 #[stepVal x v1 v2 v3 y b g t, stepVal x u1 u2 u3 y b g t] w fun e w' => e = .returned (.bool true) ∧ Below w.heap.size w w' := by
  obtain ⟨A1, c1, rfl⟩ := s1.shape
  obtain ⟨A2, c2, rfl⟩ := s2.shape
  obtain ⟨A3, c3, rfl⟩ := s3.shape
  obtain ⟨A4, c4, rfl⟩ := t1.shape
  obtain ⟨A5, c5, rfl⟩ := t2.shape
  obtain ⟨A6, c6, rfl⟩ := t3.shape
  have H0 : Hid (∃ W, W = (w.alloc (.cells #[.int .i64 x, .slice A1 zs.length c1, .slice A2 bs.length c2, .slice A3 rs.length c3, .int .i64 y, .bool b, .int .i64 g, .int .i64 t] 33)).alloc (.cells #[.int .i64 x, .slice A4 zs.length c4, .slice A5 bs.length c5, .slice A6 rs.length c6, .int .i64 y, .bool b, .int .i64 g, .int .i64 t] 33) ∧
      W.heap[w.heap.size]? = some (.cells #[.int .i64 x, .slice A1 zs.length c1, .slice A2 bs.length c2, .slice A3 rs.length c3, .int .i64 y, .bool b, .int .i64 g, .int .i64 t] 33 (0, 0)) ∧
      W.heap[w.heap.size + 1]? = some (.cells #[.int .i64 x, .slice A4 zs.length c4, .slice A5 bs.length c5, .slice A6 rs.length c6, .int .i64 y, .bool b, .int .i64 g, .int .i64 t] 33 (0, 0)) ∧ Below w.heap.size w W) :=
    Lib.hid ⟨_, rfl, alloc_old (heap_alloc_new _ _) _, alloc_at _ _ (by simp) rfl, ((Below.refl _ _).alloc (Nat.le_refl _) _).alloc (by simp) _⟩
  have hgg : (g != g) = false := by simp
  have htt : (t != t) = false := by simp
  have hbb : (b != b) = false := by simp
  go_enter Tryz.func32, Tryz.ntmps32
  go_wp2_with fail
  obtain ⟨W, hW, h1, h2, bW⟩ := H0.out
  rw [← hW]
  clear hW H0
  refine (eqCore_same B x y _ _ _ _ _ _ zs bs rs W (Nat.le_trans hB bW.size) (s1.below (bW.mono hB)) (s2.below (bW.mono hB)) (s3.below (bW.mono hB)) (t1.below (bW.mono hB)) (t2.below (bW.mono hB)) (t3.below (bW.mono hB))).mono ?_
  rintro e w1 ⟨rfl, b1⟩
  replace bW := below_then bW b1 (Nat.le_refl _)
  obtain ⟨p0, p1, p2, p3, p4, p5, p6, p7⟩ := cells8 (row_later h1 b1)
  obtain ⟨q0, q1, q2, q3, q4, q5, q6, q7⟩ := cells8 (row_later h2 b1)
  clear h1 h2 b1
  go_wp2_with fail
  go_ret
  exact ⟨rfl, bW⟩

set_option maxHeartbeats 2000000 in
theorem markStep_any (B : Nat) (x y gt t : Int) (b : Bool) (u1 u2 u3 : Value) (zs : List Int) (bs : List Bx) (rs : List Int) (s : Nat) (w : World) (h : OwnC w B u1 u2 u3 zs bs rs) (h1 : 1 ≤ s) (hs : s + nC zs bs rs ≤ 4194304) :
    Calls Tryz.prog 39 #[stepVal x u1 u2 u3 y b gt t, .int .i64 s] w fun r w' => r = .returned (.int .i64 ((s + nC zs bs rs : Nat) : Int)) ∧
      OwnC w' B u1 u2 u3 (marks s zs.length) (mkBs (s + zs.length) bs.length) (marks (s + zs.length + bs.length * 2) rs.length) ∧ Only (rowsC u1 u2 u3) w w' := by
  have B0 : Only (rowsC u1 u2 u3) w (w.alloc (.cells #[.int .i64 x, u1, u2, u3, .int .i64 y, .bool b, .int .i64 gt, .int .i64 t] 33)) := Only.of_below (below_new _ _)
  have h0 := h.later (below_new w (.cells #[.int .i64 x, u1, u2, u3, .int .i64 y, .bool b, .int .i64 gt, .int .i64 t] 33))
  obtain ⟨A1, c1, rfl⟩ := h.o1.see.shape
  obtain ⟨A2, c2, rfl⟩ := h.o2.see.shape
  obtain ⟨A3, c3, rfl⟩ := h.o3.see.shape
  have HC := Lib.hid (fun W q => markCore_any B x y (.slice A1 zs.length c1) (.slice A2 bs.length c2) (.slice A3 rs.length c3) zs bs rs s W q h1 hs)
  generalize nC zs bs rs = n at *
  go_enter Tryz.func39, Tryz.ntmps39
  go_wp2_with fail
  generalize w.alloc _ = W at *
  refine (HC.out _ h0).mono ?_
  rintro e w1 ⟨rfl, o1, on1⟩
  go_wp2_with fail
  go_ret
  exact ⟨rfl, o1, B0.trans on1⟩

set_option maxHeartbeats 2000000 in
theorem heldStep_any (B : Nat) (x y gt t : Int) (b : Bool) (u1 u2 u3 : Value) (n1 n2 n3 s : Nat) (w : World) (s1 : SeeI w B u1 (marks s n1)) (s2 : SeeBx w B u2 (mkBs (s + n1) n2)) (s3 : SeeI w B u3 (marks (s + n1 + n2 * 2) n3)) (hB : B ≤ w.heap.size) (h1 : 1 ≤ s) (hs : s + n1 + n2 * 2 + n3 ≤ 4194304) :
    Calls Tryz.prog 40 #[stepVal x u1 u2 u3 y b gt t, .int .i64 s] w fun r w' => r = .returned (.int .i64 ((s + n1 + n2 * 2 + n3 : Nat) : Int)) ∧ Below w.heap.size w w' := by
  have bA := below_new w (.cells #[.int .i64 x, u1, u2, u3, .int .i64 y, .bool b, .int .i64 gt, .int .i64 t] 33)
  have k1 := s1.below (bA.mono hB)
  have k2 := s2.below (bA.mono hB)
  have k3 := s3.below (bA.mono hB)
  obtain ⟨A1, c1, e1⟩ := s1.shape
  obtain ⟨A2, c2, e2⟩ := s2.shape
  obtain ⟨A3, c3, e3⟩ := s3.shape
  rw [marks_length] at e1 e3
  rw [mkBs_length] at e2
  subst e1 e2 e3
  have HC := Lib.hid (fun W q1 q2 q3 q4 => heldCore_any B x y (.slice A1 n1 c1) (.slice A2 n2 c2) (.slice A3 n3 c3) n1 n2 n3 s W q1 q2 q3 q4 h1 hs)
  have hge : ¬ (((s + n1 + n2 * 2 + n3 : Nat) : Int)) < 0 := by omega
  generalize s + n1 + n2 * 2 + n3 = tot at *
  clear s1 s2 s3
  go_enter Tryz.func40, Tryz.ntmps40
  go_wp2_with fail
  generalize w.alloc _ = W at *
  refine (HC.out _ k1 k2 k3 (Nat.le_trans hB bA.size)).mono ?_
  rintro e w1 ⟨rfl, b1⟩
  go_wp2_with fail
  go_ret
  exact ⟨rfl, below_then bA b1 (Nat.le_refl _)⟩

end Go.Proofs.YtigcbegeaikfcaaGreatDoor
