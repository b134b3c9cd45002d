/- Layer 9 (the player): the model's l9Do at every right op for which enough lies there. No conditions but those typed. -/
import Derived.Test.YtpmdfogncoapjaaGreatDoorCoreS
import Derived.Test.YtpmdfogncoapjaaGreatDoorCoreT
import Derived.Test.YtpmdfogncoapjaaGreatDoorCoreU
import Derived.Test.YtpmdfogncoapjaaGreatDoorCoreW
namespace Go.Proofs.YtpmdfogncoapjaaGreatDoor
open Go.RowKit
set_option linter.unusedVariables false

/-- What a right core is like. -/
structure RightC (x : Int) (zs : List Int) (bs : List Bx) (rs : List Int) (y : Int) : Prop where
  x0 : 0 ≤ x
  x1 : x ≤ 300
  zl : zs.length ≤ 60
  zw : zs.all wordB = true
  b12 : bs.length ≤ 12
  bb : boxesB bs = true
  r4 : rs.length = 4
  rr : ∀ r ∈ rs, 0 ≤ r ∧ r ≤ 100000
  y0 : 0 ≤ y
  y4 : y ≤ 4
theorem coreB_right {x : Int} {zs : List Int} {bs : List Bx} {rs : List Int} {y : Int} (h : coreB x zs bs rs y = true) : RightC x zs bs rs y := by
  unfold coreB pileB readsB at h
  simp only [Bool.and_eq_true, decide_eq_true_eq] at h
  obtain ⟨⟨⟨⟨h1, h2, h3⟩, h4⟩, h5, h6⟩, h7⟩ := h
  have i1 : 0 ≤ x ∧ x ≤ 300 := by simpa [inB] using h1
  have i7 : 0 ≤ y ∧ y ≤ 4 := by simpa [inB] using h7
  have b12 : bs.length ≤ 12 := by
    have := h4
    unfold boxesB at this
    simp only [Bool.and_eq_true, decide_eq_true_eq] at this
    exact this.2
  exact ⟨i1.1, i1.2, h2, h3, b12, h4, h5, fun r hr => by
    have := List.all_eq_true.1 h6 r hr
    unfold readB inB at this
    simpa using this, i7.1, i7.2⟩

theorem opB_kind {o : Opv} (h : opB o = true) : 1 ≤ o.1 ∧ o.1 ≤ 10 := by
  by_cases h1 : o.1 < 1 ∨ 10 < o.1
  · rw [opB_out h1] at h; cases h
  · omega
theorem opB_gate {o : Opv} (h : opB o = true) (hg : o.1 = 5 ∨ o.1 = 6) : 0 ≤ o.2.1 ∧ o.2.1 ≤ 3 := by
  obtain ⟨a, n, s⟩ := o
  dsimp only at hg ⊢
  unfold opB at h
  dsimp only at h
  rcases hg with rfl | rfl
  · simp only [show ¬ (5 : Int) = 1 by omega, show ¬ ((5 : Int) = 2 ∨ (5 : Int) = 4) by omega, show ¬ (5 : Int) = 3 by omega, if_false, if_true, Bool.and_eq_true] at h
    simpa [inB] using h.2
  · simp only [show ¬ (6 : Int) = 1 by omega, show ¬ ((6 : Int) = 2 ∨ (6 : Int) = 4) by omega, show ¬ (6 : Int) = 3 by omega, show ¬ (6 : Int) = 5 by omega, if_false, if_true, Bool.and_eq_true] at h
    simpa [inB] using h.1

theorem l9Do_any (B : Nat) (x : Int) (o : Opv) (g1 g2 g3 c1 c2 c3 : Nat) (zs : List Int) (bs : List Bx) (rs : List Int) (y : Int) (v : Value) (ss : List (List Int)) (w : World)
    (h : OwnC w B (.slice (some ⟨g1, 0, none⟩) zs.length c1) (.slice (some ⟨g2, 0, none⟩) bs.length c2) (.slice (some ⟨g3, 0, none⟩) rs.length c3) zs bs rs) (hB : B ≤ w.heap.size) (sv : SeeSS w B v ss)
    (hR : RightC x zs bs rs y) (ho : opB o = true) (hb : badS ⟨x, zs, bs, rs, y⟩ o ss = false) :
    Calls Tryz.prog 107 #[.agg #[.int .i64 x, .slice (some ⟨g1, 0, none⟩) zs.length c1, .slice (some ⟨g2, 0, none⟩) bs.length c2, .slice (some ⟨g3, 0, none⟩) rs.length c3, .int .i64 y], .agg #[.int .i64 o.1, .int .i64 o.2.1, str o.2.2], v] w
      (StepOut B (doS ⟨x, zs, bs, rs, y⟩ o ss) w) := by
  have hk := opB_kind ho
  have hgt := opB_gate ho
  obtain ⟨a, m, s⟩ := o
  dsimp only at hk hgt ⊢
  unfold badS at hb
  simp only [Bool.or_eq_false_iff, Bool.and_eq_false_iff, decide_eq_false_iff_not] at hb
  obtain ⟨⟨hn, hp⟩, hg⟩ := hb
  have hx : 0 ≤ x ∧ x ≤ 300 := ⟨hR.x0, hR.x1⟩
  have hz := hR.zl
  by_cases h1 : a = 1
  · subst h1
    have e : doS ⟨x, zs, bs, rs, y⟩ (1, m, s) ss = onS ⟨x + 1, zs ++ [m], bs, rs, y⟩ := rfl
    rw [e]
    exact do1_any B x m s g1 g2 g3 c1 c2 c3 zs bs rs y v w h hB hx (by omega)
  by_cases h2 : a = 2
  · subst h2
    have e : doS ⟨x, zs, bs, rs, y⟩ (2, m, s) ss = onS ⟨x + 1, zs ++ [valueS bs s], bs, rs, y⟩ := rfl
    rw [e]
    exact do2_any B x m s g1 g2 g3 c1 c2 c3 zs bs rs y v w h hB hx (by omega)
  by_cases h3 : a = 3
  · subst h3
    have e : doS ⟨x, zs, bs, rs, y⟩ (3, m, s) ss = (if (didS m (topS zs 2) (topS zs 1)).2 = true then onS ⟨x + 1, cutS zs 2 ++ [(didS m (topS zs 2) (topS zs 1)).1], bs, rs, y⟩ else endS ⟨x, zs, bs, rs, y⟩ 3) := rfl
    rw [e]
    have hn3 : ¬ zs.length < 2 := hn
    exact do3_any B x m s g1 g2 g3 c1 c2 c3 zs bs rs y v w h hB hx (by omega) hz
  by_cases h4 : a = 4
  · subst h4
    have e : doS ⟨x, zs, bs, rs, y⟩ (4, m, s) ss = (if (setS bs s (topS zs 1)).2 = true then onS ⟨x + 1, cutS zs 1, (setS bs s (topS zs 1)).1, rs, y⟩ else endS ⟨x, zs, bs, rs, y⟩ 4) := rfl
    rw [e]
    have hn3 : ¬ zs.length < 1 := hn
    exact do4_any B x m s g1 g2 g3 c1 c2 c3 zs bs rs y v w h hB hx (by omega) hz hR.b12
  by_cases h5 : a = 5
  · subst h5
    obtain ⟨q0, q3⟩ := hgt (.inl rfl)
    have hms : ¬ (ss.length : Int) ≤ m := by rcases hg with q | q; exact absurd (.inl rfl) q; exact q
    have e : doS ⟨x, zs, bs, rs, y⟩ (5, m, s) ss = (if rs.getD m.toNat 0 = 100000 then endS ⟨x, zs, bs, rs, y⟩ 4
        else if (setS bs s (itemS ss m (rs.getD m.toNat 0))).2 = true then onS ⟨x + 1, zs, (setS bs s (itemS ss m (rs.getD m.toNat 0))).1, rs.set m.toNat (rs.getD m.toNat 0 + 1), y⟩ else endS ⟨x, zs, bs, rs, y⟩ 4) := rfl
    rw [e]
    exact do5_any B x m s g1 g2 g3 c1 c2 c3 zs bs rs y v w h hB hx ss sv q0 (by rw [hR.r4]; omega) hR.r4 (by omega) hR.rr hR.b12 hz
  by_cases h6 : a = 6
  · subst h6
    have e : doS ⟨x, zs, bs, rs, y⟩ (6, m, s) ss = ⟨⟨x + 1, cutS zs 1, bs, rs, y⟩, true, m, topS zs 1⟩ := rfl
    rw [e]
    have hn3 : ¬ zs.length < 1 := hn
    exact do6_any B x m s g1 g2 g3 c1 c2 c3 zs bs rs y v w h hB hx (by omega) hz
  by_cases h7 : a = 7
  · subst h7
    have e : doS ⟨x, zs, bs, rs, y⟩ (7, m, s) ss = onS ⟨m, zs, bs, rs, y⟩ := rfl
    rw [e]
    exact do7_any B x m s g1 g2 g3 c1 c2 c3 zs bs rs y v w h hB hx
  by_cases h8 : a = 8
  · subst h8
    have e : doS ⟨x, zs, bs, rs, y⟩ (8, m, s) ss = onS ⟨if topS zs 1 = 0 then m else x + 1, cutS zs 1, bs, rs, y⟩ := rfl
    rw [e]
    have hn3 : ¬ zs.length < 1 := hn
    exact do8_any B x m s g1 g2 g3 c1 c2 c3 zs bs rs y v w h hB hx (by omega) hz
  by_cases h9 : a = 9
  · subst h9
    have e : doS ⟨x, zs, bs, rs, y⟩ (9, m, s) ss = endS ⟨x, zs, bs, rs, y⟩ 2 := rfl
    rw [e]
    exact do9_any B x m s g1 g2 g3 c1 c2 c3 zs bs rs y v w h hB hx
  · obtain rfl : a = 10 := by omega
    have e : doS ⟨x, zs, bs, rs, y⟩ (10, m, s) ss = endS ⟨x, zs, bs, rs, y⟩ 1 := rfl
    rw [e]
    exact do10_any B x m s g1 g2 g3 c1 c2 c3 zs bs rs y v w h hB hx

end Go.Proofs.YtpmdfogncoapjaaGreatDoor
