/- Layer 7 (plays): how deep a deed in a list of signs can lie, by how many [ stand open; the place behind a deed, of the program and of the model. Condition: the listed variables hold what the program's text lays (Vars). -/
import Derived.Test.YtbpgleebfiiggaaGreatDoorPlaX
namespace Go.Proofs.YtbpgleebfiiggaaGreatDoor
open Go.RowKit
set_option linter.unusedVariables false

theorem op_noBr {s : Txt} (h : ¬ opN s = 0) : noBr s := by
  constructor
  · intro e; subst e; exact h (by decide)
  · intro e; subst e; exact h (by decide)
theorem leaf_noBr {s : Txt} (h : leafB s = true) : noBr s := by
  constructor
  · intro e; subst e; exact absurd h (by decide)
  · intro e; subst e; exact absurd h (by decide)
theorem sum_noBrs : ∀ t : Sum, t.ok → noBrs t.flat
  | .leaf s, h => noBrs_one (leaf_noBr h.2)
  | .op s a b, h => by
    have h1 := noBrs_app (sum_noBrs a h.2.1) (sum_noBrs b h.2.2)
    have h0 := noBrs_one (op_noBr h.1)
    exact noBrs_app (xs := [s]) h0 h1
/-- What stands open between two places. -/
def Wb (ss : List Txt) (k e : Nat) : Int := lvl ((ss.drop k).take (e - k))
theorem wb_self (ss : List Txt) (k : Nat) : Wb ss k k = 0 := by unfold Wb; rw [Nat.sub_self]; rfl
theorem wb_add {ss : List Txt} {k m e : Nat} (h1 : k ≤ m) (h2 : m ≤ e) : Wb ss k e = Wb ss k m + Wb ss m e := by
  unfold Wb
  rw [← lvl_app]
  congr 1
  have : e - k = (m - k) + (e - m) := by omega
  rw [this, List.take_add, List.drop_drop, show k + (m - k) = m by omega]
theorem wb_one {ss : List Txt} {k : Nat} (h : k < ss.length) : Wb ss k (k + 1) = if sg7 ss k = wOpen then 1 else if sg7 ss k = wShut then -1 else 0 := by
  unfold Wb
  rw [List.drop_eq_getElem_cons h, show k + 1 - k = 1 by omega, sg7_some (List.getElem?_eq_getElem h)]
  show (_ : Int) + lvl [] = _
  have : lvl ([] : List Txt) = 0 := rfl
  rw [this, Int.add_zero]
theorem wb_sum {ss : List Txt} {k k1 : Nat} (h : nnE (sumEndS ss (k : Int)) = some k1) : Wb ss k k1 = 0 := by
  have e := nnE_some h
  obtain ⟨j, t, hj, ht⟩ := sum_of_end (ss := ss) (a := (k : Int)) (by omega)
  have hk : j = k := by omega
  subst hk
  have e2 := sum_end ht
  obtain ⟨h1, rest, h2⟩ := ht
  unfold Wb
  rw [h2, show k1 - j = t.flat.length by omega, List.take_left]
  exact lvl_no (sum_noBrs t h1)
theorem wb_plain {ss : List Txt} {k : Nat} (h : k < ss.length) (h1 : ¬ sg7 ss k = wOpen) (h2 : ¬ sg7 ss k = wShut) : Wb ss k (k + 1) = 0 := by
  rw [wb_one h, if_neg h1, if_neg h2]
theorem name_noBr {s : Txt} (h : nameB s = true) : ¬ s = wOpen ∧ ¬ s = wShut := leaf_noBr (by unfold leafB; rw [h, Bool.or_true])
theorem gate_noBr {s : Txt} (h : (gateN s).isSome = true) : ¬ s = wOpen ∧ ¬ s = wShut := by
  constructor
  · intro e; subst e; exact absurd h (by decide)
  · intro e; subst e; exact absurd h (by decide)
theorem wb_flat {ss : List Txt} {k k1 : Nat} (h : flatE ss k = some k1) : Wb ss k k1 = 0 := by
  have hin := flat_in h
  unfold flatE at h
  by_cases h1 : sg7 ss k = wSet
  · rw [if_pos h1] at h
    split at h
    next hn =>
      have he := end_in h
      have hm := name_noBr hn
      rw [wb_add (m := k + 1) (by omega) (by omega), wb_add (k := k + 1) (m := k + 2) (by omega) (by omega), wb_sum h, wb_plain (by omega) (by rw [h1]; decide) (by rw [h1]; decide), wb_plain (by omega) hm.1 hm.2]
      rfl
    next => cases h
  rw [if_neg h1] at h
  by_cases h2 : sg7 ss k = wIn
  · rw [if_pos h2] at h
    split at h
    next hn =>
      injection h with h
      subst h
      have hm := name_noBr hn.1
      have hg := gate_noBr hn.2
      rw [wb_add (m := k + 1) (by omega) (by omega), wb_add (k := k + 1) (m := k + 2) (by omega) (by omega), wb_plain (by omega) (by rw [h2]; decide) (by rw [h2]; decide), wb_plain (by omega) hm.1 hm.2, wb_plain (k := k + 2) (by omega) hg.1 hg.2]
      rfl
    next => cases h
  rw [if_neg h2] at h
  by_cases h3 : sg7 ss k = wOut
  · rw [if_pos h3] at h
    split at h
    next hn =>
      have he := end_in h
      have hg := gate_noBr hn
      rw [wb_add (m := k + 1) (by omega) (by omega), wb_add (k := k + 1) (m := k + 2) (by omega) (by omega), wb_sum h, wb_plain (by omega) (by rw [h3]; decide) (by rw [h3]; decide), wb_plain (by omega) hg.1 hg.2]
      rfl
    next => cases h
  rw [if_neg h3] at h
  by_cases h4 : sg7 ss k = wStop
  · rw [if_pos h4] at h
    injection h with h
    subst h
    rw [wb_plain (by omega) (by rw [h4]; decide) (by rw [h4]; decide)]
  · rw [if_neg h4] at h
    cases h
theorem wb_ask {ss : List Txt} {k k1 : Nat} (h : askE ss k = some k1) (hs : sg7 ss k = wWhile ∨ sg7 ss k = wIf) : Wb ss k k1 = 0 ∧ k + 1 < k1 ∧ k1 ≤ ss.length := by
  have he := end_in h
  refine ⟨?_, he.1, he.2⟩
  rw [wb_add (m := k + 1) (by omega) (by omega), wb_sum h, wb_plain (by omega) (by rcases hs with e | e <;> rw [e] <;> decide) (by rcases hs with e | e <;> rw [e] <;> decide)]
  rfl
theorem sg_lt {ss : List Txt} {k : Nat} {x : Txt} (h : sg7 ss k = x) (hx : x ≠ []) : k < ss.length := sg7_in (by rw [h]; exact hx)
theorem wb_open {ss : List Txt} {k : Nat} (h : sg7 ss k = wOpen) : Wb ss k (k + 1) = 1 := by rw [wb_one (sg_lt h (by decide)), if_pos h]
theorem wb_shut {ss : List Txt} {k : Nat} (h : sg7 ss k = wShut) : Wb ss k (k + 1) = -1 := by rw [wb_one (sg_lt h (by decide)), if_neg (by rw [h]; decide), if_pos h]
/-- Deeds end at the depth they begin with, and somewhere between as many [ are open as they are deep. -/
theorem wb_deeds {ss : List Txt} {k e D : Nat} (h : Deeds ss k e D) : Wb ss k e = 0 ∧ ∃ j, k ≤ j ∧ j ≤ e ∧ (D : Int) ≤ Wb ss k j := by
  induction h with
  | nil k => exact ⟨wb_self _ _, k, Nat.le_refl _, Nat.le_refl _, by rw [wb_self]; exact Int.le_refl _⟩
  | flat hf r ih =>
    obtain ⟨i1, j, i2, i3, i4⟩ := ih
    have q := flat_in hf
    have q2 := r.le
    refine ⟨by rw [wb_add (Nat.le_of_lt q.1) q2.1, wb_flat hf, i1]; rfl, j, by omega, i3, ?_⟩
    rw [wb_add (Nat.le_of_lt q.1) i2, wb_flat hf, Int.zero_add]
    exact i4
  | @loop k k1 m e D1 D2 a b c d f r ih1 ih2 =>
    obtain ⟨p1, p, p2, p3, p4⟩ := ih1
    obtain ⟨i1, j, i2, i3, i4⟩ := ih2
    obtain ⟨q0, q1, q2⟩ := wb_ask b (.inl a)
    have l1 := d.le
    have l2 := r.le
    have w1 := wb_open c
    have w2 := wb_shut f
    have x1 := wb_add (ss := ss) (k := k) (m := k1) (e := k1 + 1) (by omega) (by omega)
    have x2 := wb_add (ss := ss) (k := k) (m := k1 + 1) (e := m) (by omega) (by omega)
    have x3 := wb_add (ss := ss) (k := k) (m := m) (e := m + 1) (by omega) (by omega)
    have x4 := wb_add (ss := ss) (k := k) (m := m + 1) (e := e) (by omega) (by omega)
    have x5 := wb_add (ss := ss) (k := k) (m := k1 + 1) (e := p) (by omega) (by omega)
    have x6 := wb_add (ss := ss) (k := k) (m := m + 1) (e := j) (by omega) (by omega)
    refine ⟨by omega, ?_⟩
    rcases Nat.le_total (D1 + 1) D2 with hm | hm
    · exact ⟨j, by omega, i3, by rw [Nat.max_eq_right hm]; omega⟩
    · exact ⟨p, by omega, by omega, by rw [Nat.max_eq_left hm]; omega⟩
  | @fork k k1 m m2 e D1 D2 D3 a b c d f f2 d2 f3 r ih1 ih2 ih3 =>
    obtain ⟨p1, p, p2, p3, p4⟩ := ih1
    obtain ⟨o1, o, o2, o3, o4⟩ := ih2
    obtain ⟨i1, j, i2, i3, i4⟩ := ih3
    obtain ⟨q0, q1, q2⟩ := wb_ask b (.inr a)
    have l1 := d.le
    have l2 := r.le
    have l3 := d2.le
    have w1 := wb_open c
    have w2 := wb_shut f
    have w3 := wb_open f2
    have w4 := wb_shut f3
    have x1 := wb_add (ss := ss) (k := k) (m := k1) (e := k1 + 1) (by omega) (by omega)
    have x2 := wb_add (ss := ss) (k := k) (m := k1 + 1) (e := m) (by omega) (by omega)
    have x3 := wb_add (ss := ss) (k := k) (m := m) (e := m + 1) (by omega) (by omega)
    have y3 := wb_add (ss := ss) (k := k) (m := m + 1) (e := m + 1 + 1) (by omega) (by omega)
    have y4 := wb_add (ss := ss) (k := k) (m := m + 2) (e := m2) (by omega) (by omega)
    have y5 := wb_add (ss := ss) (k := k) (m := m2) (e := m2 + 1) (by omega) (by omega)
    have x4 := wb_add (ss := ss) (k := k) (m := m2 + 1) (e := e) (by omega) (by omega)
    have x5 := wb_add (ss := ss) (k := k) (m := k1 + 1) (e := p) (by omega) (by omega)
    have y6 := wb_add (ss := ss) (k := k) (m := m + 2) (e := o) (by omega) (by omega)
    have x6 := wb_add (ss := ss) (k := k) (m := m2 + 1) (e := j) (by omega) (by omega)
    rw [show m + 1 + 1 = m + 2 by omega] at y3 w3
    refine ⟨by omega, ?_⟩
    rcases Nat.le_total (max D1 D2 + 1) D3 with hm | hm
    · exact ⟨j, by omega, i3, by rw [Nat.max_eq_right hm]; omega⟩
    · rw [Nat.max_eq_left hm]
      rcases Nat.le_total D1 D2 with hd | hd
      · exact ⟨o, by omega, by omega, by rw [Nat.max_eq_right hd]; omega⟩
      · exact ⟨p, by omega, by omega, by rw [Nat.max_eq_left hd]; omega⟩
theorem deed_hi {ss : List Txt} {k e D : Nat} (h : One ss k e D) (hh : Hi 4 ss) : D ≤ 4 := by
  obtain ⟨_, j, h1, h2, h3⟩ := wb_deeds h.deeds
  have := hh (ss.take k) ((ss.drop k).take (j - k)) ((ss.drop k).drop (j - k)) (by rw [List.take_append_drop, List.take_append_drop])
  unfold Wb at h3
  omega

/-- The place behind the deed that begins there; -1 when none does. -/
def EndQ (ss : List Txt) (a z : Int) : Prop := (∃ k e D, a = ((k : Nat) : Int) ∧ One ss k e D ∧ z = ((e : Nat) : Int)) ∨ (z = -1 ∧ ∀ k e D, a = ((k : Nat) : Int) → ¬ One ss k e D)
theorem EndQ.det {ss : List Txt} {a z z' : Int} (h : EndQ ss a z) (h' : EndQ ss a z') : z = z' := by
  rcases h with ⟨k, e, D, h1, h2, h3⟩ | ⟨h1, h2⟩
  · rcases h' with ⟨k', e', D', g1, g2, g3⟩ | ⟨g1, g2⟩
    · obtain rfl : k = k' := by omega
      have := (One.det h2 g2).1
      omega
    · exact absurd h2 (g2 k e D h1)
  · rcases h' with ⟨k', e', D', g1, g2, g3⟩ | ⟨g1, g2⟩
    · exact absurd g2 (h2 k' e' D' g1)
    · omega

set_option maxHeartbeats 2000000 in
theorem l7Deed_neg (B : Nat) (v : Value) (ss : List Txt) (d : Int) (w : World) (h : SeeV w B v (ss.map str)) (hn : ss.length ≤ 1048576) : Calls Tryz.prog 55 #[v, .int .i64 (-1), .int .i64 d] w fun e w' => e = .returned (.int .i64 (-1)) ∧ w = w' := by
  obtain ⟨A, c, e⟩ := strs_shape h
  subst e
  have HK : Hid (sgI7 ss (-1) = []) := Lib.hid (sgI7_neg (by omega))
  go_enter Tryz.func55, Tryz.ntmps55
  go_wp2_with fail
  refine (l7Sign_any B _ ss _ _ h hn).mono ?_
  rintro e w' ⟨rfl, rfl⟩
  rw [HK.out]
  go_wp2_with fail
  go_ret
  exact ⟨rfl, rfl⟩

set_option maxHeartbeats 2000000 in
theorem sDeedEnd_any (B : Nat) (v : Value) (ss : List Txt) (a : Int) (w : World) (h : SeeV w B v (ss.map str)) (hB : B ≤ w.heap.size) (hS : shortS ss) (hn : ss.length ≤ 1048576) (hh : Hi 4 ss) (ha : -1 ≤ a) (ha2 : a ≤ ss.length) :
    Calls Tryz.prog 22 #[v, .int .i64 a] w fun e w' => ∃ z, e = .returned (.int .i64 z) ∧ EndQ ss a z ∧ Below w.heap.size w w' := by
  rcases (show a = -1 ∨ 0 ≤ a by omega) with rfl | h0
  · obtain ⟨A, c, e⟩ := strs_shape h
    subst e
    go_enter Tryz.func22, Tryz.ntmps22
    go_wp2_with fail
    refine (l7Deed_neg B _ ss _ _ h hn).mono ?_
    rintro e w' ⟨rfl, rfl⟩
    go_wp2_with fail
    go_ret
    exact ⟨-1, rfl, .inr ⟨rfl, fun k e D q => by omega⟩, Below.refl _ _⟩
  · obtain ⟨k, rfl⟩ : ∃ k : Nat, a = k := ⟨a.toNat, by omega⟩
    have HC := Lib.hid (deed_all 5 (by omega) B v ss k w h hB hS hn (by omega))
    obtain ⟨A, c, e⟩ := strs_shape h
    subst e
    have H4 := Lib.hid (fun e D (q : One ss k e D) => deed_hi q hh)
    clear h hS hh ha ha2 h0
    go_enter Tryz.func22, Tryz.ntmps22
    go_wp2_with fail
    refine HC.out.mono ?_
    rintro e w1 ⟨r, rfl, hr, b1⟩
    obtain ⟨z, hz⟩ : ∃ z, endI r = z := ⟨_, rfl⟩
    have HQ : Hid (EndQ ss (k : Int) z) := Lib.hid (by
      subst hz
      cases r with
      | some x =>
        obtain ⟨D, hD, _⟩ := hr
        exact .inl ⟨k, x, D, rfl, hD, rfl⟩
      | none =>
        refine .inr ⟨rfl, fun k' e D q ho => ?_⟩
        obtain rfl : k = k' := by omega
        have h1 := hr e D ho
        have h2 := H4.out e D ho
        omega)
    rw [hz]
    clear hr hz
    go_wp2_with fail
    go_ret
    exact ⟨z, rfl, HQ.out, b1⟩

set_option maxHeartbeats 4000000 in
theorem iDeedEnd_any (B : Nat) (v : Value) (ss : List Txt) (a : Int) (w : World) (V : Vars w) (h : SeeV w B v (ss.map str)) (hB : B ≤ w.heap.size) (hS : shortS ss) (hn : ss.length ≤ 1048576) (ha : -1 ≤ a) (ha2 : a ≤ ss.length) :
    Calls Tryz.prog 21 #[v, .int .i64 a] w fun e w' => ∃ z, e = .returned (.int .i64 z) ∧ EndQ ss a z ∧ Below w.heap.size w w' := by
  have HV : Hid (∀ w', Below w.heap.size w w' → Vars w') := Lib.hid (fun w' b => V.below b)
  clear V
  obtain ⟨A, c, e⟩ := strs_shape h
  subst e
  have b0 : Below w.heap.size w (w.alloc (.cells #[.slice A ss.length c, .int .i64 a, .slice none 0 0, .slice none 0 0, .slice none 0 0, .int .i64 0] 62)) := (Below.refl _ _).alloc (Nat.le_refl _) _
  rcases (show a = -1 ∨ 0 ≤ a by omega) with rfl | h0
  · go_enter Tryz.func21, Tryz.ntmps21
    go_wp2_with fail
    go_ret
    exact ⟨-1, rfl, .inr ⟨rfl, fun k e D q => by omega⟩, b0⟩
  · obtain ⟨k, rfl⟩ : ∃ k : Nat, a = k := ⟨a.toNat, by omega⟩
    have R0 : Rd B w.heap.size (.slice A ss.length c) ss (w.alloc (.cells #[.slice A ss.length c, .int .i64 (k : Int), .slice none 0 0, .slice none 0 0, .slice none 0 0, .int .i64 0] 62)) (k : Int) (.slice none 0 0) (.slice none 0 0) (.slice none 0 0) [] [] [] 0 :=
      ⟨heap_alloc_new _ _, hB, h.below (b0.mono hB), OwnV.nil _ _ _, OwnI.nil _ _ _, OwnV.nil _ _ _⟩
    have HT := Lib.hid (takesDeed_any B _ _ ss _ k _ _ _ [] [] 0 (fun w' b => HV.out w' (b0.trans b)) R0 hn hS (by omega) (by simp) (by simp))
    clear h hS R0
    have hk0 : ¬ ((k : Int) < 0) := by omega
    go_enter Tryz.func21, Tryz.ntmps21
    go_wp2_with fail
    refine HT.out.mono ?_
    rintro e w1 (⟨rfl, b1, hno⟩ | ⟨rfl, b1, e1, D1, a1, g1, vn1, vg1, vo1, hO, -, R1⟩)
    · have HN := Lib.hid hno
      clear hno
      have bb := Lib.hid (b0.trans b1)
      clear b0 b1
      go_wp2_with fail
      go_ret
      exact ⟨-1, rfl, .inr ⟨rfl, fun k' e D q => by obtain rfl : k = k' := by omega
                                                    exact HN.out e D⟩, bb.out⟩
    · have HO := Lib.hid hO
      have c1 := R1.c1
      clear hO R1
      have bb := Lib.hid (b0.trans b1)
      clear b0 b1
      go_wp2_with fail
      go_ret
      exact ⟨_, rfl, .inl ⟨k, e1, D1, rfl, HO.out, rfl⟩, bb.out⟩

end Go.Proofs.YtbpgleebfiiggaaGreatDoor
