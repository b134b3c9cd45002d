/- Layer 7 (plays): the model's l7All. No conditions but those typed. -/
import Derived.Test.YtjcmfdgphhonhaaGreatDoorDeedS
import Derived.Test.YtjcmfdgphhonhaaGreatDoorNamS
namespace Go.Proofs.YtjcmfdgphhonhaaGreatDoor
open Go.RowKit
set_option linter.unusedVariables false

theorem Tryz.info7 : (Tryz.prog.info? 2).map (fun i => (i.zero, i.size, i.bytes)) = some (some (.int .i64 0), 1, 8) := by kernel_rfl

theorem putAll_snoc (a : List Txt) (x : Txt) : putAll (a ++ [x]) = putS (putAll a) x := by
  unfold putAll
  rw [List.foldl_append]
  rfl
theorem putAll_len' (a : List Txt) : (putAll a).length ≤ a.length := by
  have := putAll_len a []
  simpa [putAll] using this
theorem names_len {ss : List Txt} {k k1 : Nat} (h : nnE (sumEndS ss (k : Int)) = some k1) : (namesS ss (k : Int)).length + k ≤ k1 := by
  have e := nnE_some h
  obtain ⟨j, t, hj, ht⟩ := sum_of_end (ss := ss) (a := (k : Int)) (by omega)
  have hk : j = k := by omega
  subst hk
  have e2 := sum_end ht
  rw [names_tree ht]
  have h1 := putAll_len' (t.flat.filter nameB)
  have h2 := List.length_filter_le nameB t.flat
  omega
theorem note_alen {ss : List Txt} {k e : Nat} {a : List Txt} {g : List Nat} (h : Note ss k e a g) : a.length + k ≤ e := by
  cases h with
  | set _ _ _ h => have := names_len h; rw [List.length_cons]; omega
  | in_ => simp; omega
  | out _ _ h => have := names_len h; omega
  | ask _ h => have := names_len (ss := ss) h; omega
  | other => simp
theorem lin_alen {ss : List Txt} {k e : Nat} {a : List Txt} {g : List Nat} (h : Lin ss k e a g) : a.length + k ≤ e := by
  induction h with
  | nil => simp
  | cons n _ ih =>
    have hn := note_alen n
    rw [List.length_append]
    omega

/-- Four Booleans: which gates are noted. -/
def boolsOf (g : List Nat) : Array Value := #[.bool (decide (0 ∈ g)), .bool (decide (1 ∈ g)), .bool (decide (2 ∈ g)), .bool (decide (3 ∈ g))]
theorem bools_nil : boolsOf [] = #[.bool false, .bool false, .bool false, .bool false] := by simp [boolsOf]
theorem bools_set {g : List Nat} {j : Nat} (h : j < 4) : (boolsOf g).setIfInBounds j (.bool true) = boolsOf (g ++ [j]) := by
  match j, h with
  | 0, _ => simp [boolsOf]
  | 1, _ => simp [boolsOf]
  | 2, _ => simp [boolsOf]
  | 3, _ => simp [boolsOf]
theorem bools_at {g : List Nat} {j : Nat} (h : j < 4) : (boolsOf g)[j]? = some (.bool (decide (j ∈ g))) := by
  match j, h with
  | 0, _ => simp [boolsOf]
  | 1, _ => simp [boolsOf]
  | 2, _ => simp [boolsOf]
  | 3, _ => simp [boolsOf]
theorem riseG_sel (g : List Nat) : riseG g = sel (fun j => decide (j.toNat ∈ g)) 4 := by
  have hr : List.range 4 = [0, 1, 2, 3] := rfl
  unfold riseG
  rw [hr]
  simp only [sel, List.filter]
  by_cases h0 : 0 ∈ g <;> by_cases h1 : 1 ∈ g <;> by_cases h2 : 2 ∈ g <;> by_cases h3 : 3 ∈ g <;> simp [h0, h1, h2, h3]
/-- A row stays where a cell of a block of another type is set. -/
theorem OwnV.other {w : World} {B j k : Nat} {e e2 : TypeId} {v u : Value} {xs : List Value} {cur : Array Value} {z : Nat × Nat} (h : OwnV w B e v xs) (hj : w.heap[j]? = some (.cells cur e2 z)) (hne : e ≠ e2) : OwnV (w.setCell ⟨j, k, none⟩ u) B e v xs := by
  obtain ⟨hl, h⟩ := h
  rcases h with h | ⟨g, cap, cur2, h1, h2, h3, h4⟩
  · exact ⟨hl, .inl h⟩
  · refine ⟨hl, .inr ⟨g, cap, cur2, h1, h2, ?_, h4⟩⟩
    have hg : g ≠ j := fun q => by
      subst q
      rw [h3] at hj
      injection hj with hj
      injection hj with _ hj
      exact hne hj
    exact (Below.heap_setCell w ⟨j, k, none⟩ u g hg).trans h3

/-- What l7All keeps from round to round. -/
structure AllIn (w wr : World) (xs a : List Txt) (g : List Nat) (v : Value) : Prop where
  row : OwnV wr w.heap.size 9 v (xs.map str)
  names : xs = putAll a
  bools : wr.heap[w.heap.size + 1]? = some (.cells (boolsOf g) 4 (0, 0))
  old : Below w.heap.size w wr
theorem AllIn.lt {w wr : World} {xs a : List Txt} {g : List Nat} {v : Value} (h : AllIn w wr xs a g v) : w.heap.size + 1 < wr.heap.size := (Array.getElem?_eq_some_iff.1 h.bools).1
theorem AllIn.len {w wr : World} {xs a : List Txt} {g : List Nat} {v : Value} (h : AllIn w wr xs a g v) : xs.length ≤ a.length := by rw [h.names]; exact putAll_len' a
theorem AllIn.later {w wr w' : World} {xs a : List Txt} {g : List Nat} {v : Value} (h : AllIn w wr xs a g v) (b : Below wr.heap.size wr w') : AllIn w w' xs a g v :=
  ⟨h.row.later b, h.names, (b.block _ h.lt).trans h.bools, below_then h.old b (Nat.le_refl _)⟩
theorem AllIn.put {w wr w' : World} {xs a : List Txt} {g : List Nat} {v v' : Value} {x : Txt} (h : AllIn w wr xs a g v) (b : Below wr.heap.size wr w') (o : OwnV w' w.heap.size 9 v' ((putS xs x).map str)) : AllIn w w' (putS xs x) (a ++ [x]) g v' :=
  ⟨o, by rw [putAll_snoc, ← h.names], (b.block _ h.lt).trans h.bools, below_then h.old b (Nat.le_refl _)⟩
theorem AllIn.mark {w wr : World} {xs a : List Txt} {g : List Nat} {v : Value} {j : Nat} (h : AllIn w wr xs a g v) (hj : j < 4) : AllIn w (wr.setCell ⟨w.heap.size + 1, j, none⟩ (.bool true)) xs a (g ++ [j]) v :=
  ⟨h.row.other h.bools (by decide), h.names, by rw [heap_set h.bools, bools_set hj], h.old.setCell (by simp) _⟩
theorem AllIn.frozen {w wr : World} {xs a : List Txt} {g : List Nat} {v : Value} (h : AllIn w wr xs a g v) (j : Nat) : wr.frozen? ⟨w.heap.size + 1, j, none⟩ = false := frozen_row h.bools
theorem AllIn.cell {w wr : World} {xs a : List Txt} {g : List Nat} {v : Value} (h : AllIn w wr xs a g v) {j : Nat} (hj : j < 4) : wr.cell? ⟨w.heap.size + 1, j, none⟩ = some (.bool (decide (j ∈ g))) := by
  rw [cell_of_row _ _ j _ _ (0, 0) h.bools, bools_at hj]
theorem AllIn.cast {w wr : World} {xs a b : List Txt} {g i : List Nat} {v : Value} (h : AllIn w wr xs a g v) (e1 : a = b) (e2 : g = i) : AllIn w wr xs b i v := by rw [← e1, ← e2]; exact h
theorem own_ne {w : World} {B B2 : Nat} {e e2 : TypeId} {v u : Value} {xs : List Value} {zs : List Int} {g g2 : Nat} (h : OwnV w B e v xs) (h2 : OwnI w B2 e2 u zs) (hne : e ≠ e2) (hg : v.ownBlock = some g) (hg2 : u.ownBlock = some g2) : g ≠ g2 := by
  obtain ⟨_, h⟩ := h
  obtain ⟨_, h2⟩ := h2
  rcases h with ⟨rfl, _⟩ | ⟨g', cap, cur, rfl, _, h3, _⟩
  · cases hg
  rcases h2 with ⟨rfl, _⟩ | ⟨g2', cap2, cur2, rfl, _, h4, _⟩
  · cases hg2
  cases hg
  cases hg2
  intro q
  subst q
  rw [h3] at h4
  injection h4 with h4
  injection h4 with _ h4
  exact hne h4
theorem AllIn.grownI {w wr w' : World} {xs a : List Txt} {g : List Nat} {v u : Value} {zs : List Int} {o : Obj} (h : AllIn w wr xs a g v) (hg : (wr.alloc o).grownBy w' u.ownBlock) (hu : OwnI wr w.heap.size 2 u zs) : AllIn w w' xs a g v := by
  have hz := h.lt
  refine ⟨?_, h.names, ?_, (h.old.alloc h.old.size o).grown hg (by simp; omega) (fun j hj => (hu.lt j hj).1)⟩
  · have hr := h.row.alloc o
    obtain ⟨hl, hr⟩ := hr
    rcases hr with q | ⟨gg, cap, cur2, h1, h2, h3, h4⟩
    · exact ⟨hl, .inl q⟩
    · refine ⟨hl, .inr ⟨gg, cap, cur2, h1, h2, ?_, h4⟩⟩
      rw [hg.block gg (Array.getElem?_eq_some_iff.1 h3).1 (fun q => own_ne h.row hu (by decide) (by rw [h1]; rfl) q.symm rfl)]
      exact h3
  · rw [hg.block (w.heap.size + 1) (by simp; omega) (fun q => ?_), Below.heap_alloc _ _ _ (by omega)]
    · exact h.bools
    · obtain ⟨_, h2⟩ := hu
      rcases h2 with ⟨rfl, _⟩ | ⟨g2', cap2, cur2, rfl, _, h4, _⟩
      · cases q
      · cases q
        rw [h.bools] at h4
        injection h4 with h4
        injection h4 with _ h4
        exact absurd h4 (by decide)
def AllOut (w : World) (a : List Txt) (g : List Nat) (e : Ending) (w' : World) : Prop :=
  ∃ v u, e = .returned (.tuple #[v, u]) ∧ OwnV w' w.heap.size 9 v ((putAll a).map str) ∧ OwnI w' w.heap.size 2 u (riseG g) ∧ Below w.heap.size w w'
theorem Lin.inv {ss : List Txt} {k e : Nat} {a : List Txt} {g : List Nat} (h : Lin ss k e a g) : (k = e ∧ a = [] ∧ g = []) ∨ ∃ k1 an b gn i, Note ss k k1 an gn ∧ Lin ss k1 e b i ∧ a = an ++ b ∧ g = gn ++ i := by
  cases h with
  | nil => exact .inl ⟨rfl, rfl, rfl⟩
  | cons n r => exact .inr ⟨_, _, _, _, _, n, r, rfl, rfl⟩
/-- At the head of the great loop. -/
def AllAt (ss : List Txt) (w : World) (a : List Txt) (g : List Nat) (j i : Value) (wr : World) : Prop :=
  ∃ (k gg c : Nat) (xs a1 a2 : List Txt) (g1 g2 : List Nat), k ≤ ss.length ∧ i = .int .i64 (k : Int) ∧ j = .slice (some ⟨gg, 0, none⟩) xs.length c ∧ AllIn w wr xs a1 g1 j ∧ Lin ss k ss.length a2 g2 ∧ a1 ++ a2 = a ∧ g1 ++ g2 = g
theorem AllAt.next {ss : List Txt} {w wr : World} {a : List Txt} {g : List Nat} {k gg c : Nat} {xs a1 a2 an b : List Txt} {g1 g2 gn i : List Nat} (h : AllIn w wr xs (a1 ++ an) (g1 ++ gn) (.slice (some ⟨gg, 0, none⟩) xs.length c))
    (r : Lin ss k ss.length b i) (e1 : a2 = an ++ b) (e2 : g2 = gn ++ i) (e3 : a1 ++ a2 = a) (e4 : g1 ++ g2 = g) {z : Int} (hz : z = (k : Int)) : AllAt ss w a g (.slice (some ⟨gg, 0, none⟩) xs.length c) (.int .i64 z) wr :=
  ⟨k, gg, c, xs, a1 ++ an, b, g1 ++ gn, i, r.le, by rw [hz], rfl, h, r, by rw [← e3, e1, List.append_assoc], by rw [← e4, e2, List.append_assoc]⟩

set_option maxRecDepth 100000 in
set_option maxHeartbeats 4000000 in
theorem l7All_any (B : Nat) (v : Value) (ss : List Txt) (a : List Txt) (g : List Nat) (w : World) (h : SeeV w B v (ss.map str)) (hB : B ≤ w.heap.size) (hS : shortS ss) (hn : ss.length ≤ 1048576) (hl : Lin ss 0 ss.length a g) :
    Calls Tryz.prog 73 #[v] w (AllOut w a g) := by
  obtain ⟨A, c, e⟩ := strs_shape h
  subst e
  have hal0 := lin_alen hl
  have HL := Lib.hid hl
  clear hl
  have hmk : ∀ w : World, (Instr.makeSlice 79 (.int .i64 4) (.int .i64 4)).run Tryz.prog w = .ok (.slice (some ⟨w.heap.size, 0, none⟩) 4 4) (w.alloc (.cells #[.bool false, .bool false, .bool false, .bool false] 4)) := by intro w; kernel_rfl
  have hA0 : AllIn w ((w.alloc (.cells #[] 9)).alloc (.cells #[.bool false, .bool false, .bool false, .bool false] 4)) [] [] [] (.slice (some ⟨w.heap.size, 0, none⟩) 0 0) :=
    ⟨(OwnV.empty w w.heap.size 9 (Nat.le_refl _)).alloc _, rfl, by rw [bools_nil]; have := heap_alloc_new (w.alloc (.cells #[] 9)) (.cells #[.bool false, .bool false, .bool false, .bool false] 4); simpa using this, ((Below.refl _ w).alloc (Nat.le_refl _) _).alloc (by simp) _⟩
  go_enter Tryz.func73, Tryz.ntmps73
  go_wp2_with fail
  generalize World.alloc _ _ = WA at hA0 ⊢
  go_loopw [4, 6] (AllAt ss w a g) (fun _ i _ => ss.length - (intOf i).toNat)
  case atStart => exact ⟨0, _, _, [], [], a, [], g, Nat.zero_le _, rfl, rfl, hA0, HL.out, rfl, rfl⟩
  case round =>
    clear hA0
    obtain ⟨k, gg, c1, xs, a1, a2, g1, g2, hk, rfl, rfl, HAx, hr, ha, hg⟩ := hrel
    have HA := Lib.hid ha
    have HG := Lib.hid hg
    have hal : a1.length + a2.length ≤ ss.length := by rw [← List.length_append, ha]; omega
    clear ha hg
    rcases hr.inv with ⟨hkl, ha2, hg2⟩ | ⟨k1, an, b, gn, i, hN, hR, ha2, hg2⟩
    · subst ha2 hg2 hkl
      have HAA : Hid (a1 = a) := Lib.hid (by have := HA.out; rwa [List.append_nil] at this)
      have HGG : Hid (g1 = g) := Lib.hid (by have := HG.out; rwa [List.append_nil] at this)
      have HRG := Lib.hid (riseG_sel g1)
      obtain ⟨i0, hi, hz0, hz1, hz2⟩ := info_parts Tryz.info7
      clear HL hr HA HG hal
      have oE := OwnI.empty wr w.heap.size 2 HAx.old.size
      have AE := HAx.later ((Below.refl _ wr).alloc (Nat.le_refl _) (.cells #[] 2))
      go_wp2_with fail
      obtain ⟨wo, rfl⟩ : ∃ x, x = wr := ⟨_, rfl⟩
      generalize World.alloc _ _ = WE at oE AE ⊢
      clear HAx
      go_loopw [10, 11] (fun j i wi => ∃ p : Nat, p ≤ 4 ∧ i = .int .i64 (p : Int) ∧ OwnI wi w.heap.size 2 j (sel (fun z => decide (z.toNat ∈ g1)) p) ∧ AllIn w wi xs a1 g1 (.slice (some ⟨gg, 0, none⟩) xs.length c1)) (fun _ i _ => 4 - (intOf i).toNat)
      case atStart => exact ⟨0, by omega, rfl, oE, AE⟩
      case round =>
        obtain ⟨p, hp, rfl, op, Ap⟩ := hrel
        rename_i vj
        have hql := sel_le (fun z => decide (z.toNat ∈ g1)) p
        by_cases hlt : p < 4
        · have hcp := Ap.cell hlt
          have hzp := Ap.lt
          cases hb : decide (p ∈ g1)
          · rw [hb] at hcp
            have RR := Lib.hid (sel_no (p := fun z => decide (z.toNat ∈ g1)) (k := p) (by simpa using hb))
            clear hb
            go_wp2_with fail
            go_roundw
            case rel => exact ⟨p + 1, by omega, by go_num, by rw [RR.out]; exact op, Ap⟩
            case measure => simp [intOf]; omega
          · rw [hb] at hcp
            have RR := Lib.hid (sel_yes (p := fun z => decide (z.toNat ∈ g1)) (k := p) (by simpa using hb))
            clear hb
            go_wp2_with (at_builtin; refine wpList_append_own _ rfl _ _ 37 rfl w.heap.size 2 i0 (.int .i64 0) 1 8 Tryz.underlying37 hi hz0 hz1 hz2 rfl (by decide) _ _ _ rfl (op.alloc _) ⟨wr.heap.size, 0, none⟩ 1 1 [.int .i64 p] rfl rfl (cell_one_new _ _ _) (by simp [Value.oneCell']) (by unfold maxLen; omega) (by omega) (by simp; omega) ?_; intro v' w6 hown' hgrow _)
            have o6 : OwnI w6 w.heap.size 2 v' (sel (fun z => decide (z.toNat ∈ g1)) (p + 1)) := by
              rw [RR.out]
              unfold OwnI
              simpa using hown'
            have A6 : AllIn w w6 xs a1 g1 (.slice (some ⟨gg, 0, none⟩) xs.length c1) := Ap.grownI hgrow op
            clear hown' hgrow
            go_roundw
            case rel => exact ⟨p + 1, by omega, by go_num, o6, A6⟩
            case measure => simp [intOf]; omega
        · obtain rfl : p = 4 := by omega
          go_wp2_with fail
          go_ret2
          refine ⟨_, _, rfl, ?_, ?_, Ap.old⟩
          · rw [← HAA.out, ← Ap.names]; exact Ap.row
          · rw [← HGG.out, HRG.out]; exact op
    have HR := Lib.hid hR
    have HA2 := Lib.hid ha2
    have HG2 := Lib.hid hg2
    have hk1 := hR.le
    have hk0 := hN.lt
    have hxl := HAx.len
    rw [ha2, List.length_append] at hal
    clear hr hR ha2 hg2 HL
    cases hN with
    | set h1 h2 h3 h4 =>
      have HE := Lib.hid h4
      have hx0 := sg7_at h1 (by simp)
      have hx1 := sg7_at h2 (fun q => by rw [q, nameB_nil] at h3; cases h3)
      have hb1 := (List.getElem?_eq_some_iff.1 hx1).1
      clear h1 h2 h3 h4
      rename_i x
      obtain ⟨gs, os, e0, -, hc0⟩ := strs_at (h.below (HAx.old.mono hB)) hx0
      subst e0
      obtain ⟨gs', os', e1, -, hc1⟩ := strs_at (h.below (HAx.old.mono hB)) hx1
      cases e1
      rw [List.length_cons] at hal
      go_wp2_with fail
      refine (l6Put_any w.heap.size gg c1 xs x _ HAx.row HAx.old.size (by omega)).mono ?_
      rintro e w3 ⟨g3, c3, rfl, o3, b3⟩
      have A3 := HAx.put b3 o3
      generalize putS xs x = x3 at A3 ⊢
      clear o3
      go_wp2_with fail
      refine (sNamesIn_any B _ ss ((k + 2 : Nat) : Int) _ (h.below ((A3).old.mono hB)) (Nat.le_trans hB (A3).old.size) hS hn).mono ?_
      rintro e w5 ⟨g5, c5, rfl, o5, b5⟩
      have A5 := (A3).later b5
      have hz5 := b5.size
      obtain ⟨nm, HNM⟩ : ∃ nm, Hid (namesS ss ((k + 2 : Nat) : Int) = nm) := ⟨_, Lib.hid rfl⟩
      rw [HNM.out] at o5 ⊢
      have s5 := o5.see
      have hnl : nm.length + ((a1 ++ [x])).length ≤ 1048576 := by rw [HNM.out] at hal; (try simp only [List.length_append, List.length_cons, List.length_nil]); omega
      clear hal
      go_wp2_with fail
      obtain ⟨wo, rfl⟩ : ∃ x, x = wr := ⟨_, rfl⟩
      go_loopw [4, 9] (fun jv iv wi => ∃ (p gg c : Nat) (xs : List Txt), p ≤ nm.length ∧ iv = .int .i64 (p : Int) ∧ jv = .slice (some ⟨gg, 0, none⟩) xs.length c ∧ AllIn w wi xs ((a1 ++ [x]) ++ nm.take p) (g1) (.slice (some ⟨gg, 0, none⟩) xs.length c) ∧ Below w5.heap.size w5 wi) (fun _ i _ => nm.length - (intOf i).toNat)
      case atStart => exact ⟨0, _, _, _, Nat.zero_le _, rfl, rfl, by rw [List.take_zero, List.append_nil]; exact A5, Below.refl _ _⟩
      case round =>
        obtain ⟨p, gi, ci, xi, hp, rfl, rfl, Ai, bi⟩ := hrel
        have hli : xi.length ≤ 1048576 := by have := Ai.len; rw [List.length_append, List.length_take] at this; omega
        by_cases hlt : p < nm.length
        · have hx := List.getElem?_eq_getElem hlt
          generalize nm[p] = y at hx
          obtain ⟨gy, oy, ey, -, hcy⟩ := strs_at (s5.below bi) hx
          cases ey
          rw [Nat.zero_add] at hcy
          have HP : Hid ((a1 ++ [x]) ++ nm.take p ++ [y] = (a1 ++ [x]) ++ nm.take (p + 1)) := Lib.hid (by rw [List.take_add_one, hx, List.append_assoc]; rfl)
          clear hx
          go_wp2_with fail
          refine (l6Put_any w.heap.size gi ci xi y _ Ai.row Ai.old.size hli).mono ?_
          rintro e w6 ⟨g6, c6, rfl, o6, b6⟩
          have A6 := (Ai.put b6 o6).cast HP.out rfl
          generalize putS xi y = x6 at A6 ⊢
          go_wp2_with fail
          go_roundw
          case rel => exact ⟨p + 1, g6, c6, x6, by omega, by go_num, rfl, A6, below_then bi b6 (Nat.le_refl _)⟩
          case measure => simp [intOf]; omega
        · have HP : Hid (nm.take p = nm) := Lib.hid (List.take_of_length_le (by omega))
          rw [HP.out] at Ai
          go_wp2_with fail
          refine (sSumEnd_any B _ ss ((k + 2 : Nat) : Int) _ (h.below (Ai.old.mono hB)) (Nat.le_trans hB Ai.old.size) hS hn).mono ?_
          rintro e w7 ⟨rfl, b7⟩
          have A7 := Ai.later b7
          rw [nnE_some HE.out]
          go_wp2_with fail
          go_roundw
          case rel => exact AllAt.next (A7.cast (by rw [← HNM.out]; (rw [List.append_assoc]; rfl)) (by rw [List.append_nil])) HR.out HA2.out HG2.out HA.out HG.out rfl
          case measure => simp [intOf]; omega
    | in_ h1 h2 h3 h4 =>
      rename_i j x
      have HJ := Lib.hid (gateI_some h4)
      have hj := gateN_lt h4
      have hx0 := sg7_at h1 (by simp)
      have hx1 := sg7_at h2 (fun q => by rw [q, nameB_nil] at h3; cases h3)
      obtain ⟨y, HY⟩ : ∃ y, Hid (sg7 ss (k + 2) = y) := ⟨_, Lib.hid rfl⟩
      have hx2 := sg7_at HY.out (fun q => by have e := HY.out; rw [q] at e; rw [e, gateN_nil] at h4; cases h4)
      rw [HY.out] at HJ
      have hb2 := (List.getElem?_eq_some_iff.1 hx2).1
      clear h1 h2 h3 h4
      obtain ⟨gs, os, e0, -, hc0⟩ := strs_at (h.below (HAx.old.mono hB)) hx0
      subst e0
      obtain ⟨gs', os', e1, -, hc1⟩ := strs_at (h.below (HAx.old.mono hB)) hx1
      cases e1
      go_wp2_with fail
      refine (l6Put_any w.heap.size gg c1 xs x _ HAx.row HAx.old.size (by omega)).mono ?_
      rintro e w3 ⟨g3, c3, rfl, o3, b3⟩
      have A3 := HAx.put b3 o3
      generalize putS xs x = x3 at A3 ⊢
      clear o3
      obtain ⟨gs', os', e2, -, hc2⟩ := strs_at (h.below (A3.old.mono hB)) hx2
      cases e2
      go_wp2_with fail
      refine (l7Gate_any y _).mono ?_
      rintro e w4 ⟨rfl, b4⟩
      have A4 := A3.later b4
      rw [HJ.out]
      have hf4 := A4.frozen j
      have hc4 := A4.cell hj
      have A5 := A4.mark hj
      go_wp2_with fail
      go_roundw
      case rel => exact AllAt.next A5 HR.out HA2.out HG2.out HA.out HG.out (by omega)
      case measure => simp [intOf]; omega
    | out h1 h2 h3 =>
      rename_i j
      have HE := Lib.hid h3
      have HJ := Lib.hid (gateI_some h2)
      have hj := gateN_lt h2
      have hx0 := sg7_at h1 (by simp)
      obtain ⟨y, HY⟩ : ∃ y, Hid (sg7 ss (k + 1) = y) := ⟨_, Lib.hid rfl⟩
      have hx1 := sg7_at HY.out (fun q => by have e := HY.out; rw [q] at e; rw [e, gateN_nil] at h2; cases h2)
      rw [HY.out] at HJ
      have hb2 := (List.getElem?_eq_some_iff.1 hx1).1
      clear h1 h2 h3
      obtain ⟨gs, os, e0, -, hc0⟩ := strs_at (h.below (HAx.old.mono hB)) hx0
      subst e0
      obtain ⟨gs', os', e1, -, hc1⟩ := strs_at (h.below (HAx.old.mono hB)) hx1
      cases e1
      go_wp2_with fail
      refine (l7Gate_any y _).mono ?_
      rintro e w4 ⟨rfl, b4⟩
      have A4 := HAx.later b4
      rw [HJ.out]
      have hf4 := A4.frozen j
      have hc4 := A4.cell hj
      have A5 := A4.mark hj
      go_wp2_with fail
      generalize World.setCell _ _ _ = W5 at A5 ⊢
      refine (sNamesIn_any B _ ss ((k + 2 : Nat) : Int) _ (h.below ((A5).old.mono hB)) (Nat.le_trans hB (A5).old.size) hS hn).mono ?_
      rintro e w5 ⟨g5, c5, rfl, o5, b5⟩
      have A5 := (A5).later b5
      have hz5 := b5.size
      obtain ⟨nm, HNM⟩ : ∃ nm, Hid (namesS ss ((k + 2 : Nat) : Int) = nm) := ⟨_, Lib.hid rfl⟩
      rw [HNM.out] at o5 ⊢
      have s5 := o5.see
      have hnl : nm.length + (a1).length ≤ 1048576 := by rw [HNM.out] at hal; (try simp only [List.length_append, List.length_cons, List.length_nil]); omega
      clear hal
      go_wp2_with fail
      obtain ⟨wo, rfl⟩ : ∃ x, x = wr := ⟨_, rfl⟩
      go_loopw [4, 9] (fun jv iv wi => ∃ (p gg c : Nat) (xs : List Txt), p ≤ nm.length ∧ iv = .int .i64 (p : Int) ∧ jv = .slice (some ⟨gg, 0, none⟩) xs.length c ∧ AllIn w wi xs (a1 ++ nm.take p) (g1 ++ [j]) (.slice (some ⟨gg, 0, none⟩) xs.length c) ∧ Below w5.heap.size w5 wi) (fun _ i _ => nm.length - (intOf i).toNat)
      case atStart => exact ⟨0, _, _, _, Nat.zero_le _, rfl, rfl, by rw [List.take_zero, List.append_nil]; exact A5, Below.refl _ _⟩
      case round =>
        obtain ⟨p, gi, ci, xi, hp, rfl, rfl, Ai, bi⟩ := hrel
        have hli : xi.length ≤ 1048576 := by have := Ai.len; rw [List.length_append, List.length_take] at this; omega
        by_cases hlt : p < nm.length
        · have hx := List.getElem?_eq_getElem hlt
          generalize nm[p] = y at hx
          obtain ⟨gy, oy, ey, -, hcy⟩ := strs_at (s5.below bi) hx
          cases ey
          rw [Nat.zero_add] at hcy
          have HP : Hid (a1 ++ nm.take p ++ [y] = a1 ++ nm.take (p + 1)) := Lib.hid (by rw [List.take_add_one, hx, List.append_assoc]; rfl)
          clear hx
          go_wp2_with fail
          refine (l6Put_any w.heap.size gi ci xi y _ Ai.row Ai.old.size hli).mono ?_
          rintro e w6 ⟨g6, c6, rfl, o6, b6⟩
          have A6 := (Ai.put b6 o6).cast HP.out rfl
          generalize putS xi y = x6 at A6 ⊢
          go_wp2_with fail
          go_roundw
          case rel => exact ⟨p + 1, g6, c6, x6, by omega, by go_num, rfl, A6, below_then bi b6 (Nat.le_refl _)⟩
          case measure => simp [intOf]; omega
        · have HP : Hid (nm.take p = nm) := Lib.hid (List.take_of_length_le (by omega))
          rw [HP.out] at Ai
          go_wp2_with fail
          refine (sSumEnd_any B _ ss ((k + 2 : Nat) : Int) _ (h.below (Ai.old.mono hB)) (Nat.le_trans hB Ai.old.size) hS hn).mono ?_
          rintro e w7 ⟨rfl, b7⟩
          have A7 := Ai.later b7
          rw [nnE_some HE.out]
          go_wp2_with fail
          go_roundw
          case rel => exact AllAt.next (A7.cast (by rw [← HNM.out]; skip) rfl) HR.out HA2.out HG2.out HA.out HG.out rfl
          case measure => simp [intOf]; omega
    | ask h1 h2 =>
      have HE : Hid (nnE (sumEndS ss ((k + 1 : Nat) : Int)) = some k1) := Lib.hid h2
      rcases h1 with h1 | h1
      · have hx0 := sg7_at h1 (by simp)
        clear h1 h2
        obtain ⟨gs, os, e0, -, hc0⟩ := strs_at (h.below (HAx.old.mono hB)) hx0
        subst e0
        go_wp2_with fail
        refine (sNamesIn_any B _ ss ((k + 1 : Nat) : Int) _ (h.below ((HAx).old.mono hB)) (Nat.le_trans hB (HAx).old.size) hS hn).mono ?_
        rintro e w5 ⟨g5, c5, rfl, o5, b5⟩
        have A5 := (HAx).later b5
        have hz5 := b5.size
        obtain ⟨nm, HNM⟩ : ∃ nm, Hid (namesS ss ((k + 1 : Nat) : Int) = nm) := ⟨_, Lib.hid rfl⟩
        rw [HNM.out] at o5 ⊢
        have s5 := o5.see
        have hnl : nm.length + (a1).length ≤ 1048576 := by rw [HNM.out] at hal; (try simp only [List.length_append, List.length_cons, List.length_nil]); omega
        clear hal
        go_wp2_with fail
        obtain ⟨wo, rfl⟩ : ∃ x, x = wr := ⟨_, rfl⟩
        go_loopw [4, 9] (fun jv iv wi => ∃ (p gg c : Nat) (xs : List Txt), p ≤ nm.length ∧ iv = .int .i64 (p : Int) ∧ jv = .slice (some ⟨gg, 0, none⟩) xs.length c ∧ AllIn w wi xs (a1 ++ nm.take p) (g1) (.slice (some ⟨gg, 0, none⟩) xs.length c) ∧ Below w5.heap.size w5 wi) (fun _ i _ => nm.length - (intOf i).toNat)
        case atStart => exact ⟨0, _, _, _, Nat.zero_le _, rfl, rfl, by rw [List.take_zero, List.append_nil]; exact A5, Below.refl _ _⟩
        case round =>
          obtain ⟨p, gi, ci, xi, hp, rfl, rfl, Ai, bi⟩ := hrel
          have hli : xi.length ≤ 1048576 := by have := Ai.len; rw [List.length_append, List.length_take] at this; omega
          by_cases hlt : p < nm.length
          · have hx := List.getElem?_eq_getElem hlt
            generalize nm[p] = y at hx
            obtain ⟨gy, oy, ey, -, hcy⟩ := strs_at (s5.below bi) hx
            cases ey
            rw [Nat.zero_add] at hcy
            have HP : Hid (a1 ++ nm.take p ++ [y] = a1 ++ nm.take (p + 1)) := Lib.hid (by rw [List.take_add_one, hx, List.append_assoc]; rfl)
            clear hx
            go_wp2_with fail
            refine (l6Put_any w.heap.size gi ci xi y _ Ai.row Ai.old.size hli).mono ?_
            rintro e w6 ⟨g6, c6, rfl, o6, b6⟩
            have A6 := (Ai.put b6 o6).cast HP.out rfl
            generalize putS xi y = x6 at A6 ⊢
            go_wp2_with fail
            go_roundw
            case rel => exact ⟨p + 1, g6, c6, x6, by omega, by go_num, rfl, A6, below_then bi b6 (Nat.le_refl _)⟩
            case measure => simp [intOf]; omega
          · have HP : Hid (nm.take p = nm) := Lib.hid (List.take_of_length_le (by omega))
            rw [HP.out] at Ai
            go_wp2_with fail
            refine (sSumEnd_any B _ ss ((k + 1 : Nat) : Int) _ (h.below (Ai.old.mono hB)) (Nat.le_trans hB Ai.old.size) hS hn).mono ?_
            rintro e w7 ⟨rfl, b7⟩
            have A7 := Ai.later b7
            rw [nnE_some HE.out]
            go_wp2_with fail
            go_roundw
            case rel => exact AllAt.next (A7.cast (by rw [← HNM.out]; skip) (by rw [List.append_nil])) HR.out HA2.out HG2.out HA.out HG.out rfl
            case measure => simp [intOf]; omega
      · have hx0 := sg7_at h1 (by simp)
        clear h1 h2
        obtain ⟨gs, os, e0, -, hc0⟩ := strs_at (h.below (HAx.old.mono hB)) hx0
        subst e0
        go_wp2_with fail
        refine (sNamesIn_any B _ ss ((k + 1 : Nat) : Int) _ (h.below ((HAx).old.mono hB)) (Nat.le_trans hB (HAx).old.size) hS hn).mono ?_
        rintro e w5 ⟨g5, c5, rfl, o5, b5⟩
        have A5 := (HAx).later b5
        have hz5 := b5.size
        obtain ⟨nm, HNM⟩ : ∃ nm, Hid (namesS ss ((k + 1 : Nat) : Int) = nm) := ⟨_, Lib.hid rfl⟩
        rw [HNM.out] at o5 ⊢
        have s5 := o5.see
        have hnl : nm.length + (a1).length ≤ 1048576 := by rw [HNM.out] at hal; (try simp only [List.length_append, List.length_cons, List.length_nil]); omega
        clear hal
        go_wp2_with fail
        obtain ⟨wo, rfl⟩ : ∃ x, x = wr := ⟨_, rfl⟩
        go_loopw [4, 9] (fun jv iv wi => ∃ (p gg c : Nat) (xs : List Txt), p ≤ nm.length ∧ iv = .int .i64 (p : Int) ∧ jv = .slice (some ⟨gg, 0, none⟩) xs.length c ∧ AllIn w wi xs (a1 ++ nm.take p) (g1) (.slice (some ⟨gg, 0, none⟩) xs.length c) ∧ Below w5.heap.size w5 wi) (fun _ i _ => nm.length - (intOf i).toNat)
        case atStart => exact ⟨0, _, _, _, Nat.zero_le _, rfl, rfl, by rw [List.take_zero, List.append_nil]; exact A5, Below.refl _ _⟩
        case round =>
          obtain ⟨p, gi, ci, xi, hp, rfl, rfl, Ai, bi⟩ := hrel
          have hli : xi.length ≤ 1048576 := by have := Ai.len; rw [List.length_append, List.length_take] at this; omega
          by_cases hlt : p < nm.length
          · have hx := List.getElem?_eq_getElem hlt
            generalize nm[p] = y at hx
            obtain ⟨gy, oy, ey, -, hcy⟩ := strs_at (s5.below bi) hx
            cases ey
            rw [Nat.zero_add] at hcy
            have HP : Hid (a1 ++ nm.take p ++ [y] = a1 ++ nm.take (p + 1)) := Lib.hid (by rw [List.take_add_one, hx, List.append_assoc]; rfl)
            clear hx
            go_wp2_with fail
            refine (l6Put_any w.heap.size gi ci xi y _ Ai.row Ai.old.size hli).mono ?_
            rintro e w6 ⟨g6, c6, rfl, o6, b6⟩
            have A6 := (Ai.put b6 o6).cast HP.out rfl
            generalize putS xi y = x6 at A6 ⊢
            go_wp2_with fail
            go_roundw
            case rel => exact ⟨p + 1, g6, c6, x6, by omega, by go_num, rfl, A6, below_then bi b6 (Nat.le_refl _)⟩
            case measure => simp [intOf]; omega
          · have HP : Hid (nm.take p = nm) := Lib.hid (List.take_of_length_le (by omega))
            rw [HP.out] at Ai
            go_wp2_with fail
            refine (sSumEnd_any B _ ss ((k + 1 : Nat) : Int) _ (h.below (Ai.old.mono hB)) (Nat.le_trans hB Ai.old.size) hS hn).mono ?_
            rintro e w7 ⟨rfl, b7⟩
            have A7 := Ai.later b7
            rw [nnE_some HE.out]
            go_wp2_with fail
            go_roundw
            case rel => exact AllAt.next (A7.cast (by rw [← HNM.out]; skip) (by rw [List.append_nil])) HR.out HA2.out HG2.out HA.out HG.out rfl
            case measure => simp [intOf]; omega
    | other h1 =>
      obtain ⟨y, HY⟩ : ∃ y, Hid (sg7 ss k = y) := ⟨_, Lib.hid rfl⟩
      have hy : y = wStop ∨ y = wOpen ∨ y = wShut := by rw [← HY.out]; exact h1
      have hx0 := sg7_at HY.out (by rcases hy with rfl | rfl | rfl <;> simp)
      have e1 : (y == [115, 101, 116]) = false := by rcases hy with rfl | rfl | rfl <;> decide
      have e2 : (y == [105, 110]) = false := by rcases hy with rfl | rfl | rfl <;> decide
      have e3 : (y == [111, 117, 116]) = false := by rcases hy with rfl | rfl | rfl <;> decide
      have e5 : (y == [105, 102]) = false := by rcases hy with rfl | rfl | rfl <;> decide
      have e6 : (y == [119, 104, 105, 108, 101]) = false := by rcases hy with rfl | rfl | rfl <;> decide
      have A5 : AllIn w wr xs (a1 ++ []) (g1 ++ []) (.slice (some ⟨gg, 0, none⟩) xs.length c1) := HAx.cast (by rw [List.append_nil]) (by rw [List.append_nil])
      clear h1 hy
      obtain ⟨gs, os, e0, -, hc0⟩ := strs_at (h.below (HAx.old.mono hB)) hx0
      subst e0
      go_wp2_with fail
      go_roundw
      case rel => exact AllAt.next A5 HR.out HA2.out HG2.out HA.out HG.out (by omega)
      case measure => simp [intOf]; omega

end Go.Proofs.YtjcmfdgphhonhaaGreatDoor
