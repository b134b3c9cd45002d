/- Layer 7 (plays): the program's reader: atEnd, next, takesName, takesGate. Condition: the listed variables hold what the program's text lays (Vars). -/
import Derived.Test.YtblnonlcjfcblaaGreatDoorRdrA
namespace Go.Proofs.YtblnonlcjfcblaaGreatDoor
open Go.RowKit
set_option linter.unusedVariables false

/-- The next place. -/
def nx (ss : List Txt) (k : Nat) : Nat := if k < ss.length then k + 1 else k
theorem nx_in {ss : List Txt} {k : Nat} (h : k < ss.length) : nx ss k = k + 1 := if_pos h
theorem nx_out {ss : List Txt} {k : Nat} (h : ¬ k < ss.length) : nx ss k = k := if_neg h
theorem sg7_short {ss : List Txt} (hS : shortS ss) (k : Nat) : (sg7 ss k).length ≤ 1048576 := by
  by_cases h : k < ss.length
  · have e := List.getElem?_eq_getElem h
    rw [sg7_some e]
    exact hS _ (List.mem_of_getElem? e)
  · rw [sg7_out (by omega)]; simp

/-- The reader behind a call. -/
def RrOut (B g : Nat) (sv : Value) (ss : List Txt) (w : World) (r : Value) (k : Int) (nm : List Txt) (gt : List Int) (op : List Bool) (dp : Nat) (e : Ending) (w' : World) : Prop :=
  e = .returned r ∧ Below g w w' ∧ ∃ vn vg vo, Rd B g sv ss w' k vn vg vo nm gt op dp

set_option maxHeartbeats 1000000 in
theorem atEnd_any (B g : Nat) (sv : Value) (ss : List Txt) (w : World) (k : Nat) (vn vg vo : Value) (nm : List Txt) (gt : List Int) (op : List Bool) (dp : Nat) (h : Rd B g sv ss w (k : Int) vn vg vo nm gt op dp) (hn : ss.length ≤ 1048576) :
    Calls Tryz.prog 86 #[.pointer (some ⟨g, 0, none⟩)] w (BoolLt w (decide (ss.length ≤ k))) := by
  obtain ⟨A, c, e⟩ := strs_shape h.see
  subst e
  have c0 := h.c0
  have c1 := h.c1
  clear h
  go_enter Tryz.func86, Tryz.ntmps86
  go_wp2_with fail
  go_quiet (fail)
  go_wp2_with fail
  go_ret
  exact ⟨ret_bool (by simp), below_drewN (Below.refl _ _) _⟩

set_option maxHeartbeats 1000000 in
theorem next_any (B g : Nat) (sv : Value) (ss : List Txt) (w : World) (k : Nat) (vn vg vo : Value) (nm : List Txt) (gt : List Int) (op : List Bool) (dp : Nat) (h : Rd B g sv ss w (k : Int) vn vg vo nm gt op dp) (hn : ss.length ≤ 1048576) :
    Calls Tryz.prog 95 #[.pointer (some ⟨g, 0, none⟩)] w (RrOut B g sv ss w (str (sg7 ss k)) ((nx ss k : Nat) : Int) nm gt op dp) := by
  obtain ⟨A, c, e⟩ := strs_shape h.see
  subst e
  by_cases hlt : k < ss.length
  · have hx := List.getElem?_eq_getElem hlt
    generalize ss[k] = x at hx
    have HE : Hid (sg7 ss k = x) := Lib.hid (sg7_some hx)
    have HN : Hid (nx ss k = k + 1) := Lib.hid (nx_in hlt)
    have HD : Hid (decide (ss.length ≤ k) = false) := Lib.hid (by simp; omega)
    rw [HE.out, HN.out]
    go_enter Tryz.func95, Tryz.ntmps95
    go_wp2_with fail
    refine (atEnd_any B g _ ss _ k vn vg vo nm gt op dp h hn).mono ?_
    rintro e w1 ⟨rfl, b1⟩
    rw [HD.out]
    have h1 := h.later b1
    obtain ⟨gs, os, e0, -, hcx⟩ := strs_at h1.see hx
    subst e0
    have c0 := h1.c0
    have c1 := h1.c1
    have f1 := h1.fz 1
    have HH := Lib.hid (fun n => (h1.drewN n).setAt ((k + 1 : Nat) : Int))
    have HB : Hid (Below g w w1) := Lib.hid (b1.mono (Nat.le_of_lt h.lt))
    clear h h1 hx b1
    go_wp2_with fail
    go_quiet (fail)
    go_wp2_with fail
    go_ret
    exact ⟨rfl, (below_drewN HB.out _).setCell (by simp) _, _, _, _, HH.out _⟩
  · have HE : Hid (sg7 ss k = []) := Lib.hid (sg7_out (by omega))
    have HN : Hid (nx ss k = k) := Lib.hid (nx_out hlt)
    have HD : Hid (decide (ss.length ≤ k) = true) := Lib.hid (by simp; omega)
    rw [HE.out, HN.out]
    go_enter Tryz.func95, Tryz.ntmps95
    go_wp2_with fail
    refine (atEnd_any B g _ ss _ k vn vg vo nm gt op dp h hn).mono ?_
    rintro e w1 ⟨rfl, b1⟩
    rw [HD.out]
    have HH := Lib.hid (h.later b1)
    have HB : Hid (Below g w w1) := Lib.hid (b1.mono (Nat.le_of_lt h.lt))
    clear h b1
    go_wp2_with fail
    go_ret
    exact ⟨rfl, HB.out, _, _, _, HH.out⟩

set_option maxHeartbeats 1000000 in
theorem takesName_any (B g : Nat) (sv : Value) (ss : List Txt) (w : World) (k : Nat) (vn vg vo : Value) (nm : List Txt) (gt : List Int) (op : List Bool) (dp : Nat) (h : Rd B g sv ss w (k : Int) vn vg vo nm gt op dp) (hn : ss.length ≤ 1048576) (hS : shortS ss) (hnm : nm.length ≤ 4194304) :
    Calls Tryz.prog 96 #[.pointer (some ⟨g, 0, none⟩)] w (RrOut B g sv ss w (.bool (nameB (sg7 ss k))) ((nx ss k : Nat) : Int) (nm ++ [sg7 ss k]) gt op dp) := by
  obtain ⟨i0, hi, hz0, hz1, hz2⟩ := info_parts Tryz.infoStr
  have hsx := sg7_short hS k
  have HNX := Lib.hid (next_any B g sv ss w k vn vg vo nm gt op dp h hn)
  generalize sg7 ss k = x at hsx HNX ⊢
  go_enter Tryz.func96, Tryz.ntmps96
  go_wp2_with fail
  refine HNX.out.mono ?_
  rintro e w1 ⟨rfl, b1, vn1, vg1, vo1, h1⟩
  have c2 := h1.c2
  have f2 := h1.fz 2
  have hl1 := h1.lt
  have HOR : Hid (w1.ownsRow (g + 1) 9 1 vn1 nm.length (nm.map str)) := Lib.hid (by
    have := h1.names
    unfold OwnV at this
    rwa [List.length_map] at this)
  obtain ⟨A, c, e⟩ := strs_shape h1.names.see
  subst e
  have H1 := Lib.hid h1
  clear h h1
  go_wp2_with (at_builtin; refine wpList_append_own _ rfl _ _ 22 rfl (g + 1) 9 i0 (.string ⟨#[]⟩) 1 16 Tryz.underlying22 hi hz0 hz1 hz2 rfl (by decide) _ _ _ rfl (World.ownsRow.alloc HOR.out _) ⟨w1.heap.size, 0, none⟩ 1 1 [str x] rfl rfl (cell_one_new _ _ _) (by simp [Value.oneCell']) (by unfold maxLen; omega) (by omega) (by simp; omega) ?_; intro v3 w3 hown3 hgrow3 hnil3; obtain ⟨g3, c3, rfl⟩ := ownsRow_succ hown3; obtain ⟨hq, R3⟩ := (H1.out.alloc _).grewN (nm' := nm ++ [x]) hgrow3 (by unfold OwnV; rw [List.length_map, List.length_append, List.map_append]; exact hown3); have R4 := Lib.hid R3; have d2 := (World.cell?_of_block hq).trans (H1.out.alloc _).c2; have d3 := (World.frozen?_of_block hq).trans ((H1.out.alloc _).fz 2); have B3 : Hid (Below g w1 w3) := Lib.hid (((Below.refl _ w1).alloc (by omega) _).grown hgrow3 (by simp; omega) (fun j hj => by have := (World.ownsRow.lt HOR.out j hj).1; omega)); clear R3 hq hgrow3 hown3)
  refine (iNameOk_any x hsx _).mono ?_
  rintro e w' ⟨rfl, rfl⟩
  go_wp2_with fail
  go_ret
  exact ⟨rfl, (b1.trans B3.out).setCell (by simp) _, _, _, _, R4.out⟩

theorem gate_rd {s : Txt} {j : Nat} (h : gateN s = some j) : rdS s = some (j : Int) := by
  unfold gateN at h
  by_cases h0 : s = [48]
  · subst h0; simp at h; subst h; decide
  rw [if_neg h0] at h
  by_cases h1 : s = [49]
  · subst h1; simp at h; subst h; decide
  rw [if_neg h1] at h
  by_cases h2 : s = [50]
  · subst h2; simp at h; subst h; decide
  rw [if_neg h2] at h
  by_cases h3 : s = [51]
  · subst h3; simp at h; subst h; decide
  rw [if_neg h3] at h
  cases h
theorem rd_gate {s : Txt} {j : Nat} (h : rdS s = some (j : Int)) (hj : j < 4) : gateN s = some j := by
  have e := (rdS_some h).2
  have hd : Lib.itoa (j : Int) = [UInt8.ofNat (48 + j)] := by rw [Lib.itoa_nonneg, dec_small (by omega)]
  rw [hd] at e
  subst e
  match j, hj with
  | 0, _ => decide
  | 1, _ => decide
  | 2, _ => decide
  | 3, _ => decide
def gz (s : Txt) : Int := (rdS s).getD 0
theorem gz_gate {s : Txt} {j : Nat} (h : gateN s = some j) : gz s = (j : Int) := by unfold gz; rw [gate_rd h]; rfl

theorem gate_bool (x : Txt) : ((rdS x).isSome && decide (0 ≤ gz x) && decide (gz x < 4)) = (gateN x).isSome := by
  unfold gz
  cases hr : rdS x with
  | none =>
    cases hg : gateN x with
    | none => rfl
    | some j => rw [gate_rd hg] at hr; cases hr
  | some v =>
    by_cases hv : 0 ≤ v ∧ v < 4
    · have e : v = ((v.toNat : Nat) : Int) := by omega
      rw [e] at hr
      rw [rd_gate hr (by omega)]
      simp [hv]
    · cases hg : gateN x with
      | none =>
        simp only [Option.isSome_some, Bool.true_and, Option.getD_some, Option.isSome_none, Bool.and_eq_false_imp, decide_eq_true_eq, decide_eq_false_iff_not]
        omega
      | some j =>
        have hj := gateN_lt hg
        rw [gate_rd hg] at hr
        injection hr with hr
        exact absurd ⟨by omega, by omega⟩ hv

set_option maxRecDepth 100000 in
set_option maxHeartbeats 1000000 in
theorem takesGate_any (B g : Nat) (sv : Value) (ss : List Txt) (w : World) (k : Nat) (vn vg vo : Value) (nm : List Txt) (gt : List Int) (op : List Bool) (dp : Nat) (V : ∀ w', Below g w w' → Vars w') (h : Rd B g sv ss w (k : Int) vn vg vo nm gt op dp) (hn : ss.length ≤ 1048576) (hS : shortS ss) (hgt : gt.length ≤ 4194304) :
    Calls Tryz.prog 98 #[.pointer (some ⟨g, 0, none⟩)] w (RrOut B g sv ss w (.bool (gateN (sg7 ss k)).isSome) ((nx ss k : Nat) : Int) nm (gt ++ [gz (sg7 ss k)]) op dp) := by
  obtain ⟨i0, hi, hz0, hz1, hz2⟩ := info_parts Tryz.info7
  have hsx := sg7_short hS k
  have HV := Lib.hid V
  clear V
  have HNX := Lib.hid (next_any B g sv ss w k vn vg vo nm gt op dp h hn)
  generalize sg7 ss k = x at hsx HNX ⊢
  have HRW : Hid (∀ w1, Below g w w1 → Calls Tryz.prog 105 #[str x] w1 fun e w' => e = .returned (.tuple #[.int .i64 (gz x), .bool (rdS x).isSome]) ∧ Below w1.heap.size w1 w') := Lib.hid (fun w1 b1 => iReadWord_any x hsx _ (HV.out _ b1))
  rw [← gate_bool x]
  generalize gz x = z at HRW ⊢
  generalize (rdS x).isSome = is at HRW ⊢
  go_enter Tryz.func98, Tryz.ntmps98
  go_wp2_with fail
  refine HNX.out.mono ?_
  rintro e w1 ⟨rfl, b1, vn1, vg1, vo1, h1⟩
  go_wp2_with fail
  refine (HRW.out _ b1).mono ?_
  rintro e w2 ⟨rfl, b2⟩
  have h2 := h1.later b2
  have B2 := Lib.hid (b1.trans (b2.mono (Nat.le_of_lt h1.lt)))
  clear h h1 b1 b2
  have c2 := h2.c3
  have f2 := h2.fz 3
  have hl1 := h2.lt
  have HOR : Hid (w2.ownsRow (g + 1) 2 1 vg1 gt.length (gt.map (Value.int .i64))) := Lib.hid h2.gates
  obtain ⟨A, c, e⟩ := h2.gates.see.shape
  subst e
  have H1 := Lib.hid h2
  clear h2
  go_wp2_with (at_builtin; refine wpList_append_own _ rfl _ _ 31 rfl (g + 1) 2 i0 (.int .i64 0) 1 8 Tryz.underlying31 hi hz0 hz1 hz2 rfl (by decide) _ _ _ rfl (World.ownsRow.alloc HOR.out _) ⟨w2.heap.size, 0, none⟩ 1 1 [.int .i64 z] rfl rfl (cell_one_new _ _ _) (by simp [Value.oneCell']) (by unfold maxLen; omega) (by omega) (by simp; omega) ?_; intro v3 w3 hown3 hgrow3 hnil3; obtain ⟨g3, c3, rfl⟩ := ownsRow_succ hown3; obtain ⟨hq, R3⟩ := (H1.out.alloc _).grewG (gt' := gt ++ [z]) hgrow3 (by unfold OwnI; rw [List.length_append, List.map_append]; exact hown3); have R4 := Lib.hid R3; have d2 := (World.cell?_of_block hq).trans (H1.out.alloc _).c3; have d3 := (World.frozen?_of_block hq).trans ((H1.out.alloc _).fz 3); have B3 : Hid (Below g w2 w3) := Lib.hid (((Below.refl _ w2).alloc (by omega) _).grown hgrow3 (by simp; omega) (fun j hj => by have := (World.ownsRow.lt HOR.out j hj).1; omega)); clear R3 hq hgrow3 hown3)
  all_goals (go_ret)
  all_goals (exact ⟨ret_bool (by first | (simp_all; done) | (simp_all; omega)), (B2.out.trans B3.out).setCell (by simp) _, _, _, _, R4.out⟩)

end Go.Proofs.YtblnonlcjfcblaaGreatDoor
