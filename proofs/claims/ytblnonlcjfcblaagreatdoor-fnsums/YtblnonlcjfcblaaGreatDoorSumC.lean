/- Layer 6 (sums): the program's shapeOf and SumEnd. Condition: the listed variables hold what the program's text lays (Vars). -/
import Derived.Test.YtblnonlcjfcblaaGreatDoorSumB
import Derived.Test.YtblnonlcjfcblaaGreatDoorWordP
namespace Go.Proofs.YtblnonlcjfcblaaGreatDoor
open Go.RowKit
set_option linter.unusedVariables false

/-- What a sign is: an op, a name, a word; nil: nothing of a sum. -/
def shapeV (s : List UInt8) : Value := if ¬ opN s = 0 then .iface 77 (.int .i64 (opN s)) else if nameB s = true then .iface 76 (str s) else match rdS s with
  | some v => .iface 75 (.int .i64 v)
  | none => .nilIface
theorem shape_op {s : List UInt8} (h : ¬ opN s = 0) : shapeV s = .iface 77 (.int .i64 (opN s)) := by unfold shapeV; rw [if_pos h]
theorem shape_name {s : List UInt8} (h : opN s = 0) (hn : nameB s = true) : shapeV s = .iface 76 (str s) := by unfold shapeV; rw [if_neg (by simp [h]), if_pos hn]
theorem shape_word {s : List UInt8} {v : Int} (h : opN s = 0) (hn : nameB s = false) (hr : rdS s = some v) : shapeV s = .iface 75 (.int .i64 v) := by unfold shapeV; rw [if_neg (by simp [h]), if_neg (by simp [hn]), hr]
theorem shape_none {s : List UInt8} (h : opN s = 0) (hn : nameB s = false) (hr : rdS s = none) : shapeV s = .nilIface := by unfold shapeV; rw [if_neg (by simp [h]), if_neg (by simp [hn]), hr]
theorem as_ww (v : Value) (w : World) : (Instr.typeAssert (.iface 75 v) 20 75 true).run Tryz.prog w = .ok (.tuple #[v, .bool true]) w := by kernel_rfl
theorem as_wn (v : Value) (w : World) : (Instr.typeAssert (.iface 75 v) 20 76 true).run Tryz.prog w = .ok (.tuple #[.string ⟨#[]⟩, .bool false]) w := by kernel_rfl
theorem as_wo (v : Value) (w : World) : (Instr.typeAssert (.iface 75 v) 20 77 true).run Tryz.prog w = .ok (.tuple #[.int .i64 0, .bool false]) w := by kernel_rfl
theorem as_nw (v : Value) (w : World) : (Instr.typeAssert (.iface 76 v) 20 75 true).run Tryz.prog w = .ok (.tuple #[.int .i64 0, .bool false]) w := by kernel_rfl
theorem as_nn (v : Value) (w : World) : (Instr.typeAssert (.iface 76 v) 20 76 true).run Tryz.prog w = .ok (.tuple #[v, .bool true]) w := by kernel_rfl
theorem as_no (v : Value) (w : World) : (Instr.typeAssert (.iface 76 v) 20 77 true).run Tryz.prog w = .ok (.tuple #[.int .i64 0, .bool false]) w := by kernel_rfl
theorem as_ow (v : Value) (w : World) : (Instr.typeAssert (.iface 77 v) 20 75 true).run Tryz.prog w = .ok (.tuple #[.int .i64 0, .bool false]) w := by kernel_rfl
theorem as_on (v : Value) (w : World) : (Instr.typeAssert (.iface 77 v) 20 76 true).run Tryz.prog w = .ok (.tuple #[.string ⟨#[]⟩, .bool false]) w := by kernel_rfl
theorem as_oo (v : Value) (w : World) : (Instr.typeAssert (.iface 77 v) 20 77 true).run Tryz.prog w = .ok (.tuple #[v, .bool true]) w := by kernel_rfl
theorem as_xw (w : World) : (Instr.typeAssert .nilIface 20 75 true).run Tryz.prog w = .ok (.tuple #[.int .i64 0, .bool false]) w := by kernel_rfl
theorem as_xn (w : World) : (Instr.typeAssert .nilIface 20 76 true).run Tryz.prog w = .ok (.tuple #[.string ⟨#[]⟩, .bool false]) w := by kernel_rfl
theorem as_xo (w : World) : (Instr.typeAssert .nilIface 20 77 true).run Tryz.prog w = .ok (.tuple #[.int .i64 0, .bool false]) w := by kernel_rfl
def ValLt (w : World) (v : Value) (e : Ending) (w' : World) : Prop := e = .returned v ∧ Below w.heap.size w w'
theorem ret_val {a b : Value} (h : a = b) : Ending.returned a = .returned b := by rw [h]
theorem opN_zero {s : List UInt8} (h : opN s = 0) : ¬ s = [43] ∧ ¬ s = [45] ∧ ¬ s = [42] ∧ ¬ s = [47] ∧ ¬ s = [60] ∧ ¬ s = [61] := by
  refine ⟨?_, ?_, ?_, ?_, ?_, ?_⟩ <;> (rintro rfl; simp [opN] at h)

set_option maxHeartbeats 1000000 in
theorem shape_43 (w : World) : Calls Tryz.prog 68 #[str [43]] w (ValLt w (shapeV [43])) := by
  have HE : Hid (shapeV [43] = .iface 77 (.int .i64 1)) := Lib.hid rfl
  generalize shapeV [43] = R at HE ⊢
  go_enter Tryz.func68, Tryz.ntmps68
  go_wp2_with fail
  go_ret
  exact ⟨ret_val HE.out.symm, Below.refl _ _⟩

set_option maxHeartbeats 1000000 in
theorem shape_45 (w : World) : Calls Tryz.prog 68 #[str [45]] w (ValLt w (shapeV [45])) := by
  have HE : Hid (shapeV [45] = .iface 77 (.int .i64 2)) := Lib.hid rfl
  generalize shapeV [45] = R at HE ⊢
  go_enter Tryz.func68, Tryz.ntmps68
  go_wp2_with fail
  go_ret
  exact ⟨ret_val HE.out.symm, Below.refl _ _⟩

set_option maxHeartbeats 1000000 in
theorem shape_42 (w : World) : Calls Tryz.prog 68 #[str [42]] w (ValLt w (shapeV [42])) := by
  have HE : Hid (shapeV [42] = .iface 77 (.int .i64 3)) := Lib.hid rfl
  generalize shapeV [42] = R at HE ⊢
  go_enter Tryz.func68, Tryz.ntmps68
  go_wp2_with fail
  go_ret
  exact ⟨ret_val HE.out.symm, Below.refl _ _⟩

set_option maxHeartbeats 1000000 in
theorem shape_47 (w : World) : Calls Tryz.prog 68 #[str [47]] w (ValLt w (shapeV [47])) := by
  have HE : Hid (shapeV [47] = .iface 77 (.int .i64 4)) := Lib.hid rfl
  generalize shapeV [47] = R at HE ⊢
  go_enter Tryz.func68, Tryz.ntmps68
  go_wp2_with fail
  go_ret
  exact ⟨ret_val HE.out.symm, Below.refl _ _⟩

set_option maxHeartbeats 1000000 in
theorem shape_60 (w : World) : Calls Tryz.prog 68 #[str [60]] w (ValLt w (shapeV [60])) := by
  have HE : Hid (shapeV [60] = .iface 77 (.int .i64 5)) := Lib.hid rfl
  generalize shapeV [60] = R at HE ⊢
  go_enter Tryz.func68, Tryz.ntmps68
  go_wp2_with fail
  go_ret
  exact ⟨ret_val HE.out.symm, Below.refl _ _⟩

set_option maxHeartbeats 1000000 in
theorem shape_61 (w : World) : Calls Tryz.prog 68 #[str [61]] w (ValLt w (shapeV [61])) := by
  have HE : Hid (shapeV [61] = .iface 77 (.int .i64 6)) := Lib.hid rfl
  generalize shapeV [61] = R at HE ⊢
  go_enter Tryz.func68, Tryz.ntmps68
  go_wp2_with fail
  go_ret
  exact ⟨ret_val HE.out.symm, Below.refl _ _⟩

set_option maxHeartbeats 1000000 in
theorem shape_not (s : List UInt8) (hl : s.length ≤ 1048576) (h : opN s = 0) (w : World) (V : Vars w) : Calls Tryz.prog 68 #[str s] w (ValLt w (shapeV s)) := by
  obtain ⟨h1, h2, h3, h4, h5, h6⟩ := opN_zero h
  have e1 : (s == [43]) = false := by simpa using h1
  have e2 : (s == [45]) = false := by simpa using h2
  have e3 : (s == [42]) = false := by simpa using h3
  have e4 : (s == [47]) = false := by simpa using h4
  have e5 : (s == [60]) = false := by simpa using h5
  have e6 : (s == [61]) = false := by simpa using h6
  clear h1 h2 h3 h4 h5 h6
  cases hn : nameB s
  · cases hr : rdS s with
    | none =>
      have HE := Lib.hid (shape_none h hn hr)
      have HN := Lib.hid hn
      have HR := Lib.hid hr
      generalize shapeV s = R at HE ⊢
      clear h hn hr
      go_enter Tryz.func68, Tryz.ntmps68
      go_wp2_with fail
      refine (iNameOk_any s hl _).mono ?_
      rintro e w' ⟨rfl, rfl⟩
      rw [HN.out]
      go_wp2_with fail
      refine (iReadWord_any s hl _ V).mono ?_
      rintro e w1 ⟨rfl, b1⟩
      rw [HR.out]
      go_wp2_with fail
      go_ret
      exact ⟨ret_val HE.out.symm, b1⟩
    | some v =>
      have HE := Lib.hid (shape_word h hn hr)
      have HN := Lib.hid hn
      have HR := Lib.hid hr
      generalize shapeV s = R at HE ⊢
      clear h hn hr
      go_enter Tryz.func68, Tryz.ntmps68
      go_wp2_with fail
      refine (iNameOk_any s hl _).mono ?_
      rintro e w' ⟨rfl, rfl⟩
      rw [HN.out]
      go_wp2_with fail
      refine (iReadWord_any s hl _ V).mono ?_
      rintro e w1 ⟨rfl, b1⟩
      rw [HR.out]
      go_wp2_with fail
      go_ret
      exact ⟨ret_val HE.out.symm, b1⟩
  · have HE := Lib.hid (shape_name h hn)
    have HN := Lib.hid hn
    generalize shapeV s = R at HE ⊢
    clear h hn
    go_enter Tryz.func68, Tryz.ntmps68
    go_wp2_with fail
    refine (iNameOk_any s hl _).mono ?_
    rintro e w' ⟨rfl, rfl⟩
    rw [HN.out]
    go_wp2_with fail
    go_ret
    exact ⟨ret_val HE.out.symm, Below.refl _ _⟩

theorem shape_any (s : List UInt8) (hl : s.length ≤ 1048576) (w : World) (V : Vars w) : Calls Tryz.prog 68 #[str s] w (ValLt w (shapeV s)) := by
  by_cases h1 : s = [43]
  · subst h1; exact shape_43 w
  by_cases h2 : s = [45]
  · subst h2; exact shape_45 w
  by_cases h3 : s = [42]
  · subst h3; exact shape_42 w
  by_cases h4 : s = [47]
  · subst h4; exact shape_47 w
  by_cases h5 : s = [60]
  · subst h5; exact shape_60 w
  by_cases h6 : s = [61]
  · subst h6; exact shape_61 w
  exact shape_not s hl (by unfold opN; rw [if_neg h1, if_neg h2, if_neg h3, if_neg h4, if_neg h5, if_neg h6]) w V

end Go.Proofs.YtblnonlcjfcblaaGreatDoor
