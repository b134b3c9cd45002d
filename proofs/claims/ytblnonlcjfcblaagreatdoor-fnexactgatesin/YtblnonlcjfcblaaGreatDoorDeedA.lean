/- Layer 7 (plays): the model's l7Gate and l7Sign. No conditions but those typed. -/
import Derived.Test.YtblnonlcjfcblaaGreatDoorDeedN
import Derived.Test.YtblnonlcjfcblaaGreatDoorSumB
import Derived.Test.YtblnonlcjfcblaaGreatDoorWordN
namespace Go.Proofs.YtblnonlcjfcblaaGreatDoor
open Go.RowKit
set_option linter.unusedVariables false

def gatesL : List Txt := [[48], [49], [50], [51]]
def gateI (s : Txt) : Int := match gateN s with
  | some g => (g : Int)
  | none => -1
theorem gateI_idx (s : Txt) : gateI s = idxS gatesL s 0 := by
  unfold gateI gateN gatesL
  simp only [idxS, eq_comm (a := s)]
  repeat' split
  all_goals simp_all
  all_goals omega
theorem gateI_some {s : Txt} {g : Nat} (h : gateN s = some g) : gateI s = (g : Int) := by unfold gateI; rw [h]
theorem gateI_none {s : Txt} (h : gateN s = none) : gateI s = -1 := by unfold gateI; rw [h]

set_option maxHeartbeats 1000000 in
theorem l7Gate_any (s : Txt) (w : World) : Calls Tryz.prog 84 #[str s] w (IntLt w (gateI s)) := by
  have HO := Lib.hid (gateI_idx s)
  go_enter Tryz.func84, Tryz.ntmps84
  go_wp2_with fail
  have bA : Below w.heap.size w (w.alloc (.cells #[str [48], str [49], str [50], str [51]] 9)) := (Below.refl _ w).alloc (Nat.le_refl _) _
  have hs : SeeV (w.alloc (.cells #[str [48], str [49], str [50], str [51]] 9)) (w.heap.size + 1) (.slice (some ⟨w.heap.size, 0, none⟩) 4 4) (gatesL.map str) := by
    refine ⟨by decide, _, _, rfl, by simp [gatesL], fun k x hx => ⟨_, _, rfl, by omega, ?_⟩⟩
    rw [Nat.zero_add, cell_of_row _ _ k _ _ (0, 0) (heap_alloc_new _ _)]
    rw [← hx]
    simp [gatesL]
  refine (l1At_any _ _ gatesL s _ hs).mono ?_
  rintro e w' ⟨rfl, rfl⟩
  generalize idxS gatesL s 0 = z at HO ⊢
  go_wp2_with fail
  go_ret
  exact ⟨ret_int HO.out.symm, bA⟩

def sgI7 (ss : List Txt) (a : Int) : Txt := if a < 0 then [] else sg7 ss a.toNat
theorem sgI7_nat (ss : List Txt) (k : Nat) : sgI7 ss (k : Int) = sg7 ss k := by unfold sgI7; rw [if_neg (by omega), Int.toNat_natCast]
theorem sgI7_neg {ss : List Txt} {a : Int} (h : a < 0) : sgI7 ss a = [] := by unfold sgI7; rw [if_pos h]
def TxtIs (w : World) (s : Txt) (e : Ending) (w' : World) : Prop := e = .returned (str s) ∧ w = w'
theorem ret_txt {a b : Txt} (h : a = b) : Ending.returned (str a) = .returned (str b) := by rw [h]

set_option maxHeartbeats 1000000 in
theorem l7Sign_any (B : Nat) (v : Value) (ss : List Txt) (a : Int) (w : World) (h : SeeV w B v (ss.map str)) (hn : ss.length ≤ 1048576) :
    Calls Tryz.prog 83 #[v, .int .i64 a] w (TxtIs w (sgI7 ss a)) := by
  obtain ⟨A, c, e⟩ := strs_shape h
  subst e
  by_cases ha : a < 0
  · have HE := Lib.hid (sgI7_neg (ss := ss) ha)
    go_enter Tryz.func83, Tryz.ntmps83
    go_wp2_with fail
    go_ret
    exact ⟨ret_txt HE.out.symm, rfl⟩
  · obtain ⟨k, rfl⟩ : ∃ k : Nat, a = k := ⟨a.toNat, by omega⟩
    by_cases hk : k < ss.length
    · have hx := List.getElem?_eq_getElem hk
      generalize ss[k] = x at hx
      have HE : Hid (sgI7 ss (k : Int) = x) := Lib.hid (by rw [sgI7_nat, sg7_some hx])
      obtain ⟨g, o, rfl, -, hc⟩ := strs_at h hx
      clear hx h
      go_enter Tryz.func83, Tryz.ntmps83
      go_wp2_with fail
      go_ret
      exact ⟨ret_txt HE.out.symm, rfl⟩
    · have HE : Hid (sgI7 ss (k : Int) = []) := Lib.hid (by rw [sgI7_nat, sg7_out (by omega)])
      clear h
      go_enter Tryz.func83, Tryz.ntmps83
      go_wp2_with fail
      go_ret
      exact ⟨ret_txt HE.out.symm, rfl⟩

end Go.Proofs.YtblnonlcjfcblaaGreatDoor
