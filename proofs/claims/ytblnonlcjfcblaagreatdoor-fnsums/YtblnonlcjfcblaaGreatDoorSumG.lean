/- slices.Backward at []string: what it hands back, and what that feeds to a loop. No conditions but those typed. -/
import Derived.Test.YtblnonlcjfcblaaGreatDoorRangeN
import Derived.Test.YtblnonlcjfcblaaGreatDoorSumA
namespace Go.Proofs.YtblnonlcjfcblaaGreatDoor
open Go.RowKit
set_option linter.unusedVariables false
attribute [local go_sem] Oper.semAt_some

set_option maxHeartbeats 1000000 in
/-- slices.Backward(s): the slice lies in a box, which the function value has. -/
theorem backward_any (a : Option Addr) (len cap : Nat) (w : World) : Calls Tryz.prog 107 #[.slice a len cap] w fun e w' =>
    e = .returned (.func (.func 133) #[] #[.pointer (some ⟨w.heap.size, 0, none⟩)]) ∧ w' = w.alloc (.cells #[.slice a len cap] 22) := by
  go_enter Tryz.func107, Tryz.ntmps107
  go_wp2_with fail
  go_ret
  exact ⟨rfl, rfl⟩

/-- What round k is handed: place and text, the last one first. -/
def backArg (ss : List (List UInt8)) (k : Nat) : Array Value := #[.int .i64 ((ss.length : Int) - 1 - k), str (ss.getD (ss.length - 1 - k) [])]
/-- What a round keeps: what lies below n₀, and the box b. -/
def KeepBox (n₀ b : Nat) (X Y : World) : Prop := Below n₀ X Y ∧ ∀ v, Boxed X b 22 v → Boxed Y b 22 v
theorem KeepBox.refl (n₀ b : Nat) (X : World) : KeepBox n₀ b X X := ⟨Below.refl _ _, fun _ h => h⟩
theorem KeepBox.trans {n₀ b : Nat} {X Y Z : World} (h : KeepBox n₀ b X Y) (k : KeepBox n₀ b Y Z) : KeepBox n₀ b X Z := ⟨h.1.trans k.1, fun v q => k.2 v (h.2 v q)⟩

set_option maxRecDepth 100000 in
set_option maxHeartbeats 2000000 in
theorem backward_feeds (n : Nat) (hn : 1 ≤ n) (ss : List (List UInt8)) (hlen : ss.length ≤ 1048576) (b n₀ : Nat) (v : Value) (w : World) (hb : Boxed w b 22 v) (hs : SeeV w n₀ v (ss.map str)) (hn₀ : n₀ ≤ w.heap.size) :
    Feeds n Tryz.prog 133 #[.pointer (some ⟨b, 0, none⟩)] ss.length (backArg ss) (KeepBox n₀ b) w := by
  intro l J Jx W hW hY h0
  obtain ⟨A, c, rfl⟩ := strs_shape hs
  have hbW : Boxed W b 22 (.slice A ss.length c) := (hW.block b hb.lt).trans hb
  have hsW := hs.below (hW.mono hn₀)
  have hc0 := hbW.cell
  refine callsIn_of_wp Tryz.func133 rfl trivial ?_ rfl
  simp only [Tryz.ntmps133, List.size_toArray, List.length_cons, List.length_nil, Nat.reduceAdd, Nat.reduceSub, Array.replicate_succ, Array.replicate_zero, List.push_toArray, List.append_toArray, List.nil_append, List.cons_append]
  gi_wp2
  gi_loopw [3] (fun i wr => ∃ k : Nat, k ≤ ss.length ∧ i = .int .i64 ((ss.length : Int) - 1 - k) ∧ J k wr ∧ KeepBox n₀ b W wr) (fun i _ => (intOf i + 1).toNat)
  case atStart => exact ⟨0, Nat.zero_le _, by go_num, h0, KeepBox.refl _ _ _⟩
  case round =>
    obtain ⟨k, hk, rfl, hJ, hK⟩ := hrel
    have hc1 := (hK.2 _ hbW).cell
    by_cases hlt : k < ss.length
    · have hi : ss.length - 1 - k < ss.length := by omega
      have hx := List.getElem?_eq_getElem hi
      obtain ⟨fn, tmps, assign, body, hy, hR⟩ := hY k wr hlt hJ
      unfold backArg at hy
      rw [List.getD_eq_getElem?_getD, hx, Option.getD_some] at hy
      generalize ss[ss.length - 1 - k]'(_) = x at hx hy
      obtain ⟨g, o, rfl, -, hcx⟩ := strs_at (hsW.below hK.1) hx
      have hz : (ss.length : Int) - 1 - k = ((ss.length - 1 - k : Nat) : Int) := by omega
      rw [hz] at hy ⊢
      generalize hm : ss.length - 1 - k = m at *
      have HM := Lib.hid hm
      clear hm hx hz
      gi_wp2
      refine hR.mono ?_
      rintro e W3 (⟨rfl, hJ3, hk3⟩ | ⟨rfl, hJx3⟩)
      · gi_wp2
        go_roundw
        case rel => exact ⟨k + 1, by omega, by have := HM.out; go_num, hJ3, hK.trans hk3⟩
        case measure => simp [intOf]
      · gi_wp2
        refine bodyPost_ret (results_none rfl _ _ _) rfl ?_
        exact ⟨⟨_, rfl⟩, .inr hJx3⟩
    · obtain rfl : k = ss.length := by omega
      have hneg : (ss.length : Int) - 1 - (ss.length : Int) = -1 := by omega
      rw [hneg]
      gi_wp2
      go_end0
      exact ⟨⟨_, rfl⟩, .inl hJ⟩

end Go.Proofs.YtblnonlcjfcblaaGreatDoor
