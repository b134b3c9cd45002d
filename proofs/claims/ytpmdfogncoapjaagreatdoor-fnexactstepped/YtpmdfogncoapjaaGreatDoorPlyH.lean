/- Layer 9 (the player): the table of what is done at each kind of op; does. No conditions but those typed. -/
import Derived.Test.YtpmdfogncoapjaaGreatDoorPlyG
namespace Go.Proofs.YtpmdfogncoapjaaGreatDoor
open Go.RowKit
set_option linter.unusedVariables false

theorem store_func {P : Program} (W : World) (p : Addr) (f : Nat) (h1 : (W.cell? p).isSome = true) (h2 : W.frozen? p = false) : (store p (.func (.func f) #[] #[])).run P W = .ok () (W.setCell p (.func (.func f) #[] #[])) := by
  obtain ⟨c, hc⟩ := Option.isSome_iff_exists.1 h1
  rw [run_store P W _ _ _ (by rfl), hc]
  simp [h2]

set_option maxHeartbeats 4000000 in
set_option maxRecDepth 100000 in
theorem form_1 (w : World) : Calls Tryz.prog 99 #[.int .i64 1] w fun e w' => e = .returned (.agg #[.int .i64 0, .bool false, .func (.func 135) #[] #[]]) ∧ Below w.heap.size w w' := by
  have hix : ∀ W, (Instr.index 152 (.agg #[.int .i64 0, .bool false, .nilFunc, .int .i64 0, .bool false, .func (.func 135) #[] #[], .int .i64 0, .bool false, .func (.func 136) #[] #[],
    .int .i64 2, .bool false, .func (.func 137) #[] #[], .int .i64 1, .bool false, .func (.func 138) #[] #[], .int .i64 0, .bool true, .func (.func 139) #[] #[],
    .int .i64 1, .bool true, .func (.func 140) #[] #[], .int .i64 0, .bool false, .func (.func 141) #[] #[], .int .i64 1, .bool false, .func (.func 142) #[] #[],
    .int .i64 0, .bool false, .func (.func 143) #[] #[], .int .i64 0, .bool false, .func (.func 144) #[] #[]]) (.int .i64 1)).run Tryz.prog W = .ok (.agg #[.int .i64 0, .bool false, .func (.func 135) #[] #[]]) W := fun W => by kernel_rfl
  have hst : ∀ (W : World) (p : Addr) (f : Nat), (W.cell? p).isSome = true → W.frozen? p = false → (store p (.func (.func f) #[] #[])).run Tryz.prog W = .ok () (W.setCell p (.func (.func f) #[] #[])) := fun W p f h1 h2 => store_func W p f h1 h2
  go_enter Tryz.func99, Tryz.ntmps99
  go_wp2_with fail
  exact bodyPost_ret (v := .agg #[.int .i64 0, .bool false, .func (.func 135) #[] #[]]) (by simp [results, Tryz.results99, go_sem]) rfl ⟨rfl, below_new _ _⟩

set_option maxHeartbeats 4000000 in
set_option maxRecDepth 100000 in
theorem form_2 (w : World) : Calls Tryz.prog 99 #[.int .i64 2] w fun e w' => e = .returned (.agg #[.int .i64 0, .bool false, .func (.func 136) #[] #[]]) ∧ Below w.heap.size w w' := by
  have hix : ∀ W, (Instr.index 152 (.agg #[.int .i64 0, .bool false, .nilFunc, .int .i64 0, .bool false, .func (.func 135) #[] #[], .int .i64 0, .bool false, .func (.func 136) #[] #[],
    .int .i64 2, .bool false, .func (.func 137) #[] #[], .int .i64 1, .bool false, .func (.func 138) #[] #[], .int .i64 0, .bool true, .func (.func 139) #[] #[],
    .int .i64 1, .bool true, .func (.func 140) #[] #[], .int .i64 0, .bool false, .func (.func 141) #[] #[], .int .i64 1, .bool false, .func (.func 142) #[] #[],
    .int .i64 0, .bool false, .func (.func 143) #[] #[], .int .i64 0, .bool false, .func (.func 144) #[] #[]]) (.int .i64 2)).run Tryz.prog W = .ok (.agg #[.int .i64 0, .bool false, .func (.func 136) #[] #[]]) W := fun W => by kernel_rfl
  have hst : ∀ (W : World) (p : Addr) (f : Nat), (W.cell? p).isSome = true → W.frozen? p = false → (store p (.func (.func f) #[] #[])).run Tryz.prog W = .ok () (W.setCell p (.func (.func f) #[] #[])) := fun W p f h1 h2 => store_func W p f h1 h2
  go_enter Tryz.func99, Tryz.ntmps99
  go_wp2_with fail
  exact bodyPost_ret (v := .agg #[.int .i64 0, .bool false, .func (.func 136) #[] #[]]) (by simp [results, Tryz.results99, go_sem]) rfl ⟨rfl, below_new _ _⟩

set_option maxHeartbeats 4000000 in
set_option maxRecDepth 100000 in
theorem form_3 (w : World) : Calls Tryz.prog 99 #[.int .i64 3] w fun e w' => e = .returned (.agg #[.int .i64 2, .bool false, .func (.func 137) #[] #[]]) ∧ Below w.heap.size w w' := by
  have hix : ∀ W, (Instr.index 152 (.agg #[.int .i64 0, .bool false, .nilFunc, .int .i64 0, .bool false, .func (.func 135) #[] #[], .int .i64 0, .bool false, .func (.func 136) #[] #[],
    .int .i64 2, .bool false, .func (.func 137) #[] #[], .int .i64 1, .bool false, .func (.func 138) #[] #[], .int .i64 0, .bool true, .func (.func 139) #[] #[],
    .int .i64 1, .bool true, .func (.func 140) #[] #[], .int .i64 0, .bool false, .func (.func 141) #[] #[], .int .i64 1, .bool false, .func (.func 142) #[] #[],
    .int .i64 0, .bool false, .func (.func 143) #[] #[], .int .i64 0, .bool false, .func (.func 144) #[] #[]]) (.int .i64 3)).run Tryz.prog W = .ok (.agg #[.int .i64 2, .bool false, .func (.func 137) #[] #[]]) W := fun W => by kernel_rfl
  have hst : ∀ (W : World) (p : Addr) (f : Nat), (W.cell? p).isSome = true → W.frozen? p = false → (store p (.func (.func f) #[] #[])).run Tryz.prog W = .ok () (W.setCell p (.func (.func f) #[] #[])) := fun W p f h1 h2 => store_func W p f h1 h2
  go_enter Tryz.func99, Tryz.ntmps99
  go_wp2_with fail
  exact bodyPost_ret (v := .agg #[.int .i64 2, .bool false, .func (.func 137) #[] #[]]) (by simp [results, Tryz.results99, go_sem]) rfl ⟨rfl, below_new _ _⟩

set_option maxHeartbeats 4000000 in
set_option maxRecDepth 100000 in
theorem form_4 (w : World) : Calls Tryz.prog 99 #[.int .i64 4] w fun e w' => e = .returned (.agg #[.int .i64 1, .bool false, .func (.func 138) #[] #[]]) ∧ Below w.heap.size w w' := by
  have hix : ∀ W, (Instr.index 152 (.agg #[.int .i64 0, .bool false, .nilFunc, .int .i64 0, .bool false, .func (.func 135) #[] #[], .int .i64 0, .bool false, .func (.func 136) #[] #[],
    .int .i64 2, .bool false, .func (.func 137) #[] #[], .int .i64 1, .bool false, .func (.func 138) #[] #[], .int .i64 0, .bool true, .func (.func 139) #[] #[],
    .int .i64 1, .bool true, .func (.func 140) #[] #[], .int .i64 0, .bool false, .func (.func 141) #[] #[], .int .i64 1, .bool false, .func (.func 142) #[] #[],
    .int .i64 0, .bool false, .func (.func 143) #[] #[], .int .i64 0, .bool false, .func (.func 144) #[] #[]]) (.int .i64 4)).run Tryz.prog W = .ok (.agg #[.int .i64 1, .bool false, .func (.func 138) #[] #[]]) W := fun W => by kernel_rfl
  have hst : ∀ (W : World) (p : Addr) (f : Nat), (W.cell? p).isSome = true → W.frozen? p = false → (store p (.func (.func f) #[] #[])).run Tryz.prog W = .ok () (W.setCell p (.func (.func f) #[] #[])) := fun W p f h1 h2 => store_func W p f h1 h2
  go_enter Tryz.func99, Tryz.ntmps99
  go_wp2_with fail
  exact bodyPost_ret (v := .agg #[.int .i64 1, .bool false, .func (.func 138) #[] #[]]) (by simp [results, Tryz.results99, go_sem]) rfl ⟨rfl, below_new _ _⟩

set_option maxHeartbeats 4000000 in
set_option maxRecDepth 100000 in
theorem form_5 (w : World) : Calls Tryz.prog 99 #[.int .i64 5] w fun e w' => e = .returned (.agg #[.int .i64 0, .bool true, .func (.func 139) #[] #[]]) ∧ Below w.heap.size w w' := by
  have hix : ∀ W, (Instr.index 152 (.agg #[.int .i64 0, .bool false, .nilFunc, .int .i64 0, .bool false, .func (.func 135) #[] #[], .int .i64 0, .bool false, .func (.func 136) #[] #[],
    .int .i64 2, .bool false, .func (.func 137) #[] #[], .int .i64 1, .bool false, .func (.func 138) #[] #[], .int .i64 0, .bool true, .func (.func 139) #[] #[],
    .int .i64 1, .bool true, .func (.func 140) #[] #[], .int .i64 0, .bool false, .func (.func 141) #[] #[], .int .i64 1, .bool false, .func (.func 142) #[] #[],
    .int .i64 0, .bool false, .func (.func 143) #[] #[], .int .i64 0, .bool false, .func (.func 144) #[] #[]]) (.int .i64 5)).run Tryz.prog W = .ok (.agg #[.int .i64 0, .bool true, .func (.func 139) #[] #[]]) W := fun W => by kernel_rfl
  have hst : ∀ (W : World) (p : Addr) (f : Nat), (W.cell? p).isSome = true → W.frozen? p = false → (store p (.func (.func f) #[] #[])).run Tryz.prog W = .ok () (W.setCell p (.func (.func f) #[] #[])) := fun W p f h1 h2 => store_func W p f h1 h2
  go_enter Tryz.func99, Tryz.ntmps99
  go_wp2_with fail
  exact bodyPost_ret (v := .agg #[.int .i64 0, .bool true, .func (.func 139) #[] #[]]) (by simp [results, Tryz.results99, go_sem]) rfl ⟨rfl, below_new _ _⟩

set_option maxHeartbeats 4000000 in
set_option maxRecDepth 100000 in
theorem form_6 (w : World) : Calls Tryz.prog 99 #[.int .i64 6] w fun e w' => e = .returned (.agg #[.int .i64 1, .bool true, .func (.func 140) #[] #[]]) ∧ Below w.heap.size w w' := by
  have hix : ∀ W, (Instr.index 152 (.agg #[.int .i64 0, .bool false, .nilFunc, .int .i64 0, .bool false, .func (.func 135) #[] #[], .int .i64 0, .bool false, .func (.func 136) #[] #[],
    .int .i64 2, .bool false, .func (.func 137) #[] #[], .int .i64 1, .bool false, .func (.func 138) #[] #[], .int .i64 0, .bool true, .func (.func 139) #[] #[],
    .int .i64 1, .bool true, .func (.func 140) #[] #[], .int .i64 0, .bool false, .func (.func 141) #[] #[], .int .i64 1, .bool false, .func (.func 142) #[] #[],
    .int .i64 0, .bool false, .func (.func 143) #[] #[], .int .i64 0, .bool false, .func (.func 144) #[] #[]]) (.int .i64 6)).run Tryz.prog W = .ok (.agg #[.int .i64 1, .bool true, .func (.func 140) #[] #[]]) W := fun W => by kernel_rfl
  have hst : ∀ (W : World) (p : Addr) (f : Nat), (W.cell? p).isSome = true → W.frozen? p = false → (store p (.func (.func f) #[] #[])).run Tryz.prog W = .ok () (W.setCell p (.func (.func f) #[] #[])) := fun W p f h1 h2 => store_func W p f h1 h2
  go_enter Tryz.func99, Tryz.ntmps99
  go_wp2_with fail
  exact bodyPost_ret (v := .agg #[.int .i64 1, .bool true, .func (.func 140) #[] #[]]) (by simp [results, Tryz.results99, go_sem]) rfl ⟨rfl, below_new _ _⟩

set_option maxHeartbeats 4000000 in
set_option maxRecDepth 100000 in
theorem form_7 (w : World) : Calls Tryz.prog 99 #[.int .i64 7] w fun e w' => e = .returned (.agg #[.int .i64 0, .bool false, .func (.func 141) #[] #[]]) ∧ Below w.heap.size w w' := by
  have hix : ∀ W, (Instr.index 152 (.agg #[.int .i64 0, .bool false, .nilFunc, .int .i64 0, .bool false, .func (.func 135) #[] #[], .int .i64 0, .bool false, .func (.func 136) #[] #[],
    .int .i64 2, .bool false, .func (.func 137) #[] #[], .int .i64 1, .bool false, .func (.func 138) #[] #[], .int .i64 0, .bool true, .func (.func 139) #[] #[],
    .int .i64 1, .bool true, .func (.func 140) #[] #[], .int .i64 0, .bool false, .func (.func 141) #[] #[], .int .i64 1, .bool false, .func (.func 142) #[] #[],
    .int .i64 0, .bool false, .func (.func 143) #[] #[], .int .i64 0, .bool false, .func (.func 144) #[] #[]]) (.int .i64 7)).run Tryz.prog W = .ok (.agg #[.int .i64 0, .bool false, .func (.func 141) #[] #[]]) W := fun W => by kernel_rfl
  have hst : ∀ (W : World) (p : Addr) (f : Nat), (W.cell? p).isSome = true → W.frozen? p = false → (store p (.func (.func f) #[] #[])).run Tryz.prog W = .ok () (W.setCell p (.func (.func f) #[] #[])) := fun W p f h1 h2 => store_func W p f h1 h2
  go_enter Tryz.func99, Tryz.ntmps99
  go_wp2_with fail
  exact bodyPost_ret (v := .agg #[.int .i64 0, .bool false, .func (.func 141) #[] #[]]) (by simp [results, Tryz.results99, go_sem]) rfl ⟨rfl, below_new _ _⟩

set_option maxHeartbeats 4000000 in
set_option maxRecDepth 100000 in
theorem form_8 (w : World) : Calls Tryz.prog 99 #[.int .i64 8] w fun e w' => e = .returned (.agg #[.int .i64 1, .bool false, .func (.func 142) #[] #[]]) ∧ Below w.heap.size w w' := by
  have hix : ∀ W, (Instr.index 152 (.agg #[.int .i64 0, .bool false, .nilFunc, .int .i64 0, .bool false, .func (.func 135) #[] #[], .int .i64 0, .bool false, .func (.func 136) #[] #[],
    .int .i64 2, .bool false, .func (.func 137) #[] #[], .int .i64 1, .bool false, .func (.func 138) #[] #[], .int .i64 0, .bool true, .func (.func 139) #[] #[],
    .int .i64 1, .bool true, .func (.func 140) #[] #[], .int .i64 0, .bool false, .func (.func 141) #[] #[], .int .i64 1, .bool false, .func (.func 142) #[] #[],
    .int .i64 0, .bool false, .func (.func 143) #[] #[], .int .i64 0, .bool false, .func (.func 144) #[] #[]]) (.int .i64 8)).run Tryz.prog W = .ok (.agg #[.int .i64 1, .bool false, .func (.func 142) #[] #[]]) W := fun W => by kernel_rfl
  have hst : ∀ (W : World) (p : Addr) (f : Nat), (W.cell? p).isSome = true → W.frozen? p = false → (store p (.func (.func f) #[] #[])).run Tryz.prog W = .ok () (W.setCell p (.func (.func f) #[] #[])) := fun W p f h1 h2 => store_func W p f h1 h2
  go_enter Tryz.func99, Tryz.ntmps99
  go_wp2_with fail
  exact bodyPost_ret (v := .agg #[.int .i64 1, .bool false, .func (.func 142) #[] #[]]) (by simp [results, Tryz.results99, go_sem]) rfl ⟨rfl, below_new _ _⟩

set_option maxHeartbeats 4000000 in
set_option maxRecDepth 100000 in
theorem form_9 (w : World) : Calls Tryz.prog 99 #[.int .i64 9] w fun e w' => e = .returned (.agg #[.int .i64 0, .bool false, .func (.func 143) #[] #[]]) ∧ Below w.heap.size w w' := by
  have hix : ∀ W, (Instr.index 152 (.agg #[.int .i64 0, .bool false, .nilFunc, .int .i64 0, .bool false, .func (.func 135) #[] #[], .int .i64 0, .bool false, .func (.func 136) #[] #[],
    .int .i64 2, .bool false, .func (.func 137) #[] #[], .int .i64 1, .bool false, .func (.func 138) #[] #[], .int .i64 0, .bool true, .func (.func 139) #[] #[],
    .int .i64 1, .bool true, .func (.func 140) #[] #[], .int .i64 0, .bool false, .func (.func 141) #[] #[], .int .i64 1, .bool false, .func (.func 142) #[] #[],
    .int .i64 0, .bool false, .func (.func 143) #[] #[], .int .i64 0, .bool false, .func (.func 144) #[] #[]]) (.int .i64 9)).run Tryz.prog W = .ok (.agg #[.int .i64 0, .bool false, .func (.func 143) #[] #[]]) W := fun W => by kernel_rfl
  have hst : ∀ (W : World) (p : Addr) (f : Nat), (W.cell? p).isSome = true → W.frozen? p = false → (store p (.func (.func f) #[] #[])).run Tryz.prog W = .ok () (W.setCell p (.func (.func f) #[] #[])) := fun W p f h1 h2 => store_func W p f h1 h2
  go_enter Tryz.func99, Tryz.ntmps99
  go_wp2_with fail
  exact bodyPost_ret (v := .agg #[.int .i64 0, .bool false, .func (.func 143) #[] #[]]) (by simp [results, Tryz.results99, go_sem]) rfl ⟨rfl, below_new _ _⟩

set_option maxHeartbeats 4000000 in
set_option maxRecDepth 100000 in
theorem form_10 (w : World) : Calls Tryz.prog 99 #[.int .i64 10] w fun e w' => e = .returned (.agg #[.int .i64 0, .bool false, .func (.func 144) #[] #[]]) ∧ Below w.heap.size w w' := by
  have hix : ∀ W, (Instr.index 152 (.agg #[.int .i64 0, .bool false, .nilFunc, .int .i64 0, .bool false, .func (.func 135) #[] #[], .int .i64 0, .bool false, .func (.func 136) #[] #[],
    .int .i64 2, .bool false, .func (.func 137) #[] #[], .int .i64 1, .bool false, .func (.func 138) #[] #[], .int .i64 0, .bool true, .func (.func 139) #[] #[],
    .int .i64 1, .bool true, .func (.func 140) #[] #[], .int .i64 0, .bool false, .func (.func 141) #[] #[], .int .i64 1, .bool false, .func (.func 142) #[] #[],
    .int .i64 0, .bool false, .func (.func 143) #[] #[], .int .i64 0, .bool false, .func (.func 144) #[] #[]]) (.int .i64 10)).run Tryz.prog W = .ok (.agg #[.int .i64 0, .bool false, .func (.func 144) #[] #[]]) W := fun W => by kernel_rfl
  have hst : ∀ (W : World) (p : Addr) (f : Nat), (W.cell? p).isSome = true → W.frozen? p = false → (store p (.func (.func f) #[] #[])).run Tryz.prog W = .ok () (W.setCell p (.func (.func f) #[] #[])) := fun W p f h1 h2 => store_func W p f h1 h2
  go_enter Tryz.func99, Tryz.ntmps99
  go_wp2_with fail
  exact bodyPost_ret (v := .agg #[.int .i64 0, .bool false, .func (.func 144) #[] #[]]) (by simp [results, Tryz.results99, go_sem]) rfl ⟨rfl, below_new _ _⟩

end Go.Proofs.YtpmdfogncoapjaaGreatDoor
