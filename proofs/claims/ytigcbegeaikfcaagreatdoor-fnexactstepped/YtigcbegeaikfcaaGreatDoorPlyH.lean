/- Layer 9 (the player): the table of what is done at each kind of op; does. No conditions but those typed. Layer 9 (the player): does: one op. No conditions but those typed. Layer 9 (the player): does, whatever the op. No conditions but those typed. -/
import Derived.Test.YtigcbegeaikfcaaGreatDoorPlyC
namespace Go.Proofs.YtigcbegeaikfcaaGreatDoor
open Go.RowKit
set_option linter.unusedVariables false

theorem store_func {P : Program} (W : World) (p : Addr) (f : Nat) (h1 : (W.cell? p).isSome = true) (h2 : W.frozen? p = false) : (store p (.func (.func f) #[] #[])).run P W = .ok () (W.setCell p (.func (.func f) #[] #[])) := by
  obtain ⟨c, hc⟩ := Option.isSome_iff_exists.1 h1
  rw [run_store P W _ _ _ (by rfl), hc]
  simp [h2]

set_option maxHeartbeats 4000000 in
set_option maxRecDepth 100000 in
theorem form_1 (w : World) : Calls Tryz.prog 99 #[.int .i64 1] w fun e w' => e = .returned (.agg #[.int .i64 0, .bool false, .func (.func 135) #[] #[]]) ∧ Below w.heap.size w w' := by
  have hix : ∀ W, (Instr.index 152 (.agg #[.int .i64 0, .bool false, .nilFunc, .int .i64 0, .bool false, .func (.func 135) #[] #[], .int .i64 0, .bool false, .func (.func 136) #[] #[],
    .int .i64 2, .bool false, .func (.func 137) #[] #[], .int .i64 1, .bool false, .func (.func 138) #[] #[], .int .i64 0, .bool true, .func (.func 139) #[] #[],
    .int .i64 1, .bool true, .func (.func 140) #[] #[], .int .i64 0, .bool false, .func (.func 141) #[] #[], .int .i64 1, .bool false, .func (.func 142) #[] #[],
    .int .i64 0, .bool false, .func (.func 143) #[] #[], .int .i64 0, .bool false, .func (.func 144) #[] #[]]) (.int .i64 1)).run Tryz.prog W = .ok (.agg #[.int .i64 0, .bool false, .func (.func 135) #[] #[]]) W := fun W => by kernel_rfl
  have hst : ∀ (W : World) (p : Addr) (f : Nat), (W.cell? p).isSome = true → W.frozen? p = false → (store p (.func (.func f) #[] #[])).run Tryz.prog W = .ok () (W.setCell p (.func (.func f) #[] #[])) := fun W p f h1 h2 => store_func W p f h1 h2
  go_enter Tryz.func99, Tryz.ntmps99
  go_wp2_with fail
  exact bodyPost_ret (v := .agg #[.int .i64 0, .bool false, .func (.func 135) #[] #[]]) (by simp [results, Tryz.results99, go_sem]) rfl ⟨rfl, below_new _ _⟩

set_option maxHeartbeats 4000000 in
set_option maxRecDepth 100000 in
theorem form_2 (w : World) : Calls Tryz.prog 99 #[.int .i64 2] w fun e w' => e = .returned (.agg #[.int .i64 0, .bool false, .func (.func 136) #[] #[]]) ∧ Below w.heap.size w w' := by
  have hix : ∀ W, (Instr.index 152 (.agg #[.int .i64 0, .bool false, .nilFunc, .int .i64 0, .bool false, .func (.func 135) #[] #[], .int .i64 0, .bool false, .func (.func 136) #[] #[],
    .int .i64 2, .bool false, .func (.func 137) #[] #[], .int .i64 1, .bool false, .func (.func 138) #[] #[], .int .i64 0, .bool true, .func (.func 139) #[] #[],
    .int .i64 1, .bool true, .func (.func 140) #[] #[], .int .i64 0, .bool false, .func (.func 141) #[] #[], .int .i64 1, .bool false, .func (.func 142) #[] #[],
    .int .i64 0, .bool false, .func (.func 143) #[] #[], .int .i64 0, .bool false, .func (.func 144) #[] #[]]) (.int .i64 2)).run Tryz.prog W = .ok (.agg #[.int .i64 0, .bool false, .func (.func 136) #[] #[]]) W := fun W => by kernel_rfl
  have hst : ∀ (W : World) (p : Addr) (f : Nat), (W.cell? p).isSome = true → W.frozen? p = false → (store p (.func (.func f) #[] #[])).run Tryz.prog W = .ok () (W.setCell p (.func (.func f) #[] #[])) := fun W p f h1 h2 => store_func W p f h1 h2
  go_enter Tryz.func99, Tryz.ntmps99
  go_wp2_with fail
  exact bodyPost_ret (v := .agg #[.int .i64 0, .bool false, .func (.func 136) #[] #[]]) (by simp [results, Tryz.results99, go_sem]) rfl ⟨rfl, below_new _ _⟩

set_option maxHeartbeats 4000000 in
set_option maxRecDepth 100000 in
theorem form_3 (w : World) : Calls Tryz.prog 99 #[.int .i64 3] w fun e w' => e = .returned (.agg #[.int .i64 2, .bool false, .func (.func 137) #[] #[]]) ∧ Below w.heap.size w w' := by
  have hix : ∀ W, (Instr.index 152 (.agg #[.int .i64 0, .bool false, .nilFunc, .int .i64 0, .bool false, .func (.func 135) #[] #[], .int .i64 0, .bool false, .func (.func 136) #[] #[],
    .int .i64 2, .bool false, .func (.func 137) #[] #[], .int .i64 1, .bool false, .func (.func 138) #[] #[], .int .i64 0, .bool true, .func (.func 139) #[] #[],
    .int .i64 1, .bool true, .func (.func 140) #[] #[], .int .i64 0, .bool false, .func (.func 141) #[] #[], .int .i64 1, .bool false, .func (.func 142) #[] #[],
    .int .i64 0, .bool false, .func (.func 143) #[] #[], .int .i64 0, .bool false, .func (.func 144) #[] #[]]) (.int .i64 3)).run Tryz.prog W = .ok (.agg #[.int .i64 2, .bool false, .func (.func 137) #[] #[]]) W := fun W => by kernel_rfl
  have hst : ∀ (W : World) (p : Addr) (f : Nat), (W.cell? p).isSome = true → W.frozen? p = false → (store p (.func (.func f) #[] #[])).run Tryz.prog W = .ok () (W.setCell p (.func (.func f) #[] #[])) := fun W p f h1 h2 => store_func W p f h1 h2
  go_enter Tryz.func99, Tryz.ntmps99
  go_wp2_with fail
  exact bodyPost_ret (v := .agg #[.int .i64 2, .bool false, .func (.func 137) #[] #[]]) (by simp [results, Tryz.results99, go_sem]) rfl ⟨rfl, below_new _ _⟩

set_option maxHeartbeats 4000000 in
set_option maxRecDepth 100000 in
theorem form_4 (w : World) : Calls Tryz.prog 99 #[.int .i64 4] w fun e w' => e = .returned (.agg #[.int .i64 1, .bool false, .func (.func 138) #[] #[]]) ∧ Below w.heap.size w w' := by
  have hix : ∀ W, (Instr.index 152 (.agg #[.int .i64 0, .bool false, .nilFunc, .int .i64 0, .bool false, .func (.func 135) #[] #[], .int .i64 0, .bool false, .func (.func 136) #[] #[],
    .int .i64 2, .bool false, .func (.func 137) #[] #[], .int .i64 1, .bool false, .func (.func 138) #[] #[], .int .i64 0, .bool true, .func (.func 139) #[] #[],
    .int .i64 1, .bool true, .func (.func 140) #[] #[], .int .i64 0, .bool false, .func (.func 141) #[] #[], .int .i64 1, .bool false, .func (.func 142) #[] #[],
    .int .i64 0, .bool false, .func (.func 143) #[] #[], .int .i64 0, .bool false, .func (.func 144) #[] #[]]) (.int .i64 4)).run Tryz.prog W = .ok (.agg #[.int .i64 1, .bool false, .func (.func 138) #[] #[]]) W := fun W => by kernel_rfl
  have hst : ∀ (W : World) (p : Addr) (f : Nat), (W.cell? p).isSome = true → W.frozen? p = false → (store p (.func (.func f) #[] #[])).run Tryz.prog W = .ok () (W.setCell p (.func (.func f) #[] #[])) := fun W p f h1 h2 => store_func W p f h1 h2
  go_enter Tryz.func99, Tryz.ntmps99
  go_wp2_with fail
  exact bodyPost_ret (v := .agg #[.int .i64 1, .bool false, .func (.func 138) #[] #[]]) (by simp [results, Tryz.results99, go_sem]) rfl ⟨rfl, below_new _ _⟩

set_option maxHeartbeats 4000000 in
set_option maxRecDepth 100000 in
theorem form_5 (w : World) : Calls Tryz.prog 99 #[.int .i64 5] w fun e w' => e = .returned (.agg #[.int .i64 0, .bool true, .func (.func 139) #[] #[]]) ∧ Below w.heap.size w w' := by
  have hix : ∀ W, (Instr.index 152 (.agg #[.int .i64 0, .bool false, .nilFunc, .int .i64 0, .bool false, .func (.func 135) #[] #[], .int .i64 0, .bool false, .func (.func 136) #[] #[],
    .int .i64 2, .bool false, .func (.func 137) #[] #[], .int .i64 1, .bool false, .func (.func 138) #[] #[], .int .i64 0, .bool true, .func (.func 139) #[] #[],
    .int .i64 1, .bool true, .func (.func 140) #[] #[], .int .i64 0, .bool false, .func (.func 141) #[] #[], .int .i64 1, .bool false, .func (.func 142) #[] #[],
    .int .i64 0, .bool false, .func (.func 143) #[] #[], .int .i64 0, .bool false, .func (.func 144) #[] #[]]) (.int .i64 5)).run Tryz.prog W = .ok (.agg #[.int .i64 0, .bool true, .func (.func 139) #[] #[]]) W := fun W => by kernel_rfl
  have hst : ∀ (W : World) (p : Addr) (f : Nat), (W.cell? p).isSome = true → W.frozen? p = false → (store p (.func (.func f) #[] #[])).run Tryz.prog W = .ok () (W.setCell p (.func (.func f) #[] #[])) := fun W p f h1 h2 => store_func W p f h1 h2
  go_enter Tryz.func99, Tryz.ntmps99
  go_wp2_with fail
  exact bodyPost_ret (v := .agg #[.int .i64 0, .bool true, .func (.func 139) #[] #[]]) (by simp [results, Tryz.results99, go_sem]) rfl ⟨rfl, below_new _ _⟩

set_option maxHeartbeats 4000000 in
set_option maxRecDepth 100000 in
theorem form_6 (w : World) : Calls Tryz.prog 99 #[.int .i64 6] w fun e w' => e = .returned (.agg #[.int .i64 1, .bool true, .func (.func 140) #[] #[]]) ∧ Below w.heap.size w w' := by
  have hix : ∀ W, (Instr.index 152 (.agg #[.int .i64 0, .bool false, .nilFunc, .int .i64 0, .bool false, .func (.func 135) #[] #[], .int .i64 0, .bool false, .func (.func 136) #[] #[],
    .int .i64 2, .bool false, .func (.func 137) #[] #[], .int .i64 1, .bool false, .func (.func 138) #[] #[], .int .i64 0, .bool true, .func (.func 139) #[] #[],
    .int .i64 1, .bool true, .func (.func 140) #[] #[], .int .i64 0, .bool false, .func (.func 141) #[] #[], .int .i64 1, .bool false, .func (.func 142) #[] #[],
    .int .i64 0, .bool false, .func (.func 143) #[] #[], .int .i64 0, .bool false, .func (.func 144) #[] #[]]) (.int .i64 6)).run Tryz.prog W = .ok (.agg #[.int .i64 1, .bool true, .func (.func 140) #[] #[]]) W := fun W => by kernel_rfl
  have hst : ∀ (W : World) (p : Addr) (f : Nat), (W.cell? p).isSome = true → W.frozen? p = false → (store p (.func (.func f) #[] #[])).run Tryz.prog W = .ok () (W.setCell p (.func (.func f) #[] #[])) := fun W p f h1 h2 => store_func W p f h1 h2
  go_enter Tryz.func99, Tryz.ntmps99
  go_wp2_with fail
  exact bodyPost_ret (v := .agg #[.int .i64 1, .bool true, .func (.func 140) #[] #[]]) (by simp [results, Tryz.results99, go_sem]) rfl ⟨rfl, below_new _ _⟩

set_option maxHeartbeats 4000000 in
set_option maxRecDepth 100000 in
theorem form_7 (w : World) : Calls Tryz.prog 99 #[.int .i64 7] w fun e w' => e = .returned (.agg #[.int .i64 0, .bool false, .func (.func 141) #[] #[]]) ∧ Below w.heap.size w w' := by
  have hix : ∀ W, (Instr.index 152 (.agg #[.int .i64 0, .bool false, .nilFunc, .int .i64 0, .bool false, .func (.func 135) #[] #[], .int .i64 0, .bool false, .func (.func 136) #[] #[],
    .int .i64 2, .bool false, .func (.func 137) #[] #[], .int .i64 1, .bool false, .func (.func 138) #[] #[], .int .i64 0, .bool true, .func (.func 139) #[] #[],
    .int .i64 1, .bool true, .func (.func 140) #[] #[], .int .i64 0, .bool false, .func (.func 141) #[] #[], .int .i64 1, .bool false, .func (.func 142) #[] #[],
    .int .i64 0, .bool false, .func (.func 143) #[] #[], .int .i64 0, .bool false, .func (.func 144) #[] #[]]) (.int .i64 7)).run Tryz.prog W = .ok (.agg #[.int .i64 0, .bool false, .func (.func 141) #[] #[]]) W := fun W => by kernel_rfl
  have hst : ∀ (W : World) (p : Addr) (f : Nat), (W.cell? p).isSome = true → W.frozen? p = false → (store p (.func (.func f) #[] #[])).run Tryz.prog W = .ok () (W.setCell p (.func (.func f) #[] #[])) := fun W p f h1 h2 => store_func W p f h1 h2
  go_enter Tryz.func99, Tryz.ntmps99
  go_wp2_with fail
  exact bodyPost_ret (v := .agg #[.int .i64 0, .bool false, .func (.func 141) #[] #[]]) (by simp [results, Tryz.results99, go_sem]) rfl ⟨rfl, below_new _ _⟩

set_option maxHeartbeats 4000000 in
set_option maxRecDepth 100000 in
theorem form_8 (w : World) : Calls Tryz.prog 99 #[.int .i64 8] w fun e w' => e = .returned (.agg #[.int .i64 1, .bool false, .func (.func 142) #[] #[]]) ∧ Below w.heap.size w w' := by
  have hix : ∀ W, (Instr.index 152 (.agg #[.int .i64 0, .bool false, .nilFunc, .int .i64 0, .bool false, .func (.func 135) #[] #[], .int .i64 0, .bool false, .func (.func 136) #[] #[],
    .int .i64 2, .bool false, .func (.func 137) #[] #[], .int .i64 1, .bool false, .func (.func 138) #[] #[], .int .i64 0, .bool true, .func (.func 139) #[] #[],
    .int .i64 1, .bool true, .func (.func 140) #[] #[], .int .i64 0, .bool false, .func (.func 141) #[] #[], .int .i64 1, .bool false, .func (.func 142) #[] #[],
    .int .i64 0, .bool false, .func (.func 143) #[] #[], .int .i64 0, .bool false, .func (.func 144) #[] #[]]) (.int .i64 8)).run Tryz.prog W = .ok (.agg #[.int .i64 1, .bool false, .func (.func 142) #[] #[]]) W := fun W => by kernel_rfl
  have hst : ∀ (W : World) (p : Addr) (f : Nat), (W.cell? p).isSome = true → W.frozen? p = false → (store p (.func (.func f) #[] #[])).run Tryz.prog W = .ok () (W.setCell p (.func (.func f) #[] #[])) := fun W p f h1 h2 => store_func W p f h1 h2
  go_enter Tryz.func99, Tryz.ntmps99
  go_wp2_with fail
  exact bodyPost_ret (v := .agg #[.int .i64 1, .bool false, .func (.func 142) #[] #[]]) (by simp [results, Tryz.results99, go_sem]) rfl ⟨rfl, below_new _ _⟩

set_option maxHeartbeats 4000000 in
set_option maxRecDepth 100000 in
theorem form_9 (w : World) : Calls Tryz.prog 99 #[.int .i64 9] w fun e w' => e = .returned (.agg #[.int .i64 0, .bool false, .func (.func 143) #[] #[]]) ∧ Below w.heap.size w w' := by
  have hix : ∀ W, (Instr.index 152 (.agg #[.int .i64 0, .bool false, .nilFunc, .int .i64 0, .bool false, .func (.func 135) #[] #[], .int .i64 0, .bool false, .func (.func 136) #[] #[],
    .int .i64 2, .bool false, .func (.func 137) #[] #[], .int .i64 1, .bool false, .func (.func 138) #[] #[], .int .i64 0, .bool true, .func (.func 139) #[] #[],
    .int .i64 1, .bool true, .func (.func 140) #[] #[], .int .i64 0, .bool false, .func (.func 141) #[] #[], .int .i64 1, .bool false, .func (.func 142) #[] #[],
    .int .i64 0, .bool false, .func (.func 143) #[] #[], .int .i64 0, .bool false, .func (.func 144) #[] #[]]) (.int .i64 9)).run Tryz.prog W = .ok (.agg #[.int .i64 0, .bool false, .func (.func 143) #[] #[]]) W := fun W => by kernel_rfl
  have hst : ∀ (W : World) (p : Addr) (f : Nat), (W.cell? p).isSome = true → W.frozen? p = false → (store p (.func (.func f) #[] #[])).run Tryz.prog W = .ok () (W.setCell p (.func (.func f) #[] #[])) := fun W p f h1 h2 => store_func W p f h1 h2
  go_enter Tryz.func99, Tryz.ntmps99
  go_wp2_with fail
  exact bodyPost_ret (v := .agg #[.int .i64 0, .bool false, .func (.func 143) #[] #[]]) (by simp [results, Tryz.results99, go_sem]) rfl ⟨rfl, below_new _ _⟩

set_option maxHeartbeats 4000000 in
set_option maxRecDepth 100000 in
theorem form_10 (w : World) : Calls Tryz.prog 99 #[.int .i64 10] w fun e w' => e = .returned (.agg #[.int .i64 0, .bool false, .func (.func 144) #[] #[]]) ∧ Below w.heap.size w w' := by
  have hix : ∀ W, (Instr.index 152 (.agg #[.int .i64 0, .bool false, .nilFunc, .int .i64 0, .bool false, .func (.func 135) #[] #[], .int .i64 0, .bool false, .func (.func 136) #[] #[],
    .int .i64 2, .bool false, .func (.func 137) #[] #[], .int .i64 1, .bool false, .func (.func 138) #[] #[], .int .i64 0, .bool true, .func (.func 139) #[] #[],
    .int .i64 1, .bool true, .func (.func 140) #[] #[], .int .i64 0, .bool false, .func (.func 141) #[] #[], .int .i64 1, .bool false, .func (.func 142) #[] #[],
    .int .i64 0, .bool false, .func (.func 143) #[] #[], .int .i64 0, .bool false, .func (.func 144) #[] #[]]) (.int .i64 10)).run Tryz.prog W = .ok (.agg #[.int .i64 0, .bool false, .func (.func 144) #[] #[]]) W := fun W => by kernel_rfl
  have hst : ∀ (W : World) (p : Addr) (f : Nat), (W.cell? p).isSome = true → W.frozen? p = false → (store p (.func (.func f) #[] #[])).run Tryz.prog W = .ok () (W.setCell p (.func (.func f) #[] #[])) := fun W p f h1 h2 => store_func W p f h1 h2
  go_enter Tryz.func99, Tryz.ntmps99
  go_wp2_with fail
  exact bodyPost_ret (v := .agg #[.int .i64 0, .bool false, .func (.func 144) #[] #[]]) (by simp [results, Tryz.results99, go_sem]) rfl ⟨rfl, below_new _ _⟩

end Go.Proofs.YtigcbegeaikfcaaGreatDoor

namespace Go.Proofs.YtigcbegeaikfcaaGreatDoor
open Go.RowKit
set_option linter.unusedVariables false

theorem DoOut.since {B N : Nat} {vs : Value} {st : St} {w W w' : World} {e : Ending} (h : DoOut B N vs st W e w') (b : Below B w W) : DoOut B N vs st w e w' := ⟨h.1, b.trans h.2.1, h.2.2⟩
theorem DoOut.ret {B N : Nat} {vs : Value} {st : St} {w w' : World} {e : Ending} (h : DoOut B N vs st w e w') : e = .returned (.int .i64 st.c.cd) := h.1

theorem Pl.only {w w' : World} {B N : Nat} {st : St} {vs u1 u2 u3 : Value} {S : Nat → Prop} (h : Pl w B N st vs u1 u2 u3) (on : Only S w w') (hS : ∀ g, g < w.heap.size → ¬ S g) : Pl w' B N st vs u1 u2 u3 :=
  ⟨(on.block _ h.lt (hS _ h.lt)).trans h.blk, h.own.only on (fun g q => hS g (h.own.lt g q).2), h.hB, h.no⟩

set_option maxHeartbeats 8000000 in
set_option maxRecDepth 100000 in
theorem does_go_1
(B N : Nat) (x m : Int) (s : List UInt8) (As : Option Addr) (cs : Nat) (u1 u2 u3 : Value) (zs : List Int) (bs : List Bx) (rs : List Int) (ss : List (List Int)) (w : World) (h : Pl w B N (onS ⟨x, zs, bs, rs, 0⟩) (.slice As ss.length cs) u1 u2 u3) (hx : 0 ≤ x ∧ x ≤ 300) (hzl : zs.length ≤ 60)
    (hz : 0 ≤ zs.length) (hgg : True) (st : St)
    (HM : ∀ W, Pl W B N (onS ⟨x + 1, zs, bs, rs, 0⟩) (.slice As ss.length cs) u1 u2 u3 → Below B w W → Calls Tryz.prog 135 #[.pointer (some ⟨N, 0, none⟩), .agg #[.int .i64 1, .int .i64 m, str s]] W (DoOut B N (.slice As ss.length cs) st W)) :
    Calls Tryz.prog 47 #[.pointer (some ⟨N, 0, none⟩), .agg #[.int .i64 1, .int .i64 m, str s]] w (DoOut B N (.slice As ss.length cs) st w) := by
  obtain ⟨A1, c1, e1⟩ := h.own.o1.see.shape
  dsimp only [onS] at e1
  subst e1
  have hN := h.lt
  have hB := h.hB
  have hBw : B ≤ w.heap.size := by omega
  have bA := below_new w (.cells #[.int .i64 1, .int .i64 m, str s] 41)
  have HA := Lib.hid (h.later bA)
  have HO := Lib.hid (heap_alloc_new w (.cells #[.int .i64 1, .int .i64 m, str s] 41))
  have HBA := Lib.hid (bA.mono hBw)
  have HBW := Lib.hid hBw
  clear bA hBw h
  obtain ⟨hx0, hx1⟩ := hx
  have hst : ∀ (W : World) (p : Addr) (f : Nat), (W.cell? p).isSome = true → W.frozen? p = false → (store p (.func (.func f) #[] #[])).run Tryz.prog W = .ok () (W.setCell p (.func (.func f) #[] #[])) := fun W p f h1 h2 => store_func W p f h1 h2
  go_enter Tryz.func47, Tryz.ntmps47
  go_upto_region 1 with fail
  generalize hW : w.alloc _ = W at *
  have HSZ := Lib.hid (show W.heap.size = w.heap.size + 1 by rw [← hW]; simp)
  clear hW
  obtain ⟨o0, o1, o2⟩ := cells3 HO.out
  go_upto_region 2 with (go_at_call 99; refine (form_1 W).mono ?_; rintro e w1 ⟨rfl, b1⟩)
  generalize hV : w1.alloc _ = V
  have HF := Lib.hid (show V.heap[w1.heap.size]? = some (.cells #[.int .i64 0, .bool false, .func (.func 135) #[] #[]] 124 (0, 0)) from by rw [← hV]; exact heap_alloc_new _ _)
  have hon : Only (fun g => g = w1.heap.size) w1 V := by rw [← hV]; exact Only.of_below (below_new _ _)
  have hs1 := b1.size
  have HP := Lib.hid ((HA.out.later b1).only hon (fun g q e => by omega))
  have HO2 := Lib.hid ((hon.block _ (Nat.lt_of_lt_of_le (heap_lt HO.out) hs1) (by have := heap_lt HO.out; omega)).trans (row_later HO.out b1))
  have HB2 := Lib.hid (HBA.out.trans ((b1.mono (by have := HSZ.out; have := HBW.out; omega)).trans (hon.below (by have := HSZ.out; have := HBW.out; omega) (fun g e => by have := HSZ.out; have := HBW.out; omega))))
  have HFN := Lib.hid (show N < w1.heap.size by have := HSZ.out; omega)
  clear hV hon o0 o1 o2 b1 HA HO HBA hs1
  generalize w1.heap.size = F at *
  obtain ⟨o0, o1, o2⟩ := cells3 HO2.out
  obtain ⟨f0, f1, f2⟩ := cells3 HF.out
  obtain ⟨p0, p1, p2, p3, p4, p5, p6, p7, p8⟩ := cells9 HP.out.blk
  dsimp only [onS] at p0 p1 p2 p3 p4 p5 p6 p7 p8
  have hf5 : V.frozen? ⟨N, 0, none⟩ = false := frozen_row HP.out.blk
  have hz2 : ¬ ((zs.length : Int) < 0) := by omega
  have hw1 : IntKind.i64.wrap (x + 1) = x + 1 := by rw [IntKind.wrap_i64]; omega
  skip
  go_quiet (fail)
  go_upto_region 3 with fail
  go_quiet (fail)
  go_upto_region 5 with fail
  clear o0 o1 o2 f0 f1 f2 p0 p1 p2 p3 p4 p5 p6 p7 p8 hf5
  generalize hQ : World.drewN _ _ = V2
  have HP2 := Lib.hid (show Pl V2 B N (onS ⟨x, zs, bs, rs, 0⟩) (.slice As ss.length cs) (.slice A1 zs.length c1) u2 u3 from by rw [← hQ]; first | exact (HP.out.drewN _).drewN _ | exact HP.out.drewN _ | exact HP.out)
  have HF2 := Lib.hid (show V2.heap[F]? = some (.cells #[.int .i64 0, .bool false, .func (.func 135) #[] #[]] 124 (0, 0)) from by rw [← hQ]; exact HF.out)
  have HO3 := Lib.hid (show V2.heap[w.heap.size]? = some (.cells #[.int .i64 1, .int .i64 m, str s] 41 (0, 0)) from by rw [← hQ]; exact HO2.out)
  have HB3 := Lib.hid (show Below B w V2 from by rw [← hQ]; first | exact below_drewN (below_drewN HB2.out _) _ | exact below_drewN HB2.out _ | exact HB2.out)
  clear hQ HP HF HO2 HB2
  obtain ⟨p0, p1, p2, p3, p4, p5, p6, p7, p8⟩ := cells9 HP2.out.blk
  dsimp only [onS] at p0 p1 p2 p3 p4 p5 p6 p7 p8
  have hf5 : V2.frozen? ⟨N, 0, none⟩ = false := frozen_row HP2.out.blk
  go_upto_region 6 with fail
  generalize hQ : World.setCell _ _ _ = V3
  have HP3 := Lib.hid (show Pl V3 B N (onS ⟨x + 1, zs, bs, rs, 0⟩) (.slice As ss.length cs) (.slice A1 zs.length c1) u2 u3 from by rw [← hQ]; exact HP2.out.at _)
  have HF3 := Lib.hid (show V3.heap[F]? = some (.cells #[.int .i64 0, .bool false, .func (.func 135) #[] #[]] 124 (0, 0)) from by rw [← hQ, Below.heap_setCell _ _ _ _ (by have := HFN.out; show F ≠ N; omega)]; exact HF2.out)
  have HO4 := Lib.hid (show V3.heap[w.heap.size]? = some (.cells #[.int .i64 1, .int .i64 m, str s] 41 (0, 0)) from by rw [← hQ, Below.heap_setCell _ _ _ _ (by show w.heap.size ≠ N; omega)]; exact HO3.out)
  have HB4 := Lib.hid (show Below B w V3 from by rw [← hQ]; exact HB3.out.setCell hB _)
  clear hQ HP2 HF2 HO3 HB3 p0 p1 p2 p3 p4 p5 p6 p7 p8 hf5
  obtain ⟨o0, o1, o2⟩ := cells3 HO4.out
  obtain ⟨f0, f1, f2⟩ := cells3 HF3.out
  go_wp2_with fail
  refine (HM V3 HP3.out HB4.out).mono ?_
  intro e w5 hd
  obtain rfl := hd.ret
  go_wp2_with fail
  go_ret
  exact hd.since HB4.out

set_option maxHeartbeats 8000000 in
set_option maxRecDepth 100000 in
theorem does_go_2
(B N : Nat) (x m : Int) (s : List UInt8) (As : Option Addr) (cs : Nat) (u1 u2 u3 : Value) (zs : List Int) (bs : List Bx) (rs : List Int) (ss : List (List Int)) (w : World) (h : Pl w B N (onS ⟨x, zs, bs, rs, 0⟩) (.slice As ss.length cs) u1 u2 u3) (hx : 0 ≤ x ∧ x ≤ 300) (hzl : zs.length ≤ 60)
    (hz : 0 ≤ zs.length) (hgg : True) (st : St)
    (HM : ∀ W, Pl W B N (onS ⟨x + 1, zs, bs, rs, 0⟩) (.slice As ss.length cs) u1 u2 u3 → Below B w W → Calls Tryz.prog 136 #[.pointer (some ⟨N, 0, none⟩), .agg #[.int .i64 2, .int .i64 m, str s]] W (DoOut B N (.slice As ss.length cs) st W)) :
    Calls Tryz.prog 47 #[.pointer (some ⟨N, 0, none⟩), .agg #[.int .i64 2, .int .i64 m, str s]] w (DoOut B N (.slice As ss.length cs) st w) := by
  obtain ⟨A1, c1, e1⟩ := h.own.o1.see.shape
  dsimp only [onS] at e1
  subst e1
  have hN := h.lt
  have hB := h.hB
  have hBw : B ≤ w.heap.size := by omega
  have bA := below_new w (.cells #[.int .i64 2, .int .i64 m, str s] 41)
  have HA := Lib.hid (h.later bA)
  have HO := Lib.hid (heap_alloc_new w (.cells #[.int .i64 2, .int .i64 m, str s] 41))
  have HBA := Lib.hid (bA.mono hBw)
  have HBW := Lib.hid hBw
  clear bA hBw h
  obtain ⟨hx0, hx1⟩ := hx
  have hst : ∀ (W : World) (p : Addr) (f : Nat), (W.cell? p).isSome = true → W.frozen? p = false → (store p (.func (.func f) #[] #[])).run Tryz.prog W = .ok () (W.setCell p (.func (.func f) #[] #[])) := fun W p f h1 h2 => store_func W p f h1 h2
  go_enter Tryz.func47, Tryz.ntmps47
  go_upto_region 1 with fail
  generalize hW : w.alloc _ = W at *
  have HSZ := Lib.hid (show W.heap.size = w.heap.size + 1 by rw [← hW]; simp)
  clear hW
  obtain ⟨o0, o1, o2⟩ := cells3 HO.out
  go_upto_region 2 with (go_at_call 99; refine (form_2 W).mono ?_; rintro e w1 ⟨rfl, b1⟩)
  generalize hV : w1.alloc _ = V
  have HF := Lib.hid (show V.heap[w1.heap.size]? = some (.cells #[.int .i64 0, .bool false, .func (.func 136) #[] #[]] 124 (0, 0)) from by rw [← hV]; exact heap_alloc_new _ _)
  have hon : Only (fun g => g = w1.heap.size) w1 V := by rw [← hV]; exact Only.of_below (below_new _ _)
  have hs1 := b1.size
  have HP := Lib.hid ((HA.out.later b1).only hon (fun g q e => by omega))
  have HO2 := Lib.hid ((hon.block _ (Nat.lt_of_lt_of_le (heap_lt HO.out) hs1) (by have := heap_lt HO.out; omega)).trans (row_later HO.out b1))
  have HB2 := Lib.hid (HBA.out.trans ((b1.mono (by have := HSZ.out; have := HBW.out; omega)).trans (hon.below (by have := HSZ.out; have := HBW.out; omega) (fun g e => by have := HSZ.out; have := HBW.out; omega))))
  have HFN := Lib.hid (show N < w1.heap.size by have := HSZ.out; omega)
  clear hV hon o0 o1 o2 b1 HA HO HBA hs1
  generalize w1.heap.size = F at *
  obtain ⟨o0, o1, o2⟩ := cells3 HO2.out
  obtain ⟨f0, f1, f2⟩ := cells3 HF.out
  obtain ⟨p0, p1, p2, p3, p4, p5, p6, p7, p8⟩ := cells9 HP.out.blk
  dsimp only [onS] at p0 p1 p2 p3 p4 p5 p6 p7 p8
  have hf5 : V.frozen? ⟨N, 0, none⟩ = false := frozen_row HP.out.blk
  have hz2 : ¬ ((zs.length : Int) < 0) := by omega
  have hw1 : IntKind.i64.wrap (x + 1) = x + 1 := by rw [IntKind.wrap_i64]; omega
  skip
  go_quiet (fail)
  go_upto_region 3 with fail
  go_quiet (fail)
  go_upto_region 5 with fail
  clear o0 o1 o2 f0 f1 f2 p0 p1 p2 p3 p4 p5 p6 p7 p8 hf5
  generalize hQ : World.drewN _ _ = V2
  have HP2 := Lib.hid (show Pl V2 B N (onS ⟨x, zs, bs, rs, 0⟩) (.slice As ss.length cs) (.slice A1 zs.length c1) u2 u3 from by rw [← hQ]; first | exact (HP.out.drewN _).drewN _ | exact HP.out.drewN _ | exact HP.out)
  have HF2 := Lib.hid (show V2.heap[F]? = some (.cells #[.int .i64 0, .bool false, .func (.func 136) #[] #[]] 124 (0, 0)) from by rw [← hQ]; exact HF.out)
  have HO3 := Lib.hid (show V2.heap[w.heap.size]? = some (.cells #[.int .i64 2, .int .i64 m, str s] 41 (0, 0)) from by rw [← hQ]; exact HO2.out)
  have HB3 := Lib.hid (show Below B w V2 from by rw [← hQ]; first | exact below_drewN (below_drewN HB2.out _) _ | exact below_drewN HB2.out _ | exact HB2.out)
  clear hQ HP HF HO2 HB2
  obtain ⟨p0, p1, p2, p3, p4, p5, p6, p7, p8⟩ := cells9 HP2.out.blk
  dsimp only [onS] at p0 p1 p2 p3 p4 p5 p6 p7 p8
  have hf5 : V2.frozen? ⟨N, 0, none⟩ = false := frozen_row HP2.out.blk
  go_upto_region 6 with fail
  generalize hQ : World.setCell _ _ _ = V3
  have HP3 := Lib.hid (show Pl V3 B N (onS ⟨x + 1, zs, bs, rs, 0⟩) (.slice As ss.length cs) (.slice A1 zs.length c1) u2 u3 from by rw [← hQ]; exact HP2.out.at _)
  have HF3 := Lib.hid (show V3.heap[F]? = some (.cells #[.int .i64 0, .bool false, .func (.func 136) #[] #[]] 124 (0, 0)) from by rw [← hQ, Below.heap_setCell _ _ _ _ (by have := HFN.out; show F ≠ N; omega)]; exact HF2.out)
  have HO4 := Lib.hid (show V3.heap[w.heap.size]? = some (.cells #[.int .i64 2, .int .i64 m, str s] 41 (0, 0)) from by rw [← hQ, Below.heap_setCell _ _ _ _ (by show w.heap.size ≠ N; omega)]; exact HO3.out)
  have HB4 := Lib.hid (show Below B w V3 from by rw [← hQ]; exact HB3.out.setCell hB _)
  clear hQ HP2 HF2 HO3 HB3 p0 p1 p2 p3 p4 p5 p6 p7 p8 hf5
  obtain ⟨o0, o1, o2⟩ := cells3 HO4.out
  obtain ⟨f0, f1, f2⟩ := cells3 HF3.out
  go_wp2_with fail
  refine (HM V3 HP3.out HB4.out).mono ?_
  intro e w5 hd
  obtain rfl := hd.ret
  go_wp2_with fail
  go_ret
  exact hd.since HB4.out

set_option maxHeartbeats 8000000 in
set_option maxRecDepth 100000 in
theorem does_go_3
(B N : Nat) (x m : Int) (s : List UInt8) (As : Option Addr) (cs : Nat) (u1 u2 u3 : Value) (zs : List Int) (bs : List Bx) (rs : List Int) (ss : List (List Int)) (w : World) (h : Pl w B N (onS ⟨x, zs, bs, rs, 0⟩) (.slice As ss.length cs) u1 u2 u3) (hx : 0 ≤ x ∧ x ≤ 300) (hzl : zs.length ≤ 60)
    (hz : 2 ≤ zs.length) (hgg : True) (st : St)
    (HM : ∀ W, Pl W B N (onS ⟨x + 1, zs, bs, rs, 0⟩) (.slice As ss.length cs) u1 u2 u3 → Below B w W → Calls Tryz.prog 137 #[.pointer (some ⟨N, 0, none⟩), .agg #[.int .i64 3, .int .i64 m, str s]] W (DoOut B N (.slice As ss.length cs) st W)) :
    Calls Tryz.prog 47 #[.pointer (some ⟨N, 0, none⟩), .agg #[.int .i64 3, .int .i64 m, str s]] w (DoOut B N (.slice As ss.length cs) st w) := by
  obtain ⟨A1, c1, e1⟩ := h.own.o1.see.shape
  dsimp only [onS] at e1
  subst e1
  have hN := h.lt
  have hB := h.hB
  have hBw : B ≤ w.heap.size := by omega
  have bA := below_new w (.cells #[.int .i64 3, .int .i64 m, str s] 41)
  have HA := Lib.hid (h.later bA)
  have HO := Lib.hid (heap_alloc_new w (.cells #[.int .i64 3, .int .i64 m, str s] 41))
  have HBA := Lib.hid (bA.mono hBw)
  have HBW := Lib.hid hBw
  clear bA hBw h
  obtain ⟨hx0, hx1⟩ := hx
  have hst : ∀ (W : World) (p : Addr) (f : Nat), (W.cell? p).isSome = true → W.frozen? p = false → (store p (.func (.func f) #[] #[])).run Tryz.prog W = .ok () (W.setCell p (.func (.func f) #[] #[])) := fun W p f h1 h2 => store_func W p f h1 h2
  go_enter Tryz.func47, Tryz.ntmps47
  go_upto_region 1 with fail
  generalize hW : w.alloc _ = W at *
  have HSZ := Lib.hid (show W.heap.size = w.heap.size + 1 by rw [← hW]; simp)
  clear hW
  obtain ⟨o0, o1, o2⟩ := cells3 HO.out
  go_upto_region 2 with (go_at_call 99; refine (form_3 W).mono ?_; rintro e w1 ⟨rfl, b1⟩)
  generalize hV : w1.alloc _ = V
  have HF := Lib.hid (show V.heap[w1.heap.size]? = some (.cells #[.int .i64 2, .bool false, .func (.func 137) #[] #[]] 124 (0, 0)) from by rw [← hV]; exact heap_alloc_new _ _)
  have hon : Only (fun g => g = w1.heap.size) w1 V := by rw [← hV]; exact Only.of_below (below_new _ _)
  have hs1 := b1.size
  have HP := Lib.hid ((HA.out.later b1).only hon (fun g q e => by omega))
  have HO2 := Lib.hid ((hon.block _ (Nat.lt_of_lt_of_le (heap_lt HO.out) hs1) (by have := heap_lt HO.out; omega)).trans (row_later HO.out b1))
  have HB2 := Lib.hid (HBA.out.trans ((b1.mono (by have := HSZ.out; have := HBW.out; omega)).trans (hon.below (by have := HSZ.out; have := HBW.out; omega) (fun g e => by have := HSZ.out; have := HBW.out; omega))))
  have HFN := Lib.hid (show N < w1.heap.size by have := HSZ.out; omega)
  clear hV hon o0 o1 o2 b1 HA HO HBA hs1
  generalize w1.heap.size = F at *
  obtain ⟨o0, o1, o2⟩ := cells3 HO2.out
  obtain ⟨f0, f1, f2⟩ := cells3 HF.out
  obtain ⟨p0, p1, p2, p3, p4, p5, p6, p7, p8⟩ := cells9 HP.out.blk
  dsimp only [onS] at p0 p1 p2 p3 p4 p5 p6 p7 p8
  have hf5 : V.frozen? ⟨N, 0, none⟩ = false := frozen_row HP.out.blk
  have hz2 : ¬ ((zs.length : Int) < 2) := by omega
  have hw1 : IntKind.i64.wrap (x + 1) = x + 1 := by rw [IntKind.wrap_i64]; omega
  skip
  go_quiet (fail)
  go_upto_region 3 with fail
  go_quiet (fail)
  go_upto_region 5 with fail
  clear o0 o1 o2 f0 f1 f2 p0 p1 p2 p3 p4 p5 p6 p7 p8 hf5
  generalize hQ : World.drewN _ _ = V2
  have HP2 := Lib.hid (show Pl V2 B N (onS ⟨x, zs, bs, rs, 0⟩) (.slice As ss.length cs) (.slice A1 zs.length c1) u2 u3 from by rw [← hQ]; first | exact (HP.out.drewN _).drewN _ | exact HP.out.drewN _ | exact HP.out)
  have HF2 := Lib.hid (show V2.heap[F]? = some (.cells #[.int .i64 2, .bool false, .func (.func 137) #[] #[]] 124 (0, 0)) from by rw [← hQ]; exact HF.out)
  have HO3 := Lib.hid (show V2.heap[w.heap.size]? = some (.cells #[.int .i64 3, .int .i64 m, str s] 41 (0, 0)) from by rw [← hQ]; exact HO2.out)
  have HB3 := Lib.hid (show Below B w V2 from by rw [← hQ]; first | exact below_drewN (below_drewN HB2.out _) _ | exact below_drewN HB2.out _ | exact HB2.out)
  clear hQ HP HF HO2 HB2
  obtain ⟨p0, p1, p2, p3, p4, p5, p6, p7, p8⟩ := cells9 HP2.out.blk
  dsimp only [onS] at p0 p1 p2 p3 p4 p5 p6 p7 p8
  have hf5 : V2.frozen? ⟨N, 0, none⟩ = false := frozen_row HP2.out.blk
  go_upto_region 6 with fail
  generalize hQ : World.setCell _ _ _ = V3
  have HP3 := Lib.hid (show Pl V3 B N (onS ⟨x + 1, zs, bs, rs, 0⟩) (.slice As ss.length cs) (.slice A1 zs.length c1) u2 u3 from by rw [← hQ]; exact HP2.out.at _)
  have HF3 := Lib.hid (show V3.heap[F]? = some (.cells #[.int .i64 2, .bool false, .func (.func 137) #[] #[]] 124 (0, 0)) from by rw [← hQ, Below.heap_setCell _ _ _ _ (by have := HFN.out; show F ≠ N; omega)]; exact HF2.out)
  have HO4 := Lib.hid (show V3.heap[w.heap.size]? = some (.cells #[.int .i64 3, .int .i64 m, str s] 41 (0, 0)) from by rw [← hQ, Below.heap_setCell _ _ _ _ (by show w.heap.size ≠ N; omega)]; exact HO3.out)
  have HB4 := Lib.hid (show Below B w V3 from by rw [← hQ]; exact HB3.out.setCell hB _)
  clear hQ HP2 HF2 HO3 HB3 p0 p1 p2 p3 p4 p5 p6 p7 p8 hf5
  obtain ⟨o0, o1, o2⟩ := cells3 HO4.out
  obtain ⟨f0, f1, f2⟩ := cells3 HF3.out
  go_wp2_with fail
  refine (HM V3 HP3.out HB4.out).mono ?_
  intro e w5 hd
  obtain rfl := hd.ret
  go_wp2_with fail
  go_ret
  exact hd.since HB4.out

set_option maxHeartbeats 8000000 in
set_option maxRecDepth 100000 in
theorem does_go_4
(B N : Nat) (x m : Int) (s : List UInt8) (As : Option Addr) (cs : Nat) (u1 u2 u3 : Value) (zs : List Int) (bs : List Bx) (rs : List Int) (ss : List (List Int)) (w : World) (h : Pl w B N (onS ⟨x, zs, bs, rs, 0⟩) (.slice As ss.length cs) u1 u2 u3) (hx : 0 ≤ x ∧ x ≤ 300) (hzl : zs.length ≤ 60)
    (hz : 1 ≤ zs.length) (hgg : True) (st : St)
    (HM : ∀ W, Pl W B N (onS ⟨x + 1, zs, bs, rs, 0⟩) (.slice As ss.length cs) u1 u2 u3 → Below B w W → Calls Tryz.prog 138 #[.pointer (some ⟨N, 0, none⟩), .agg #[.int .i64 4, .int .i64 m, str s]] W (DoOut B N (.slice As ss.length cs) st W)) :
    Calls Tryz.prog 47 #[.pointer (some ⟨N, 0, none⟩), .agg #[.int .i64 4, .int .i64 m, str s]] w (DoOut B N (.slice As ss.length cs) st w) := by
  obtain ⟨A1, c1, e1⟩ := h.own.o1.see.shape
  dsimp only [onS] at e1
  subst e1
  have hN := h.lt
  have hB := h.hB
  have hBw : B ≤ w.heap.size := by omega
  have bA := below_new w (.cells #[.int .i64 4, .int .i64 m, str s] 41)
  have HA := Lib.hid (h.later bA)
  have HO := Lib.hid (heap_alloc_new w (.cells #[.int .i64 4, .int .i64 m, str s] 41))
  have HBA := Lib.hid (bA.mono hBw)
  have HBW := Lib.hid hBw
  clear bA hBw h
  obtain ⟨hx0, hx1⟩ := hx
  have hst : ∀ (W : World) (p : Addr) (f : Nat), (W.cell? p).isSome = true → W.frozen? p = false → (store p (.func (.func f) #[] #[])).run Tryz.prog W = .ok () (W.setCell p (.func (.func f) #[] #[])) := fun W p f h1 h2 => store_func W p f h1 h2
  go_enter Tryz.func47, Tryz.ntmps47
  go_upto_region 1 with fail
  generalize hW : w.alloc _ = W at *
  have HSZ := Lib.hid (show W.heap.size = w.heap.size + 1 by rw [← hW]; simp)
  clear hW
  obtain ⟨o0, o1, o2⟩ := cells3 HO.out
  go_upto_region 2 with (go_at_call 99; refine (form_4 W).mono ?_; rintro e w1 ⟨rfl, b1⟩)
  generalize hV : w1.alloc _ = V
  have HF := Lib.hid (show V.heap[w1.heap.size]? = some (.cells #[.int .i64 1, .bool false, .func (.func 138) #[] #[]] 124 (0, 0)) from by rw [← hV]; exact heap_alloc_new _ _)
  have hon : Only (fun g => g = w1.heap.size) w1 V := by rw [← hV]; exact Only.of_below (below_new _ _)
  have hs1 := b1.size
  have HP := Lib.hid ((HA.out.later b1).only hon (fun g q e => by omega))
  have HO2 := Lib.hid ((hon.block _ (Nat.lt_of_lt_of_le (heap_lt HO.out) hs1) (by have := heap_lt HO.out; omega)).trans (row_later HO.out b1))
  have HB2 := Lib.hid (HBA.out.trans ((b1.mono (by have := HSZ.out; have := HBW.out; omega)).trans (hon.below (by have := HSZ.out; have := HBW.out; omega) (fun g e => by have := HSZ.out; have := HBW.out; omega))))
  have HFN := Lib.hid (show N < w1.heap.size by have := HSZ.out; omega)
  clear hV hon o0 o1 o2 b1 HA HO HBA hs1
  generalize w1.heap.size = F at *
  obtain ⟨o0, o1, o2⟩ := cells3 HO2.out
  obtain ⟨f0, f1, f2⟩ := cells3 HF.out
  obtain ⟨p0, p1, p2, p3, p4, p5, p6, p7, p8⟩ := cells9 HP.out.blk
  dsimp only [onS] at p0 p1 p2 p3 p4 p5 p6 p7 p8
  have hf5 : V.frozen? ⟨N, 0, none⟩ = false := frozen_row HP.out.blk
  have hz2 : ¬ ((zs.length : Int) < 1) := by omega
  have hw1 : IntKind.i64.wrap (x + 1) = x + 1 := by rw [IntKind.wrap_i64]; omega
  skip
  go_quiet (fail)
  go_upto_region 3 with fail
  go_quiet (fail)
  go_upto_region 5 with fail
  clear o0 o1 o2 f0 f1 f2 p0 p1 p2 p3 p4 p5 p6 p7 p8 hf5
  generalize hQ : World.drewN _ _ = V2
  have HP2 := Lib.hid (show Pl V2 B N (onS ⟨x, zs, bs, rs, 0⟩) (.slice As ss.length cs) (.slice A1 zs.length c1) u2 u3 from by rw [← hQ]; first | exact (HP.out.drewN _).drewN _ | exact HP.out.drewN _ | exact HP.out)
  have HF2 := Lib.hid (show V2.heap[F]? = some (.cells #[.int .i64 1, .bool false, .func (.func 138) #[] #[]] 124 (0, 0)) from by rw [← hQ]; exact HF.out)
  have HO3 := Lib.hid (show V2.heap[w.heap.size]? = some (.cells #[.int .i64 4, .int .i64 m, str s] 41 (0, 0)) from by rw [← hQ]; exact HO2.out)
  have HB3 := Lib.hid (show Below B w V2 from by rw [← hQ]; first | exact below_drewN (below_drewN HB2.out _) _ | exact below_drewN HB2.out _ | exact HB2.out)
  clear hQ HP HF HO2 HB2
  obtain ⟨p0, p1, p2, p3, p4, p5, p6, p7, p8⟩ := cells9 HP2.out.blk
  dsimp only [onS] at p0 p1 p2 p3 p4 p5 p6 p7 p8
  have hf5 : V2.frozen? ⟨N, 0, none⟩ = false := frozen_row HP2.out.blk
  go_upto_region 6 with fail
  generalize hQ : World.setCell _ _ _ = V3
  have HP3 := Lib.hid (show Pl V3 B N (onS ⟨x + 1, zs, bs, rs, 0⟩) (.slice As ss.length cs) (.slice A1 zs.length c1) u2 u3 from by rw [← hQ]; exact HP2.out.at _)
  have HF3 := Lib.hid (show V3.heap[F]? = some (.cells #[.int .i64 1, .bool false, .func (.func 138) #[] #[]] 124 (0, 0)) from by rw [← hQ, Below.heap_setCell _ _ _ _ (by have := HFN.out; show F ≠ N; omega)]; exact HF2.out)
  have HO4 := Lib.hid (show V3.heap[w.heap.size]? = some (.cells #[.int .i64 4, .int .i64 m, str s] 41 (0, 0)) from by rw [← hQ, Below.heap_setCell _ _ _ _ (by show w.heap.size ≠ N; omega)]; exact HO3.out)
  have HB4 := Lib.hid (show Below B w V3 from by rw [← hQ]; exact HB3.out.setCell hB _)
  clear hQ HP2 HF2 HO3 HB3 p0 p1 p2 p3 p4 p5 p6 p7 p8 hf5
  obtain ⟨o0, o1, o2⟩ := cells3 HO4.out
  obtain ⟨f0, f1, f2⟩ := cells3 HF3.out
  go_wp2_with fail
  refine (HM V3 HP3.out HB4.out).mono ?_
  intro e w5 hd
  obtain rfl := hd.ret
  go_wp2_with fail
  go_ret
  exact hd.since HB4.out

set_option maxHeartbeats 8000000 in
set_option maxRecDepth 100000 in
theorem does_go_5
(B N : Nat) (x m : Int) (s : List UInt8) (As : Option Addr) (cs : Nat) (u1 u2 u3 : Value) (zs : List Int) (bs : List Bx) (rs : List Int) (ss : List (List Int)) (w : World) (h : Pl w B N (onS ⟨x, zs, bs, rs, 0⟩) (.slice As ss.length cs) u1 u2 u3) (hx : 0 ≤ x ∧ x ≤ 300) (hzl : zs.length ≤ 60)
    (hz : 0 ≤ zs.length) (hgg : m < (ss.length : Int)) (st : St)
    (HM : ∀ W, Pl W B N (onS ⟨x + 1, zs, bs, rs, 0⟩) (.slice As ss.length cs) u1 u2 u3 → Below B w W → Calls Tryz.prog 139 #[.pointer (some ⟨N, 0, none⟩), .agg #[.int .i64 5, .int .i64 m, str s]] W (DoOut B N (.slice As ss.length cs) st W)) :
    Calls Tryz.prog 47 #[.pointer (some ⟨N, 0, none⟩), .agg #[.int .i64 5, .int .i64 m, str s]] w (DoOut B N (.slice As ss.length cs) st w) := by
  obtain ⟨A1, c1, e1⟩ := h.own.o1.see.shape
  dsimp only [onS] at e1
  subst e1
  have hN := h.lt
  have hB := h.hB
  have hBw : B ≤ w.heap.size := by omega
  have bA := below_new w (.cells #[.int .i64 5, .int .i64 m, str s] 41)
  have HA := Lib.hid (h.later bA)
  have HO := Lib.hid (heap_alloc_new w (.cells #[.int .i64 5, .int .i64 m, str s] 41))
  have HBA := Lib.hid (bA.mono hBw)
  have HBW := Lib.hid hBw
  clear bA hBw h
  obtain ⟨hx0, hx1⟩ := hx
  have hst : ∀ (W : World) (p : Addr) (f : Nat), (W.cell? p).isSome = true → W.frozen? p = false → (store p (.func (.func f) #[] #[])).run Tryz.prog W = .ok () (W.setCell p (.func (.func f) #[] #[])) := fun W p f h1 h2 => store_func W p f h1 h2
  go_enter Tryz.func47, Tryz.ntmps47
  go_upto_region 1 with fail
  generalize hW : w.alloc _ = W at *
  have HSZ := Lib.hid (show W.heap.size = w.heap.size + 1 by rw [← hW]; simp)
  clear hW
  obtain ⟨o0, o1, o2⟩ := cells3 HO.out
  go_upto_region 2 with (go_at_call 99; refine (form_5 W).mono ?_; rintro e w1 ⟨rfl, b1⟩)
  generalize hV : w1.alloc _ = V
  have HF := Lib.hid (show V.heap[w1.heap.size]? = some (.cells #[.int .i64 0, .bool true, .func (.func 139) #[] #[]] 124 (0, 0)) from by rw [← hV]; exact heap_alloc_new _ _)
  have hon : Only (fun g => g = w1.heap.size) w1 V := by rw [← hV]; exact Only.of_below (below_new _ _)
  have hs1 := b1.size
  have HP := Lib.hid ((HA.out.later b1).only hon (fun g q e => by omega))
  have HO2 := Lib.hid ((hon.block _ (Nat.lt_of_lt_of_le (heap_lt HO.out) hs1) (by have := heap_lt HO.out; omega)).trans (row_later HO.out b1))
  have HB2 := Lib.hid (HBA.out.trans ((b1.mono (by have := HSZ.out; have := HBW.out; omega)).trans (hon.below (by have := HSZ.out; have := HBW.out; omega) (fun g e => by have := HSZ.out; have := HBW.out; omega))))
  have HFN := Lib.hid (show N < w1.heap.size by have := HSZ.out; omega)
  clear hV hon o0 o1 o2 b1 HA HO HBA hs1
  generalize w1.heap.size = F at *
  obtain ⟨o0, o1, o2⟩ := cells3 HO2.out
  obtain ⟨f0, f1, f2⟩ := cells3 HF.out
  obtain ⟨p0, p1, p2, p3, p4, p5, p6, p7, p8⟩ := cells9 HP.out.blk
  dsimp only [onS] at p0 p1 p2 p3 p4 p5 p6 p7 p8
  have hf5 : V.frozen? ⟨N, 0, none⟩ = false := frozen_row HP.out.blk
  have hz2 : ¬ ((zs.length : Int) < 0) := by omega
  have hw1 : IntKind.i64.wrap (x + 1) = x + 1 := by rw [IntKind.wrap_i64]; omega
  have hgg2 : ¬ ((ss.length : Int) ≤ m) := by omega
  go_quiet (fail)
  go_upto_region 3 with fail
  go_quiet (fail)
  go_upto_region 5 with fail
  clear o0 o1 o2 f0 f1 f2 p0 p1 p2 p3 p4 p5 p6 p7 p8 hf5
  generalize hQ : World.drewN _ _ = V2
  have HP2 := Lib.hid (show Pl V2 B N (onS ⟨x, zs, bs, rs, 0⟩) (.slice As ss.length cs) (.slice A1 zs.length c1) u2 u3 from by rw [← hQ]; first | exact (HP.out.drewN _).drewN _ | exact HP.out.drewN _ | exact HP.out)
  have HF2 := Lib.hid (show V2.heap[F]? = some (.cells #[.int .i64 0, .bool true, .func (.func 139) #[] #[]] 124 (0, 0)) from by rw [← hQ]; exact HF.out)
  have HO3 := Lib.hid (show V2.heap[w.heap.size]? = some (.cells #[.int .i64 5, .int .i64 m, str s] 41 (0, 0)) from by rw [← hQ]; exact HO2.out)
  have HB3 := Lib.hid (show Below B w V2 from by rw [← hQ]; first | exact below_drewN (below_drewN HB2.out _) _ | exact below_drewN HB2.out _ | exact HB2.out)
  clear hQ HP HF HO2 HB2
  obtain ⟨p0, p1, p2, p3, p4, p5, p6, p7, p8⟩ := cells9 HP2.out.blk
  dsimp only [onS] at p0 p1 p2 p3 p4 p5 p6 p7 p8
  have hf5 : V2.frozen? ⟨N, 0, none⟩ = false := frozen_row HP2.out.blk
  go_upto_region 6 with fail
  generalize hQ : World.setCell _ _ _ = V3
  have HP3 := Lib.hid (show Pl V3 B N (onS ⟨x + 1, zs, bs, rs, 0⟩) (.slice As ss.length cs) (.slice A1 zs.length c1) u2 u3 from by rw [← hQ]; exact HP2.out.at _)
  have HF3 := Lib.hid (show V3.heap[F]? = some (.cells #[.int .i64 0, .bool true, .func (.func 139) #[] #[]] 124 (0, 0)) from by rw [← hQ, Below.heap_setCell _ _ _ _ (by have := HFN.out; show F ≠ N; omega)]; exact HF2.out)
  have HO4 := Lib.hid (show V3.heap[w.heap.size]? = some (.cells #[.int .i64 5, .int .i64 m, str s] 41 (0, 0)) from by rw [← hQ, Below.heap_setCell _ _ _ _ (by show w.heap.size ≠ N; omega)]; exact HO3.out)
  have HB4 := Lib.hid (show Below B w V3 from by rw [← hQ]; exact HB3.out.setCell hB _)
  clear hQ HP2 HF2 HO3 HB3 p0 p1 p2 p3 p4 p5 p6 p7 p8 hf5
  obtain ⟨o0, o1, o2⟩ := cells3 HO4.out
  obtain ⟨f0, f1, f2⟩ := cells3 HF3.out
  go_wp2_with fail
  refine (HM V3 HP3.out HB4.out).mono ?_
  intro e w5 hd
  obtain rfl := hd.ret
  go_wp2_with fail
  go_ret
  exact hd.since HB4.out

set_option maxHeartbeats 8000000 in
set_option maxRecDepth 100000 in
theorem does_go_6
(B N : Nat) (x m : Int) (s : List UInt8) (As : Option Addr) (cs : Nat) (u1 u2 u3 : Value) (zs : List Int) (bs : List Bx) (rs : List Int) (ss : List (List Int)) (w : World) (h : Pl w B N (onS ⟨x, zs, bs, rs, 0⟩) (.slice As ss.length cs) u1 u2 u3) (hx : 0 ≤ x ∧ x ≤ 300) (hzl : zs.length ≤ 60)
    (hz : 1 ≤ zs.length) (hgg : m < (ss.length : Int)) (st : St)
    (HM : ∀ W, Pl W B N (onS ⟨x + 1, zs, bs, rs, 0⟩) (.slice As ss.length cs) u1 u2 u3 → Below B w W → Calls Tryz.prog 140 #[.pointer (some ⟨N, 0, none⟩), .agg #[.int .i64 6, .int .i64 m, str s]] W (DoOut B N (.slice As ss.length cs) st W)) :
    Calls Tryz.prog 47 #[.pointer (some ⟨N, 0, none⟩), .agg #[.int .i64 6, .int .i64 m, str s]] w (DoOut B N (.slice As ss.length cs) st w) := by
  obtain ⟨A1, c1, e1⟩ := h.own.o1.see.shape
  dsimp only [onS] at e1
  subst e1
  have hN := h.lt
  have hB := h.hB
  have hBw : B ≤ w.heap.size := by omega
  have bA := below_new w (.cells #[.int .i64 6, .int .i64 m, str s] 41)
  have HA := Lib.hid (h.later bA)
  have HO := Lib.hid (heap_alloc_new w (.cells #[.int .i64 6, .int .i64 m, str s] 41))
  have HBA := Lib.hid (bA.mono hBw)
  have HBW := Lib.hid hBw
  clear bA hBw h
  obtain ⟨hx0, hx1⟩ := hx
  have hst : ∀ (W : World) (p : Addr) (f : Nat), (W.cell? p).isSome = true → W.frozen? p = false → (store p (.func (.func f) #[] #[])).run Tryz.prog W = .ok () (W.setCell p (.func (.func f) #[] #[])) := fun W p f h1 h2 => store_func W p f h1 h2
  go_enter Tryz.func47, Tryz.ntmps47
  go_upto_region 1 with fail
  generalize hW : w.alloc _ = W at *
  have HSZ := Lib.hid (show W.heap.size = w.heap.size + 1 by rw [← hW]; simp)
  clear hW
  obtain ⟨o0, o1, o2⟩ := cells3 HO.out
  go_upto_region 2 with (go_at_call 99; refine (form_6 W).mono ?_; rintro e w1 ⟨rfl, b1⟩)
  generalize hV : w1.alloc _ = V
  have HF := Lib.hid (show V.heap[w1.heap.size]? = some (.cells #[.int .i64 1, .bool true, .func (.func 140) #[] #[]] 124 (0, 0)) from by rw [← hV]; exact heap_alloc_new _ _)
  have hon : Only (fun g => g = w1.heap.size) w1 V := by rw [← hV]; exact Only.of_below (below_new _ _)
  have hs1 := b1.size
  have HP := Lib.hid ((HA.out.later b1).only hon (fun g q e => by omega))
  have HO2 := Lib.hid ((hon.block _ (Nat.lt_of_lt_of_le (heap_lt HO.out) hs1) (by have := heap_lt HO.out; omega)).trans (row_later HO.out b1))
  have HB2 := Lib.hid (HBA.out.trans ((b1.mono (by have := HSZ.out; have := HBW.out; omega)).trans (hon.below (by have := HSZ.out; have := HBW.out; omega) (fun g e => by have := HSZ.out; have := HBW.out; omega))))
  have HFN := Lib.hid (show N < w1.heap.size by have := HSZ.out; omega)
  clear hV hon o0 o1 o2 b1 HA HO HBA hs1
  generalize w1.heap.size = F at *
  obtain ⟨o0, o1, o2⟩ := cells3 HO2.out
  obtain ⟨f0, f1, f2⟩ := cells3 HF.out
  obtain ⟨p0, p1, p2, p3, p4, p5, p6, p7, p8⟩ := cells9 HP.out.blk
  dsimp only [onS] at p0 p1 p2 p3 p4 p5 p6 p7 p8
  have hf5 : V.frozen? ⟨N, 0, none⟩ = false := frozen_row HP.out.blk
  have hz2 : ¬ ((zs.length : Int) < 1) := by omega
  have hw1 : IntKind.i64.wrap (x + 1) = x + 1 := by rw [IntKind.wrap_i64]; omega
  have hgg2 : ¬ ((ss.length : Int) ≤ m) := by omega
  go_quiet (fail)
  go_upto_region 3 with fail
  go_quiet (fail)
  go_upto_region 5 with fail
  clear o0 o1 o2 f0 f1 f2 p0 p1 p2 p3 p4 p5 p6 p7 p8 hf5
  generalize hQ : World.drewN _ _ = V2
  have HP2 := Lib.hid (show Pl V2 B N (onS ⟨x, zs, bs, rs, 0⟩) (.slice As ss.length cs) (.slice A1 zs.length c1) u2 u3 from by rw [← hQ]; first | exact (HP.out.drewN _).drewN _ | exact HP.out.drewN _ | exact HP.out)
  have HF2 := Lib.hid (show V2.heap[F]? = some (.cells #[.int .i64 1, .bool true, .func (.func 140) #[] #[]] 124 (0, 0)) from by rw [← hQ]; exact HF.out)
  have HO3 := Lib.hid (show V2.heap[w.heap.size]? = some (.cells #[.int .i64 6, .int .i64 m, str s] 41 (0, 0)) from by rw [← hQ]; exact HO2.out)
  have HB3 := Lib.hid (show Below B w V2 from by rw [← hQ]; first | exact below_drewN (below_drewN HB2.out _) _ | exact below_drewN HB2.out _ | exact HB2.out)
  clear hQ HP HF HO2 HB2
  obtain ⟨p0, p1, p2, p3, p4, p5, p6, p7, p8⟩ := cells9 HP2.out.blk
  dsimp only [onS] at p0 p1 p2 p3 p4 p5 p6 p7 p8
  have hf5 : V2.frozen? ⟨N, 0, none⟩ = false := frozen_row HP2.out.blk
  go_upto_region 6 with fail
  generalize hQ : World.setCell _ _ _ = V3
  have HP3 := Lib.hid (show Pl V3 B N (onS ⟨x + 1, zs, bs, rs, 0⟩) (.slice As ss.length cs) (.slice A1 zs.length c1) u2 u3 from by rw [← hQ]; exact HP2.out.at _)
  have HF3 := Lib.hid (show V3.heap[F]? = some (.cells #[.int .i64 1, .bool true, .func (.func 140) #[] #[]] 124 (0, 0)) from by rw [← hQ, Below.heap_setCell _ _ _ _ (by have := HFN.out; show F ≠ N; omega)]; exact HF2.out)
  have HO4 := Lib.hid (show V3.heap[w.heap.size]? = some (.cells #[.int .i64 6, .int .i64 m, str s] 41 (0, 0)) from by rw [← hQ, Below.heap_setCell _ _ _ _ (by show w.heap.size ≠ N; omega)]; exact HO3.out)
  have HB4 := Lib.hid (show Below B w V3 from by rw [← hQ]; exact HB3.out.setCell hB _)
  clear hQ HP2 HF2 HO3 HB3 p0 p1 p2 p3 p4 p5 p6 p7 p8 hf5
  obtain ⟨o0, o1, o2⟩ := cells3 HO4.out
  obtain ⟨f0, f1, f2⟩ := cells3 HF3.out
  go_wp2_with fail
  refine (HM V3 HP3.out HB4.out).mono ?_
  intro e w5 hd
  obtain rfl := hd.ret
  go_wp2_with fail
  go_ret
  exact hd.since HB4.out

set_option maxHeartbeats 8000000 in
set_option maxRecDepth 100000 in
theorem does_go_7
(B N : Nat) (x m : Int) (s : List UInt8) (As : Option Addr) (cs : Nat) (u1 u2 u3 : Value) (zs : List Int) (bs : List Bx) (rs : List Int) (ss : List (List Int)) (w : World) (h : Pl w B N (onS ⟨x, zs, bs, rs, 0⟩) (.slice As ss.length cs) u1 u2 u3) (hx : 0 ≤ x ∧ x ≤ 300) (hzl : zs.length ≤ 60)
    (hz : 0 ≤ zs.length) (hgg : True) (st : St)
    (HM : ∀ W, Pl W B N (onS ⟨x + 1, zs, bs, rs, 0⟩) (.slice As ss.length cs) u1 u2 u3 → Below B w W → Calls Tryz.prog 141 #[.pointer (some ⟨N, 0, none⟩), .agg #[.int .i64 7, .int .i64 m, str s]] W (DoOut B N (.slice As ss.length cs) st W)) :
    Calls Tryz.prog 47 #[.pointer (some ⟨N, 0, none⟩), .agg #[.int .i64 7, .int .i64 m, str s]] w (DoOut B N (.slice As ss.length cs) st w) := by
  obtain ⟨A1, c1, e1⟩ := h.own.o1.see.shape
  dsimp only [onS] at e1
  subst e1
  have hN := h.lt
  have hB := h.hB
  have hBw : B ≤ w.heap.size := by omega
  have bA := below_new w (.cells #[.int .i64 7, .int .i64 m, str s] 41)
  have HA := Lib.hid (h.later bA)
  have HO := Lib.hid (heap_alloc_new w (.cells #[.int .i64 7, .int .i64 m, str s] 41))
  have HBA := Lib.hid (bA.mono hBw)
  have HBW := Lib.hid hBw
  clear bA hBw h
  obtain ⟨hx0, hx1⟩ := hx
  have hst : ∀ (W : World) (p : Addr) (f : Nat), (W.cell? p).isSome = true → W.frozen? p = false → (store p (.func (.func f) #[] #[])).run Tryz.prog W = .ok () (W.setCell p (.func (.func f) #[] #[])) := fun W p f h1 h2 => store_func W p f h1 h2
  go_enter Tryz.func47, Tryz.ntmps47
  go_upto_region 1 with fail
  generalize hW : w.alloc _ = W at *
  have HSZ := Lib.hid (show W.heap.size = w.heap.size + 1 by rw [← hW]; simp)
  clear hW
  obtain ⟨o0, o1, o2⟩ := cells3 HO.out
  go_upto_region 2 with (go_at_call 99; refine (form_7 W).mono ?_; rintro e w1 ⟨rfl, b1⟩)
  generalize hV : w1.alloc _ = V
  have HF := Lib.hid (show V.heap[w1.heap.size]? = some (.cells #[.int .i64 0, .bool false, .func (.func 141) #[] #[]] 124 (0, 0)) from by rw [← hV]; exact heap_alloc_new _ _)
  have hon : Only (fun g => g = w1.heap.size) w1 V := by rw [← hV]; exact Only.of_below (below_new _ _)
  have hs1 := b1.size
  have HP := Lib.hid ((HA.out.later b1).only hon (fun g q e => by omega))
  have HO2 := Lib.hid ((hon.block _ (Nat.lt_of_lt_of_le (heap_lt HO.out) hs1) (by have := heap_lt HO.out; omega)).trans (row_later HO.out b1))
  have HB2 := Lib.hid (HBA.out.trans ((b1.mono (by have := HSZ.out; have := HBW.out; omega)).trans (hon.below (by have := HSZ.out; have := HBW.out; omega) (fun g e => by have := HSZ.out; have := HBW.out; omega))))
  have HFN := Lib.hid (show N < w1.heap.size by have := HSZ.out; omega)
  clear hV hon o0 o1 o2 b1 HA HO HBA hs1
  generalize w1.heap.size = F at *
  obtain ⟨o0, o1, o2⟩ := cells3 HO2.out
  obtain ⟨f0, f1, f2⟩ := cells3 HF.out
  obtain ⟨p0, p1, p2, p3, p4, p5, p6, p7, p8⟩ := cells9 HP.out.blk
  dsimp only [onS] at p0 p1 p2 p3 p4 p5 p6 p7 p8
  have hf5 : V.frozen? ⟨N, 0, none⟩ = false := frozen_row HP.out.blk
  have hz2 : ¬ ((zs.length : Int) < 0) := by omega
  have hw1 : IntKind.i64.wrap (x + 1) = x + 1 := by rw [IntKind.wrap_i64]; omega
  skip
  go_quiet (fail)
  go_upto_region 3 with fail
  go_quiet (fail)
  go_upto_region 5 with fail
  clear o0 o1 o2 f0 f1 f2 p0 p1 p2 p3 p4 p5 p6 p7 p8 hf5
  generalize hQ : World.drewN _ _ = V2
  have HP2 := Lib.hid (show Pl V2 B N (onS ⟨x, zs, bs, rs, 0⟩) (.slice As ss.length cs) (.slice A1 zs.length c1) u2 u3 from by rw [← hQ]; first | exact (HP.out.drewN _).drewN _ | exact HP.out.drewN _ | exact HP.out)
  have HF2 := Lib.hid (show V2.heap[F]? = some (.cells #[.int .i64 0, .bool false, .func (.func 141) #[] #[]] 124 (0, 0)) from by rw [← hQ]; exact HF.out)
  have HO3 := Lib.hid (show V2.heap[w.heap.size]? = some (.cells #[.int .i64 7, .int .i64 m, str s] 41 (0, 0)) from by rw [← hQ]; exact HO2.out)
  have HB3 := Lib.hid (show Below B w V2 from by rw [← hQ]; first | exact below_drewN (below_drewN HB2.out _) _ | exact below_drewN HB2.out _ | exact HB2.out)
  clear hQ HP HF HO2 HB2
  obtain ⟨p0, p1, p2, p3, p4, p5, p6, p7, p8⟩ := cells9 HP2.out.blk
  dsimp only [onS] at p0 p1 p2 p3 p4 p5 p6 p7 p8
  have hf5 : V2.frozen? ⟨N, 0, none⟩ = false := frozen_row HP2.out.blk
  go_upto_region 6 with fail
  generalize hQ : World.setCell _ _ _ = V3
  have HP3 := Lib.hid (show Pl V3 B N (onS ⟨x + 1, zs, bs, rs, 0⟩) (.slice As ss.length cs) (.slice A1 zs.length c1) u2 u3 from by rw [← hQ]; exact HP2.out.at _)
  have HF3 := Lib.hid (show V3.heap[F]? = some (.cells #[.int .i64 0, .bool false, .func (.func 141) #[] #[]] 124 (0, 0)) from by rw [← hQ, Below.heap_setCell _ _ _ _ (by have := HFN.out; show F ≠ N; omega)]; exact HF2.out)
  have HO4 := Lib.hid (show V3.heap[w.heap.size]? = some (.cells #[.int .i64 7, .int .i64 m, str s] 41 (0, 0)) from by rw [← hQ, Below.heap_setCell _ _ _ _ (by show w.heap.size ≠ N; omega)]; exact HO3.out)
  have HB4 := Lib.hid (show Below B w V3 from by rw [← hQ]; exact HB3.out.setCell hB _)
  clear hQ HP2 HF2 HO3 HB3 p0 p1 p2 p3 p4 p5 p6 p7 p8 hf5
  obtain ⟨o0, o1, o2⟩ := cells3 HO4.out
  obtain ⟨f0, f1, f2⟩ := cells3 HF3.out
  go_wp2_with fail
  refine (HM V3 HP3.out HB4.out).mono ?_
  intro e w5 hd
  obtain rfl := hd.ret
  go_wp2_with fail
  go_ret
  exact hd.since HB4.out

set_option maxHeartbeats 8000000 in
set_option maxRecDepth 100000 in
theorem does_go_8
(B N : Nat) (x m : Int) (s : List UInt8) (As : Option Addr) (cs : Nat) (u1 u2 u3 : Value) (zs : List Int) (bs : List Bx) (rs : List Int) (ss : List (List Int)) (w : World) (h : Pl w B N (onS ⟨x, zs, bs, rs, 0⟩) (.slice As ss.length cs) u1 u2 u3) (hx : 0 ≤ x ∧ x ≤ 300) (hzl : zs.length ≤ 60)
    (hz : 1 ≤ zs.length) (hgg : True) (st : St)
    (HM : ∀ W, Pl W B N (onS ⟨x + 1, zs, bs, rs, 0⟩) (.slice As ss.length cs) u1 u2 u3 → Below B w W → Calls Tryz.prog 142 #[.pointer (some ⟨N, 0, none⟩), .agg #[.int .i64 8, .int .i64 m, str s]] W (DoOut B N (.slice As ss.length cs) st W)) :
    Calls Tryz.prog 47 #[.pointer (some ⟨N, 0, none⟩), .agg #[.int .i64 8, .int .i64 m, str s]] w (DoOut B N (.slice As ss.length cs) st w) := by
  obtain ⟨A1, c1, e1⟩ := h.own.o1.see.shape
  dsimp only [onS] at e1
  subst e1
  have hN := h.lt
  have hB := h.hB
  have hBw : B ≤ w.heap.size := by omega
  have bA := below_new w (.cells #[.int .i64 8, .int .i64 m, str s] 41)
  have HA := Lib.hid (h.later bA)
  have HO := Lib.hid (heap_alloc_new w (.cells #[.int .i64 8, .int .i64 m, str s] 41))
  have HBA := Lib.hid (bA.mono hBw)
  have HBW := Lib.hid hBw
  clear bA hBw h
  obtain ⟨hx0, hx1⟩ := hx
  have hst : ∀ (W : World) (p : Addr) (f : Nat), (W.cell? p).isSome = true → W.frozen? p = false → (store p (.func (.func f) #[] #[])).run Tryz.prog W = .ok () (W.setCell p (.func (.func f) #[] #[])) := fun W p f h1 h2 => store_func W p f h1 h2
  go_enter Tryz.func47, Tryz.ntmps47
  go_upto_region 1 with fail
  generalize hW : w.alloc _ = W at *
  have HSZ := Lib.hid (show W.heap.size = w.heap.size + 1 by rw [← hW]; simp)
  clear hW
  obtain ⟨o0, o1, o2⟩ := cells3 HO.out
  go_upto_region 2 with (go_at_call 99; refine (form_8 W).mono ?_; rintro e w1 ⟨rfl, b1⟩)
  generalize hV : w1.alloc _ = V
  have HF := Lib.hid (show V.heap[w1.heap.size]? = some (.cells #[.int .i64 1, .bool false, .func (.func 142) #[] #[]] 124 (0, 0)) from by rw [← hV]; exact heap_alloc_new _ _)
  have hon : Only (fun g => g = w1.heap.size) w1 V := by rw [← hV]; exact Only.of_below (below_new _ _)
  have hs1 := b1.size
  have HP := Lib.hid ((HA.out.later b1).only hon (fun g q e => by omega))
  have HO2 := Lib.hid ((hon.block _ (Nat.lt_of_lt_of_le (heap_lt HO.out) hs1) (by have := heap_lt HO.out; omega)).trans (row_later HO.out b1))
  have HB2 := Lib.hid (HBA.out.trans ((b1.mono (by have := HSZ.out; have := HBW.out; omega)).trans (hon.below (by have := HSZ.out; have := HBW.out; omega) (fun g e => by have := HSZ.out; have := HBW.out; omega))))
  have HFN := Lib.hid (show N < w1.heap.size by have := HSZ.out; omega)
  clear hV hon o0 o1 o2 b1 HA HO HBA hs1
  generalize w1.heap.size = F at *
  obtain ⟨o0, o1, o2⟩ := cells3 HO2.out
  obtain ⟨f0, f1, f2⟩ := cells3 HF.out
  obtain ⟨p0, p1, p2, p3, p4, p5, p6, p7, p8⟩ := cells9 HP.out.blk
  dsimp only [onS] at p0 p1 p2 p3 p4 p5 p6 p7 p8
  have hf5 : V.frozen? ⟨N, 0, none⟩ = false := frozen_row HP.out.blk
  have hz2 : ¬ ((zs.length : Int) < 1) := by omega
  have hw1 : IntKind.i64.wrap (x + 1) = x + 1 := by rw [IntKind.wrap_i64]; omega
  skip
  go_quiet (fail)
  go_upto_region 3 with fail
  go_quiet (fail)
  go_upto_region 5 with fail
  clear o0 o1 o2 f0 f1 f2 p0 p1 p2 p3 p4 p5 p6 p7 p8 hf5
  generalize hQ : World.drewN _ _ = V2
  have HP2 := Lib.hid (show Pl V2 B N (onS ⟨x, zs, bs, rs, 0⟩) (.slice As ss.length cs) (.slice A1 zs.length c1) u2 u3 from by rw [← hQ]; first | exact (HP.out.drewN _).drewN _ | exact HP.out.drewN _ | exact HP.out)
  have HF2 := Lib.hid (show V2.heap[F]? = some (.cells #[.int .i64 1, .bool false, .func (.func 142) #[] #[]] 124 (0, 0)) from by rw [← hQ]; exact HF.out)
  have HO3 := Lib.hid (show V2.heap[w.heap.size]? = some (.cells #[.int .i64 8, .int .i64 m, str s] 41 (0, 0)) from by rw [← hQ]; exact HO2.out)
  have HB3 := Lib.hid (show Below B w V2 from by rw [← hQ]; first | exact below_drewN (below_drewN HB2.out _) _ | exact below_drewN HB2.out _ | exact HB2.out)
  clear hQ HP HF HO2 HB2
  obtain ⟨p0, p1, p2, p3, p4, p5, p6, p7, p8⟩ := cells9 HP2.out.blk
  dsimp only [onS] at p0 p1 p2 p3 p4 p5 p6 p7 p8
  have hf5 : V2.frozen? ⟨N, 0, none⟩ = false := frozen_row HP2.out.blk
  go_upto_region 6 with fail
  generalize hQ : World.setCell _ _ _ = V3
  have HP3 := Lib.hid (show Pl V3 B N (onS ⟨x + 1, zs, bs, rs, 0⟩) (.slice As ss.length cs) (.slice A1 zs.length c1) u2 u3 from by rw [← hQ]; exact HP2.out.at _)
  have HF3 := Lib.hid (show V3.heap[F]? = some (.cells #[.int .i64 1, .bool false, .func (.func 142) #[] #[]] 124 (0, 0)) from by rw [← hQ, Below.heap_setCell _ _ _ _ (by have := HFN.out; show F ≠ N; omega)]; exact HF2.out)
  have HO4 := Lib.hid (show V3.heap[w.heap.size]? = some (.cells #[.int .i64 8, .int .i64 m, str s] 41 (0, 0)) from by rw [← hQ, Below.heap_setCell _ _ _ _ (by show w.heap.size ≠ N; omega)]; exact HO3.out)
  have HB4 := Lib.hid (show Below B w V3 from by rw [← hQ]; exact HB3.out.setCell hB _)
  clear hQ HP2 HF2 HO3 HB3 p0 p1 p2 p3 p4 p5 p6 p7 p8 hf5
  obtain ⟨o0, o1, o2⟩ := cells3 HO4.out
  obtain ⟨f0, f1, f2⟩ := cells3 HF3.out
  go_wp2_with fail
  refine (HM V3 HP3.out HB4.out).mono ?_
  intro e w5 hd
  obtain rfl := hd.ret
  go_wp2_with fail
  go_ret
  exact hd.since HB4.out

set_option maxHeartbeats 8000000 in
set_option maxRecDepth 100000 in
theorem does_go_9
(B N : Nat) (x m : Int) (s : List UInt8) (As : Option Addr) (cs : Nat) (u1 u2 u3 : Value) (zs : List Int) (bs : List Bx) (rs : List Int) (ss : List (List Int)) (w : World) (h : Pl w B N (onS ⟨x, zs, bs, rs, 0⟩) (.slice As ss.length cs) u1 u2 u3) (hx : 0 ≤ x ∧ x ≤ 300) (hzl : zs.length ≤ 60)
    (hz : 0 ≤ zs.length) (hgg : True) (st : St)
    (HM : ∀ W, Pl W B N (onS ⟨x + 1, zs, bs, rs, 0⟩) (.slice As ss.length cs) u1 u2 u3 → Below B w W → Calls Tryz.prog 143 #[.pointer (some ⟨N, 0, none⟩), .agg #[.int .i64 9, .int .i64 m, str s]] W (DoOut B N (.slice As ss.length cs) st W)) :
    Calls Tryz.prog 47 #[.pointer (some ⟨N, 0, none⟩), .agg #[.int .i64 9, .int .i64 m, str s]] w (DoOut B N (.slice As ss.length cs) st w) := by
  obtain ⟨A1, c1, e1⟩ := h.own.o1.see.shape
  dsimp only [onS] at e1
  subst e1
  have hN := h.lt
  have hB := h.hB
  have hBw : B ≤ w.heap.size := by omega
  have bA := below_new w (.cells #[.int .i64 9, .int .i64 m, str s] 41)
  have HA := Lib.hid (h.later bA)
  have HO := Lib.hid (heap_alloc_new w (.cells #[.int .i64 9, .int .i64 m, str s] 41))
  have HBA := Lib.hid (bA.mono hBw)
  have HBW := Lib.hid hBw
  clear bA hBw h
  obtain ⟨hx0, hx1⟩ := hx
  have hst : ∀ (W : World) (p : Addr) (f : Nat), (W.cell? p).isSome = true → W.frozen? p = false → (store p (.func (.func f) #[] #[])).run Tryz.prog W = .ok () (W.setCell p (.func (.func f) #[] #[])) := fun W p f h1 h2 => store_func W p f h1 h2
  go_enter Tryz.func47, Tryz.ntmps47
  go_upto_region 1 with fail
  generalize hW : w.alloc _ = W at *
  have HSZ := Lib.hid (show W.heap.size = w.heap.size + 1 by rw [← hW]; simp)
  clear hW
  obtain ⟨o0, o1, o2⟩ := cells3 HO.out
  go_upto_region 2 with (go_at_call 99; refine (form_9 W).mono ?_; rintro e w1 ⟨rfl, b1⟩)
  generalize hV : w1.alloc _ = V
  have HF := Lib.hid (show V.heap[w1.heap.size]? = some (.cells #[.int .i64 0, .bool false, .func (.func 143) #[] #[]] 124 (0, 0)) from by rw [← hV]; exact heap_alloc_new _ _)
  have hon : Only (fun g => g = w1.heap.size) w1 V := by rw [← hV]; exact Only.of_below (below_new _ _)
  have hs1 := b1.size
  have HP := Lib.hid ((HA.out.later b1).only hon (fun g q e => by omega))
  have HO2 := Lib.hid ((hon.block _ (Nat.lt_of_lt_of_le (heap_lt HO.out) hs1) (by have := heap_lt HO.out; omega)).trans (row_later HO.out b1))
  have HB2 := Lib.hid (HBA.out.trans ((b1.mono (by have := HSZ.out; have := HBW.out; omega)).trans (hon.below (by have := HSZ.out; have := HBW.out; omega) (fun g e => by have := HSZ.out; have := HBW.out; omega))))
  have HFN := Lib.hid (show N < w1.heap.size by have := HSZ.out; omega)
  clear hV hon o0 o1 o2 b1 HA HO HBA hs1
  generalize w1.heap.size = F at *
  obtain ⟨o0, o1, o2⟩ := cells3 HO2.out
  obtain ⟨f0, f1, f2⟩ := cells3 HF.out
  obtain ⟨p0, p1, p2, p3, p4, p5, p6, p7, p8⟩ := cells9 HP.out.blk
  dsimp only [onS] at p0 p1 p2 p3 p4 p5 p6 p7 p8
  have hf5 : V.frozen? ⟨N, 0, none⟩ = false := frozen_row HP.out.blk
  have hz2 : ¬ ((zs.length : Int) < 0) := by omega
  have hw1 : IntKind.i64.wrap (x + 1) = x + 1 := by rw [IntKind.wrap_i64]; omega
  skip
  go_quiet (fail)
  go_upto_region 3 with fail
  go_quiet (fail)
  go_upto_region 5 with fail
  clear o0 o1 o2 f0 f1 f2 p0 p1 p2 p3 p4 p5 p6 p7 p8 hf5
  generalize hQ : World.drewN _ _ = V2
  have HP2 := Lib.hid (show Pl V2 B N (onS ⟨x, zs, bs, rs, 0⟩) (.slice As ss.length cs) (.slice A1 zs.length c1) u2 u3 from by rw [← hQ]; first | exact (HP.out.drewN _).drewN _ | exact HP.out.drewN _ | exact HP.out)
  have HF2 := Lib.hid (show V2.heap[F]? = some (.cells #[.int .i64 0, .bool false, .func (.func 143) #[] #[]] 124 (0, 0)) from by rw [← hQ]; exact HF.out)
  have HO3 := Lib.hid (show V2.heap[w.heap.size]? = some (.cells #[.int .i64 9, .int .i64 m, str s] 41 (0, 0)) from by rw [← hQ]; exact HO2.out)
  have HB3 := Lib.hid (show Below B w V2 from by rw [← hQ]; first | exact below_drewN (below_drewN HB2.out _) _ | exact below_drewN HB2.out _ | exact HB2.out)
  clear hQ HP HF HO2 HB2
  obtain ⟨p0, p1, p2, p3, p4, p5, p6, p7, p8⟩ := cells9 HP2.out.blk
  dsimp only [onS] at p0 p1 p2 p3 p4 p5 p6 p7 p8
  have hf5 : V2.frozen? ⟨N, 0, none⟩ = false := frozen_row HP2.out.blk
  go_upto_region 6 with fail
  generalize hQ : World.setCell _ _ _ = V3
  have HP3 := Lib.hid (show Pl V3 B N (onS ⟨x + 1, zs, bs, rs, 0⟩) (.slice As ss.length cs) (.slice A1 zs.length c1) u2 u3 from by rw [← hQ]; exact HP2.out.at _)
  have HF3 := Lib.hid (show V3.heap[F]? = some (.cells #[.int .i64 0, .bool false, .func (.func 143) #[] #[]] 124 (0, 0)) from by rw [← hQ, Below.heap_setCell _ _ _ _ (by have := HFN.out; show F ≠ N; omega)]; exact HF2.out)
  have HO4 := Lib.hid (show V3.heap[w.heap.size]? = some (.cells #[.int .i64 9, .int .i64 m, str s] 41 (0, 0)) from by rw [← hQ, Below.heap_setCell _ _ _ _ (by show w.heap.size ≠ N; omega)]; exact HO3.out)
  have HB4 := Lib.hid (show Below B w V3 from by rw [← hQ]; exact HB3.out.setCell hB _)
  clear hQ HP2 HF2 HO3 HB3 p0 p1 p2 p3 p4 p5 p6 p7 p8 hf5
  obtain ⟨o0, o1, o2⟩ := cells3 HO4.out
  obtain ⟨f0, f1, f2⟩ := cells3 HF3.out
  go_wp2_with fail
  refine (HM V3 HP3.out HB4.out).mono ?_
  intro e w5 hd
  obtain rfl := hd.ret
  go_wp2_with fail
  go_ret
  exact hd.since HB4.out

set_option maxHeartbeats 8000000 in
set_option maxRecDepth 100000 in
theorem does_go_10
(B N : Nat) (x m : Int) (s : List UInt8) (As : Option Addr) (cs : Nat) (u1 u2 u3 : Value) (zs : List Int) (bs : List Bx) (rs : List Int) (ss : List (List Int)) (w : World) (h : Pl w B N (onS ⟨x, zs, bs, rs, 0⟩) (.slice As ss.length cs) u1 u2 u3) (hx : 0 ≤ x ∧ x ≤ 300) (hzl : zs.length ≤ 60)
    (hz : 0 ≤ zs.length) (hgg : True) (st : St)
    (HM : ∀ W, Pl W B N (onS ⟨x + 1, zs, bs, rs, 0⟩) (.slice As ss.length cs) u1 u2 u3 → Below B w W → Calls Tryz.prog 144 #[.pointer (some ⟨N, 0, none⟩), .agg #[.int .i64 10, .int .i64 m, str s]] W (DoOut B N (.slice As ss.length cs) st W)) :
    Calls Tryz.prog 47 #[.pointer (some ⟨N, 0, none⟩), .agg #[.int .i64 10, .int .i64 m, str s]] w (DoOut B N (.slice As ss.length cs) st w) := by
  obtain ⟨A1, c1, e1⟩ := h.own.o1.see.shape
  dsimp only [onS] at e1
  subst e1
  have hN := h.lt
  have hB := h.hB
  have hBw : B ≤ w.heap.size := by omega
  have bA := below_new w (.cells #[.int .i64 10, .int .i64 m, str s] 41)
  have HA := Lib.hid (h.later bA)
  have HO := Lib.hid (heap_alloc_new w (.cells #[.int .i64 10, .int .i64 m, str s] 41))
  have HBA := Lib.hid (bA.mono hBw)
  have HBW := Lib.hid hBw
  clear bA hBw h
  obtain ⟨hx0, hx1⟩ := hx
  have hst : ∀ (W : World) (p : Addr) (f : Nat), (W.cell? p).isSome = true → W.frozen? p = false → (store p (.func (.func f) #[] #[])).run Tryz.prog W = .ok () (W.setCell p (.func (.func f) #[] #[])) := fun W p f h1 h2 => store_func W p f h1 h2
  go_enter Tryz.func47, Tryz.ntmps47
  go_upto_region 1 with fail
  generalize hW : w.alloc _ = W at *
  have HSZ := Lib.hid (show W.heap.size = w.heap.size + 1 by rw [← hW]; simp)
  clear hW
  obtain ⟨o0, o1, o2⟩ := cells3 HO.out
  go_upto_region 2 with (go_at_call 99; refine (form_10 W).mono ?_; rintro e w1 ⟨rfl, b1⟩)
  generalize hV : w1.alloc _ = V
  have HF := Lib.hid (show V.heap[w1.heap.size]? = some (.cells #[.int .i64 0, .bool false, .func (.func 144) #[] #[]] 124 (0, 0)) from by rw [← hV]; exact heap_alloc_new _ _)
  have hon : Only (fun g => g = w1.heap.size) w1 V := by rw [← hV]; exact Only.of_below (below_new _ _)
  have hs1 := b1.size
  have HP := Lib.hid ((HA.out.later b1).only hon (fun g q e => by omega))
  have HO2 := Lib.hid ((hon.block _ (Nat.lt_of_lt_of_le (heap_lt HO.out) hs1) (by have := heap_lt HO.out; omega)).trans (row_later HO.out b1))
  have HB2 := Lib.hid (HBA.out.trans ((b1.mono (by have := HSZ.out; have := HBW.out; omega)).trans (hon.below (by have := HSZ.out; have := HBW.out; omega) (fun g e => by have := HSZ.out; have := HBW.out; omega))))
  have HFN := Lib.hid (show N < w1.heap.size by have := HSZ.out; omega)
  clear hV hon o0 o1 o2 b1 HA HO HBA hs1
  generalize w1.heap.size = F at *
  obtain ⟨o0, o1, o2⟩ := cells3 HO2.out
  obtain ⟨f0, f1, f2⟩ := cells3 HF.out
  obtain ⟨p0, p1, p2, p3, p4, p5, p6, p7, p8⟩ := cells9 HP.out.blk
  dsimp only [onS] at p0 p1 p2 p3 p4 p5 p6 p7 p8
  have hf5 : V.frozen? ⟨N, 0, none⟩ = false := frozen_row HP.out.blk
  have hz2 : ¬ ((zs.length : Int) < 0) := by omega
  have hw1 : IntKind.i64.wrap (x + 1) = x + 1 := by rw [IntKind.wrap_i64]; omega
  skip
  go_quiet (fail)
  go_upto_region 3 with fail
  go_quiet (fail)
  go_upto_region 5 with fail
  clear o0 o1 o2 f0 f1 f2 p0 p1 p2 p3 p4 p5 p6 p7 p8 hf5
  generalize hQ : World.drewN _ _ = V2
  have HP2 := Lib.hid (show Pl V2 B N (onS ⟨x, zs, bs, rs, 0⟩) (.slice As ss.length cs) (.slice A1 zs.length c1) u2 u3 from by rw [← hQ]; first | exact (HP.out.drewN _).drewN _ | exact HP.out.drewN _ | exact HP.out)
  have HF2 := Lib.hid (show V2.heap[F]? = some (.cells #[.int .i64 0, .bool false, .func (.func 144) #[] #[]] 124 (0, 0)) from by rw [← hQ]; exact HF.out)
  have HO3 := Lib.hid (show V2.heap[w.heap.size]? = some (.cells #[.int .i64 10, .int .i64 m, str s] 41 (0, 0)) from by rw [← hQ]; exact HO2.out)
  have HB3 := Lib.hid (show Below B w V2 from by rw [← hQ]; first | exact below_drewN (below_drewN HB2.out _) _ | exact below_drewN HB2.out _ | exact HB2.out)
  clear hQ HP HF HO2 HB2
  obtain ⟨p0, p1, p2, p3, p4, p5, p6, p7, p8⟩ := cells9 HP2.out.blk
  dsimp only [onS] at p0 p1 p2 p3 p4 p5 p6 p7 p8
  have hf5 : V2.frozen? ⟨N, 0, none⟩ = false := frozen_row HP2.out.blk
  go_upto_region 6 with fail
  generalize hQ : World.setCell _ _ _ = V3
  have HP3 := Lib.hid (show Pl V3 B N (onS ⟨x + 1, zs, bs, rs, 0⟩) (.slice As ss.length cs) (.slice A1 zs.length c1) u2 u3 from by rw [← hQ]; exact HP2.out.at _)
  have HF3 := Lib.hid (show V3.heap[F]? = some (.cells #[.int .i64 0, .bool false, .func (.func 144) #[] #[]] 124 (0, 0)) from by rw [← hQ, Below.heap_setCell _ _ _ _ (by have := HFN.out; show F ≠ N; omega)]; exact HF2.out)
  have HO4 := Lib.hid (show V3.heap[w.heap.size]? = some (.cells #[.int .i64 10, .int .i64 m, str s] 41 (0, 0)) from by rw [← hQ, Below.heap_setCell _ _ _ _ (by show w.heap.size ≠ N; omega)]; exact HO3.out)
  have HB4 := Lib.hid (show Below B w V3 from by rw [← hQ]; exact HB3.out.setCell hB _)
  clear hQ HP2 HF2 HO3 HB3 p0 p1 p2 p3 p4 p5 p6 p7 p8 hf5
  obtain ⟨o0, o1, o2⟩ := cells3 HO4.out
  obtain ⟨f0, f1, f2⟩ := cells3 HF3.out
  go_wp2_with fail
  refine (HM V3 HP3.out HB4.out).mono ?_
  intro e w5 hd
  obtain rfl := hd.ret
  go_wp2_with fail
  go_ret
  exact hd.since HB4.out

set_option maxHeartbeats 8000000 in
set_option maxRecDepth 100000 in
theorem does_few_3
(B N : Nat) (x m : Int) (s : List UInt8) (As : Option Addr) (cs : Nat) (u1 u2 u3 : Value) (zs : List Int) (bs : List Bx) (rs : List Int) (ss : List (List Int)) (w : World) (h : Pl w B N (onS ⟨x, zs, bs, rs, 0⟩) (.slice As ss.length cs) u1 u2 u3) (hx : 0 ≤ x ∧ x ≤ 300) (hzl : zs.length ≤ 60)
    (hgg : zs.length < 2) :
    Calls Tryz.prog 47 #[.pointer (some ⟨N, 0, none⟩), .agg #[.int .i64 3, .int .i64 m, str s]] w (DoOut B N (.slice As ss.length cs) (endS ⟨x, zs, bs, rs, 0⟩ 4) w) := by
  obtain ⟨A1, c1, e1⟩ := h.own.o1.see.shape
  dsimp only [onS] at e1
  subst e1
  have hN := h.lt
  have hB := h.hB
  have hBw : B ≤ w.heap.size := by omega
  have bA := below_new w (.cells #[.int .i64 3, .int .i64 m, str s] 41)
  have HA := Lib.hid (h.later bA)
  have HO := Lib.hid (heap_alloc_new w (.cells #[.int .i64 3, .int .i64 m, str s] 41))
  have HBA := Lib.hid (bA.mono hBw)
  have HBW := Lib.hid hBw
  clear bA hBw h
  obtain ⟨hx0, hx1⟩ := hx
  have hst : ∀ (W : World) (p : Addr) (f : Nat), (W.cell? p).isSome = true → W.frozen? p = false → (store p (.func (.func f) #[] #[])).run Tryz.prog W = .ok () (W.setCell p (.func (.func f) #[] #[])) := fun W p f h1 h2 => store_func W p f h1 h2
  go_enter Tryz.func47, Tryz.ntmps47
  go_upto_region 1 with fail
  generalize hW : w.alloc _ = W at *
  have HSZ := Lib.hid (show W.heap.size = w.heap.size + 1 by rw [← hW]; simp)
  clear hW
  obtain ⟨o0, o1, o2⟩ := cells3 HO.out
  go_upto_region 2 with (go_at_call 99; refine (form_3 W).mono ?_; rintro e w1 ⟨rfl, b1⟩)
  generalize hV : w1.alloc _ = V
  have HF := Lib.hid (show V.heap[w1.heap.size]? = some (.cells #[.int .i64 2, .bool false, .func (.func 137) #[] #[]] 124 (0, 0)) from by rw [← hV]; exact heap_alloc_new _ _)
  have hon : Only (fun g => g = w1.heap.size) w1 V := by rw [← hV]; exact Only.of_below (below_new _ _)
  have hs1 := b1.size
  have HP := Lib.hid ((HA.out.later b1).only hon (fun g q e => by omega))
  have HO2 := Lib.hid ((hon.block _ (Nat.lt_of_lt_of_le (heap_lt HO.out) hs1) (by have := heap_lt HO.out; omega)).trans (row_later HO.out b1))
  have HB2 := Lib.hid (HBA.out.trans ((b1.mono (by have := HSZ.out; have := HBW.out; omega)).trans (hon.below (by have := HSZ.out; have := HBW.out; omega) (fun g e => by have := HSZ.out; have := HBW.out; omega))))
  have HFN := Lib.hid (show N < w1.heap.size by have := HSZ.out; omega)
  clear hV hon o0 o1 o2 b1 HA HO HBA hs1
  generalize w1.heap.size = F at *
  obtain ⟨o0, o1, o2⟩ := cells3 HO2.out
  obtain ⟨f0, f1, f2⟩ := cells3 HF.out
  obtain ⟨p0, p1, p2, p3, p4, p5, p6, p7, p8⟩ := cells9 HP.out.blk
  dsimp only [onS] at p0 p1 p2 p3 p4 p5 p6 p7 p8
  have hgg2 : ((zs.length : Int) < 2) := by omega
  go_quiet (fail)
  go_upto_region 3 with fail
  go_quiet (fail)
  clear o0 o1 o2 f0 f1 f2 p0 p1 p2 p3 p4 p5 p6 p7 p8
  generalize hQ : World.drewN _ _ = V2
  have HB3 := Lib.hid (show Below B w V2 from by rw [← hQ]; first | exact below_drewN (below_drewN HB2.out _) _ | exact below_drewN HB2.out _ | exact HB2.out)
  clear hQ HP HF HO2 HB2
  go_wp2_with fail
  go_ret
  exact DoOut.ends (by decide) HB3.out

set_option maxHeartbeats 8000000 in
set_option maxRecDepth 100000 in
theorem does_few_4
(B N : Nat) (x m : Int) (s : List UInt8) (As : Option Addr) (cs : Nat) (u1 u2 u3 : Value) (zs : List Int) (bs : List Bx) (rs : List Int) (ss : List (List Int)) (w : World) (h : Pl w B N (onS ⟨x, zs, bs, rs, 0⟩) (.slice As ss.length cs) u1 u2 u3) (hx : 0 ≤ x ∧ x ≤ 300) (hzl : zs.length ≤ 60)
    (hgg : zs.length < 1) :
    Calls Tryz.prog 47 #[.pointer (some ⟨N, 0, none⟩), .agg #[.int .i64 4, .int .i64 m, str s]] w (DoOut B N (.slice As ss.length cs) (endS ⟨x, zs, bs, rs, 0⟩ 4) w) := by
  obtain ⟨A1, c1, e1⟩ := h.own.o1.see.shape
  dsimp only [onS] at e1
  subst e1
  have hN := h.lt
  have hB := h.hB
  have hBw : B ≤ w.heap.size := by omega
  have bA := below_new w (.cells #[.int .i64 4, .int .i64 m, str s] 41)
  have HA := Lib.hid (h.later bA)
  have HO := Lib.hid (heap_alloc_new w (.cells #[.int .i64 4, .int .i64 m, str s] 41))
  have HBA := Lib.hid (bA.mono hBw)
  have HBW := Lib.hid hBw
  clear bA hBw h
  obtain ⟨hx0, hx1⟩ := hx
  have hst : ∀ (W : World) (p : Addr) (f : Nat), (W.cell? p).isSome = true → W.frozen? p = false → (store p (.func (.func f) #[] #[])).run Tryz.prog W = .ok () (W.setCell p (.func (.func f) #[] #[])) := fun W p f h1 h2 => store_func W p f h1 h2
  go_enter Tryz.func47, Tryz.ntmps47
  go_upto_region 1 with fail
  generalize hW : w.alloc _ = W at *
  have HSZ := Lib.hid (show W.heap.size = w.heap.size + 1 by rw [← hW]; simp)
  clear hW
  obtain ⟨o0, o1, o2⟩ := cells3 HO.out
  go_upto_region 2 with (go_at_call 99; refine (form_4 W).mono ?_; rintro e w1 ⟨rfl, b1⟩)
  generalize hV : w1.alloc _ = V
  have HF := Lib.hid (show V.heap[w1.heap.size]? = some (.cells #[.int .i64 1, .bool false, .func (.func 138) #[] #[]] 124 (0, 0)) from by rw [← hV]; exact heap_alloc_new _ _)
  have hon : Only (fun g => g = w1.heap.size) w1 V := by rw [← hV]; exact Only.of_below (below_new _ _)
  have hs1 := b1.size
  have HP := Lib.hid ((HA.out.later b1).only hon (fun g q e => by omega))
  have HO2 := Lib.hid ((hon.block _ (Nat.lt_of_lt_of_le (heap_lt HO.out) hs1) (by have := heap_lt HO.out; omega)).trans (row_later HO.out b1))
  have HB2 := Lib.hid (HBA.out.trans ((b1.mono (by have := HSZ.out; have := HBW.out; omega)).trans (hon.below (by have := HSZ.out; have := HBW.out; omega) (fun g e => by have := HSZ.out; have := HBW.out; omega))))
  have HFN := Lib.hid (show N < w1.heap.size by have := HSZ.out; omega)
  clear hV hon o0 o1 o2 b1 HA HO HBA hs1
  generalize w1.heap.size = F at *
  obtain ⟨o0, o1, o2⟩ := cells3 HO2.out
  obtain ⟨f0, f1, f2⟩ := cells3 HF.out
  obtain ⟨p0, p1, p2, p3, p4, p5, p6, p7, p8⟩ := cells9 HP.out.blk
  dsimp only [onS] at p0 p1 p2 p3 p4 p5 p6 p7 p8
  have hgg2 : ((zs.length : Int) < 1) := by omega
  go_quiet (fail)
  go_upto_region 3 with fail
  go_quiet (fail)
  clear o0 o1 o2 f0 f1 f2 p0 p1 p2 p3 p4 p5 p6 p7 p8
  generalize hQ : World.drewN _ _ = V2
  have HB3 := Lib.hid (show Below B w V2 from by rw [← hQ]; first | exact below_drewN (below_drewN HB2.out _) _ | exact below_drewN HB2.out _ | exact HB2.out)
  clear hQ HP HF HO2 HB2
  go_wp2_with fail
  go_ret
  exact DoOut.ends (by decide) HB3.out

set_option maxHeartbeats 8000000 in
set_option maxRecDepth 100000 in
theorem does_gone_5
(B N : Nat) (x m : Int) (s : List UInt8) (As : Option Addr) (cs : Nat) (u1 u2 u3 : Value) (zs : List Int) (bs : List Bx) (rs : List Int) (ss : List (List Int)) (w : World) (h : Pl w B N (onS ⟨x, zs, bs, rs, 0⟩) (.slice As ss.length cs) u1 u2 u3) (hx : 0 ≤ x ∧ x ≤ 300) (hzl : zs.length ≤ 60)
    (hgg : (ss.length : Int) ≤ m) :
    Calls Tryz.prog 47 #[.pointer (some ⟨N, 0, none⟩), .agg #[.int .i64 5, .int .i64 m, str s]] w (DoOut B N (.slice As ss.length cs) (endS ⟨x, zs, bs, rs, 0⟩ 4) w) := by
  obtain ⟨A1, c1, e1⟩ := h.own.o1.see.shape
  dsimp only [onS] at e1
  subst e1
  have hN := h.lt
  have hB := h.hB
  have hBw : B ≤ w.heap.size := by omega
  have bA := below_new w (.cells #[.int .i64 5, .int .i64 m, str s] 41)
  have HA := Lib.hid (h.later bA)
  have HO := Lib.hid (heap_alloc_new w (.cells #[.int .i64 5, .int .i64 m, str s] 41))
  have HBA := Lib.hid (bA.mono hBw)
  have HBW := Lib.hid hBw
  clear bA hBw h
  obtain ⟨hx0, hx1⟩ := hx
  have hst : ∀ (W : World) (p : Addr) (f : Nat), (W.cell? p).isSome = true → W.frozen? p = false → (store p (.func (.func f) #[] #[])).run Tryz.prog W = .ok () (W.setCell p (.func (.func f) #[] #[])) := fun W p f h1 h2 => store_func W p f h1 h2
  go_enter Tryz.func47, Tryz.ntmps47
  go_upto_region 1 with fail
  generalize hW : w.alloc _ = W at *
  have HSZ := Lib.hid (show W.heap.size = w.heap.size + 1 by rw [← hW]; simp)
  clear hW
  obtain ⟨o0, o1, o2⟩ := cells3 HO.out
  go_upto_region 2 with (go_at_call 99; refine (form_5 W).mono ?_; rintro e w1 ⟨rfl, b1⟩)
  generalize hV : w1.alloc _ = V
  have HF := Lib.hid (show V.heap[w1.heap.size]? = some (.cells #[.int .i64 0, .bool true, .func (.func 139) #[] #[]] 124 (0, 0)) from by rw [← hV]; exact heap_alloc_new _ _)
  have hon : Only (fun g => g = w1.heap.size) w1 V := by rw [← hV]; exact Only.of_below (below_new _ _)
  have hs1 := b1.size
  have HP := Lib.hid ((HA.out.later b1).only hon (fun g q e => by omega))
  have HO2 := Lib.hid ((hon.block _ (Nat.lt_of_lt_of_le (heap_lt HO.out) hs1) (by have := heap_lt HO.out; omega)).trans (row_later HO.out b1))
  have HB2 := Lib.hid (HBA.out.trans ((b1.mono (by have := HSZ.out; have := HBW.out; omega)).trans (hon.below (by have := HSZ.out; have := HBW.out; omega) (fun g e => by have := HSZ.out; have := HBW.out; omega))))
  have HFN := Lib.hid (show N < w1.heap.size by have := HSZ.out; omega)
  clear hV hon o0 o1 o2 b1 HA HO HBA hs1
  generalize w1.heap.size = F at *
  obtain ⟨o0, o1, o2⟩ := cells3 HO2.out
  obtain ⟨f0, f1, f2⟩ := cells3 HF.out
  obtain ⟨p0, p1, p2, p3, p4, p5, p6, p7, p8⟩ := cells9 HP.out.blk
  dsimp only [onS] at p0 p1 p2 p3 p4 p5 p6 p7 p8
  skip
  go_quiet (fail)
  go_upto_region 3 with fail
  go_quiet (fail)
  clear o0 o1 o2 f0 f1 f2 p0 p1 p2 p3 p4 p5 p6 p7 p8
  generalize hQ : World.drewN _ _ = V2
  have HB3 := Lib.hid (show Below B w V2 from by rw [← hQ]; first | exact below_drewN (below_drewN HB2.out _) _ | exact below_drewN HB2.out _ | exact HB2.out)
  clear hQ HP HF HO2 HB2
  go_wp2_with fail
  go_ret
  exact DoOut.ends (by decide) HB3.out

set_option maxHeartbeats 8000000 in
set_option maxRecDepth 100000 in
theorem does_gone_6
(B N : Nat) (x m : Int) (s : List UInt8) (As : Option Addr) (cs : Nat) (u1 u2 u3 : Value) (zs : List Int) (bs : List Bx) (rs : List Int) (ss : List (List Int)) (w : World) (h : Pl w B N (onS ⟨x, zs, bs, rs, 0⟩) (.slice As ss.length cs) u1 u2 u3) (hx : 0 ≤ x ∧ x ≤ 300) (hzl : zs.length ≤ 60)
    (hgg : (ss.length : Int) ≤ m) :
    Calls Tryz.prog 47 #[.pointer (some ⟨N, 0, none⟩), .agg #[.int .i64 6, .int .i64 m, str s]] w (DoOut B N (.slice As ss.length cs) (endS ⟨x, zs, bs, rs, 0⟩ 4) w) := by
  obtain ⟨A1, c1, e1⟩ := h.own.o1.see.shape
  dsimp only [onS] at e1
  subst e1
  have hN := h.lt
  have hB := h.hB
  have hBw : B ≤ w.heap.size := by omega
  have bA := below_new w (.cells #[.int .i64 6, .int .i64 m, str s] 41)
  have HA := Lib.hid (h.later bA)
  have HO := Lib.hid (heap_alloc_new w (.cells #[.int .i64 6, .int .i64 m, str s] 41))
  have HBA := Lib.hid (bA.mono hBw)
  have HBW := Lib.hid hBw
  clear bA hBw h
  obtain ⟨hx0, hx1⟩ := hx
  have hst : ∀ (W : World) (p : Addr) (f : Nat), (W.cell? p).isSome = true → W.frozen? p = false → (store p (.func (.func f) #[] #[])).run Tryz.prog W = .ok () (W.setCell p (.func (.func f) #[] #[])) := fun W p f h1 h2 => store_func W p f h1 h2
  go_enter Tryz.func47, Tryz.ntmps47
  go_upto_region 1 with fail
  generalize hW : w.alloc _ = W at *
  have HSZ := Lib.hid (show W.heap.size = w.heap.size + 1 by rw [← hW]; simp)
  clear hW
  obtain ⟨o0, o1, o2⟩ := cells3 HO.out
  go_upto_region 2 with (go_at_call 99; refine (form_6 W).mono ?_; rintro e w1 ⟨rfl, b1⟩)
  generalize hV : w1.alloc _ = V
  have HF := Lib.hid (show V.heap[w1.heap.size]? = some (.cells #[.int .i64 1, .bool true, .func (.func 140) #[] #[]] 124 (0, 0)) from by rw [← hV]; exact heap_alloc_new _ _)
  have hon : Only (fun g => g = w1.heap.size) w1 V := by rw [← hV]; exact Only.of_below (below_new _ _)
  have hs1 := b1.size
  have HP := Lib.hid ((HA.out.later b1).only hon (fun g q e => by omega))
  have HO2 := Lib.hid ((hon.block _ (Nat.lt_of_lt_of_le (heap_lt HO.out) hs1) (by have := heap_lt HO.out; omega)).trans (row_later HO.out b1))
  have HB2 := Lib.hid (HBA.out.trans ((b1.mono (by have := HSZ.out; have := HBW.out; omega)).trans (hon.below (by have := HSZ.out; have := HBW.out; omega) (fun g e => by have := HSZ.out; have := HBW.out; omega))))
  have HFN := Lib.hid (show N < w1.heap.size by have := HSZ.out; omega)
  clear hV hon o0 o1 o2 b1 HA HO HBA hs1
  generalize w1.heap.size = F at *
  obtain ⟨o0, o1, o2⟩ := cells3 HO2.out
  obtain ⟨f0, f1, f2⟩ := cells3 HF.out
  obtain ⟨p0, p1, p2, p3, p4, p5, p6, p7, p8⟩ := cells9 HP.out.blk
  dsimp only [onS] at p0 p1 p2 p3 p4 p5 p6 p7 p8
  skip
  go_quiet (fail)
  go_upto_region 3 with fail
  go_quiet (fail)
  clear o0 o1 o2 f0 f1 f2 p0 p1 p2 p3 p4 p5 p6 p7 p8
  generalize hQ : World.drewN _ _ = V2
  have HB3 := Lib.hid (show Below B w V2 from by rw [← hQ]; first | exact below_drewN (below_drewN HB2.out _) _ | exact below_drewN HB2.out _ | exact HB2.out)
  clear hQ HP HF HO2 HB2
  go_wp2_with fail
  go_ret
  exact DoOut.ends (by decide) HB3.out

set_option maxHeartbeats 8000000 in
set_option maxRecDepth 100000 in
theorem does_few_6
(B N : Nat) (x m : Int) (s : List UInt8) (As : Option Addr) (cs : Nat) (u1 u2 u3 : Value) (zs : List Int) (bs : List Bx) (rs : List Int) (ss : List (List Int)) (w : World) (h : Pl w B N (onS ⟨x, zs, bs, rs, 0⟩) (.slice As ss.length cs) u1 u2 u3) (hx : 0 ≤ x ∧ x ≤ 300) (hzl : zs.length ≤ 60)
    (hgg : zs.length < 1 ∧ m < (ss.length : Int)) :
    Calls Tryz.prog 47 #[.pointer (some ⟨N, 0, none⟩), .agg #[.int .i64 6, .int .i64 m, str s]] w (DoOut B N (.slice As ss.length cs) (endS ⟨x, zs, bs, rs, 0⟩ 4) w) := by
  obtain ⟨A1, c1, e1⟩ := h.own.o1.see.shape
  dsimp only [onS] at e1
  subst e1
  have hN := h.lt
  have hB := h.hB
  have hBw : B ≤ w.heap.size := by omega
  have bA := below_new w (.cells #[.int .i64 6, .int .i64 m, str s] 41)
  have HA := Lib.hid (h.later bA)
  have HO := Lib.hid (heap_alloc_new w (.cells #[.int .i64 6, .int .i64 m, str s] 41))
  have HBA := Lib.hid (bA.mono hBw)
  have HBW := Lib.hid hBw
  clear bA hBw h
  obtain ⟨hx0, hx1⟩ := hx
  have hst : ∀ (W : World) (p : Addr) (f : Nat), (W.cell? p).isSome = true → W.frozen? p = false → (store p (.func (.func f) #[] #[])).run Tryz.prog W = .ok () (W.setCell p (.func (.func f) #[] #[])) := fun W p f h1 h2 => store_func W p f h1 h2
  go_enter Tryz.func47, Tryz.ntmps47
  go_upto_region 1 with fail
  generalize hW : w.alloc _ = W at *
  have HSZ := Lib.hid (show W.heap.size = w.heap.size + 1 by rw [← hW]; simp)
  clear hW
  obtain ⟨o0, o1, o2⟩ := cells3 HO.out
  go_upto_region 2 with (go_at_call 99; refine (form_6 W).mono ?_; rintro e w1 ⟨rfl, b1⟩)
  generalize hV : w1.alloc _ = V
  have HF := Lib.hid (show V.heap[w1.heap.size]? = some (.cells #[.int .i64 1, .bool true, .func (.func 140) #[] #[]] 124 (0, 0)) from by rw [← hV]; exact heap_alloc_new _ _)
  have hon : Only (fun g => g = w1.heap.size) w1 V := by rw [← hV]; exact Only.of_below (below_new _ _)
  have hs1 := b1.size
  have HP := Lib.hid ((HA.out.later b1).only hon (fun g q e => by omega))
  have HO2 := Lib.hid ((hon.block _ (Nat.lt_of_lt_of_le (heap_lt HO.out) hs1) (by have := heap_lt HO.out; omega)).trans (row_later HO.out b1))
  have HB2 := Lib.hid (HBA.out.trans ((b1.mono (by have := HSZ.out; have := HBW.out; omega)).trans (hon.below (by have := HSZ.out; have := HBW.out; omega) (fun g e => by have := HSZ.out; have := HBW.out; omega))))
  have HFN := Lib.hid (show N < w1.heap.size by have := HSZ.out; omega)
  clear hV hon o0 o1 o2 b1 HA HO HBA hs1
  generalize w1.heap.size = F at *
  obtain ⟨o0, o1, o2⟩ := cells3 HO2.out
  obtain ⟨f0, f1, f2⟩ := cells3 HF.out
  obtain ⟨p0, p1, p2, p3, p4, p5, p6, p7, p8⟩ := cells9 HP.out.blk
  dsimp only [onS] at p0 p1 p2 p3 p4 p5 p6 p7 p8
  have ⟨hgg2, hgg3⟩ : ((zs.length : Int) < 1) ∧ ¬ ((ss.length : Int) ≤ m) := by omega
  go_quiet (fail)
  go_upto_region 3 with fail
  go_quiet (fail)
  clear o0 o1 o2 f0 f1 f2 p0 p1 p2 p3 p4 p5 p6 p7 p8
  generalize hQ : World.drewN _ _ = V2
  have HB3 := Lib.hid (show Below B w V2 from by rw [← hQ]; first | exact below_drewN (below_drewN HB2.out _) _ | exact below_drewN HB2.out _ | exact HB2.out)
  clear hQ HP HF HO2 HB2
  go_wp2_with fail
  go_ret
  exact DoOut.ends (by decide) HB3.out

set_option maxHeartbeats 8000000 in
set_option maxRecDepth 100000 in
theorem does_few_8
(B N : Nat) (x m : Int) (s : List UInt8) (As : Option Addr) (cs : Nat) (u1 u2 u3 : Value) (zs : List Int) (bs : List Bx) (rs : List Int) (ss : List (List Int)) (w : World) (h : Pl w B N (onS ⟨x, zs, bs, rs, 0⟩) (.slice As ss.length cs) u1 u2 u3) (hx : 0 ≤ x ∧ x ≤ 300) (hzl : zs.length ≤ 60)
    (hgg : zs.length < 1) :
    Calls Tryz.prog 47 #[.pointer (some ⟨N, 0, none⟩), .agg #[.int .i64 8, .int .i64 m, str s]] w (DoOut B N (.slice As ss.length cs) (endS ⟨x, zs, bs, rs, 0⟩ 4) w) := by
  obtain ⟨A1, c1, e1⟩ := h.own.o1.see.shape
  dsimp only [onS] at e1
  subst e1
  have hN := h.lt
  have hB := h.hB
  have hBw : B ≤ w.heap.size := by omega
  have bA := below_new w (.cells #[.int .i64 8, .int .i64 m, str s] 41)
  have HA := Lib.hid (h.later bA)
  have HO := Lib.hid (heap_alloc_new w (.cells #[.int .i64 8, .int .i64 m, str s] 41))
  have HBA := Lib.hid (bA.mono hBw)
  have HBW := Lib.hid hBw
  clear bA hBw h
  obtain ⟨hx0, hx1⟩ := hx
  have hst : ∀ (W : World) (p : Addr) (f : Nat), (W.cell? p).isSome = true → W.frozen? p = false → (store p (.func (.func f) #[] #[])).run Tryz.prog W = .ok () (W.setCell p (.func (.func f) #[] #[])) := fun W p f h1 h2 => store_func W p f h1 h2
  go_enter Tryz.func47, Tryz.ntmps47
  go_upto_region 1 with fail
  generalize hW : w.alloc _ = W at *
  have HSZ := Lib.hid (show W.heap.size = w.heap.size + 1 by rw [← hW]; simp)
  clear hW
  obtain ⟨o0, o1, o2⟩ := cells3 HO.out
  go_upto_region 2 with (go_at_call 99; refine (form_8 W).mono ?_; rintro e w1 ⟨rfl, b1⟩)
  generalize hV : w1.alloc _ = V
  have HF := Lib.hid (show V.heap[w1.heap.size]? = some (.cells #[.int .i64 1, .bool false, .func (.func 142) #[] #[]] 124 (0, 0)) from by rw [← hV]; exact heap_alloc_new _ _)
  have hon : Only (fun g => g = w1.heap.size) w1 V := by rw [← hV]; exact Only.of_below (below_new _ _)
  have hs1 := b1.size
  have HP := Lib.hid ((HA.out.later b1).only hon (fun g q e => by omega))
  have HO2 := Lib.hid ((hon.block _ (Nat.lt_of_lt_of_le (heap_lt HO.out) hs1) (by have := heap_lt HO.out; omega)).trans (row_later HO.out b1))
  have HB2 := Lib.hid (HBA.out.trans ((b1.mono (by have := HSZ.out; have := HBW.out; omega)).trans (hon.below (by have := HSZ.out; have := HBW.out; omega) (fun g e => by have := HSZ.out; have := HBW.out; omega))))
  have HFN := Lib.hid (show N < w1.heap.size by have := HSZ.out; omega)
  clear hV hon o0 o1 o2 b1 HA HO HBA hs1
  generalize w1.heap.size = F at *
  obtain ⟨o0, o1, o2⟩ := cells3 HO2.out
  obtain ⟨f0, f1, f2⟩ := cells3 HF.out
  obtain ⟨p0, p1, p2, p3, p4, p5, p6, p7, p8⟩ := cells9 HP.out.blk
  dsimp only [onS] at p0 p1 p2 p3 p4 p5 p6 p7 p8
  have hgg2 : ((zs.length : Int) < 1) := by omega
  go_quiet (fail)
  go_upto_region 3 with fail
  go_quiet (fail)
  clear o0 o1 o2 f0 f1 f2 p0 p1 p2 p3 p4 p5 p6 p7 p8
  generalize hQ : World.drewN _ _ = V2
  have HB3 := Lib.hid (show Below B w V2 from by rw [← hQ]; first | exact below_drewN (below_drewN HB2.out _) _ | exact below_drewN HB2.out _ | exact HB2.out)
  clear hQ HP HF HO2 HB2
  go_wp2_with fail
  go_ret
  exact DoOut.ends (by decide) HB3.out

end Go.Proofs.YtigcbegeaikfcaaGreatDoor

namespace Go.Proofs.YtigcbegeaikfcaaGreatDoor
open Go.RowKit
set_option linter.unusedVariables false

theorem DoOut.swap {B N : Nat} {vs : Value} {c c' : Cr} {k : Int} {w w' : World} {e : Ending} (h : DoOut B N vs (endS c k) w e w') (hk : ¬ k = 0) : DoOut B N vs (endS c' k) w e w' := ⟨h.1, h.2.1, fun q => absurd q hk⟩

set_option maxHeartbeats 4000000 in
theorem load_full (B N : Nat) (x m : Int) (s : List UInt8) (vs u1 u2 u3 : Value) (zs : List Int) (bs : List Bx) (rs : List Int) (w : World) (h : Pl w B N (onS ⟨x, zs, bs, rs, 0⟩) vs u1 u2 u3) (hl : zs.length = 60) :
    Calls Tryz.prog 136 #[.pointer (some ⟨N, 0, none⟩), .agg #[.int .i64 2, .int .i64 m, str s]] w (DoOut B N vs (endS ⟨x, zs, bs, rs, 0⟩ 4) w) := by
  have hN := h.lt
  have hB := h.hB
  have hBw : B ≤ w.heap.size := by omega
  have bA := below_new w (.cells #[.int .i64 2, .int .i64 m, str s] 41)
  have HA := Lib.hid (h.later bA)
  have HO := Lib.hid (heap_alloc_new w (.cells #[.int .i64 2, .int .i64 m, str s] 41))
  have HBA := Lib.hid (bA.mono hBw)
  clear bA hBw h
  have HV := Lib.hid (fun v W q => iValueIn_any W.heap.size v bs s W q (Nat.le_refl _))
  have HPU := Lib.hid (fun v1 v2 v3 z W p => put_full B N x 0 0 0 false vs v1 v2 v3 zs bs rs z W p hl)
  generalize valueS bs s = z at *
  go_enter Tryz.func136, Tryz.ntmps136
  go_upto_region 1 with fail
  generalize w.alloc _ = W at *
  obtain ⟨p0, p1, p2, p3, p4, p5, p6, p7, p8⟩ := cells9 HA.out.blk
  dsimp only [onS] at p0 p1 p2 p3 p4 p5 p6 p7 p8
  obtain ⟨o0, o1, o2⟩ := cells3 HO.out
  have HAD := Lib.hid (show Pl W.drew B N (onS ⟨x, zs, bs, rs, 0⟩) vs u1 u2 u3 from HA.out.drewN 1)
  have HBD := Lib.hid (show Below B w W.drew from below_drewN HBA.out 1)
  have hS := HA.out.own.o2.see.shape
  obtain ⟨A2, c2, e2⟩ := hS
  dsimp only [onS] at e2
  subst e2
  go_region_with first
    | (go_at_call 19; refine (HV.out _ W.drew HAD.out.own.o2.see).mono ?_; rintro e w1 ⟨rfl, b1⟩)
    | (go_at_call 160; refine (HPU.out _ _ _ _ w1 (HAD.out.later b1)).mono ?_; rintro e w2 ⟨rfl, rfl⟩)
  all_goals (
    go_wp2_with fail
    go_ret
    exact DoOut.ends (by decide) (HBD.out.trans (b1.mono (by have := HAD.out.lt; have := HAD.out.hB; omega))))

set_option maxHeartbeats 1000000 in
theorem does_any (B N : Nat) (x : Int) (o : Opv) (As : Option Addr) (cs : Nat) (u1 u2 u3 : Value) (zs : List Int) (bs : List Bx) (rs : List Int) (ss : List (List Int)) (w : World) (h : Pl w B N (onS ⟨x, zs, bs, rs, 0⟩) (.slice As ss.length cs) u1 u2 u3)
    (sv : SeeSS w B (.slice As ss.length cs) ss) (hR : RightC x zs bs rs 0) (ho : opB o = true) :
    Calls Tryz.prog 47 #[.pointer (some ⟨N, 0, none⟩), .agg #[.int .i64 o.1, .int .i64 o.2.1, str o.2.2]] w (DoOut B N (.slice As ss.length cs) (if badS ⟨x, zs, bs, rs, 0⟩ o ss = true then endS ⟨x, zs, bs, rs, 0⟩ 4 else doS ⟨x, zs, bs, rs, 0⟩ o ss) w) := by
  have hk := opB_kind ho
  have hgt := opB_gate ho
  obtain ⟨a, m, s⟩ := o
  dsimp only at hk hgt ⊢
  have hx : 0 ≤ x ∧ x ≤ 300 := ⟨hR.x0, hR.x1⟩
  have hz := hR.zl
  have hrise := boxes_rise hR.bb
  have hb1 : ∀ {k : Int}, (k = 1 ∨ k = 2) → badS ⟨x, zs, bs, rs, 0⟩ (k, m, s) ss = decide (60 < zs.length + 1) := fun {k} q => by
    unfold badS needS
    rcases q with rfl | rfl <;> simp
  have hb2 : ∀ {k : Int}, (k = 3 ∨ k = 4 ∨ k = 7 ∨ k = 8 ∨ k = 9 ∨ k = 10) → badS ⟨x, zs, bs, rs, 0⟩ (k, m, s) ss = decide (zs.length < needS k) := fun {k} q => by
    unfold badS
    rcases q with rfl | rfl | rfl | rfl | rfl | rfl <;> simp
  have hb3 : ∀ {k : Int}, (k = 5 ∨ k = 6) → badS ⟨x, zs, bs, rs, 0⟩ (k, m, s) ss = (decide (zs.length < needS k) || decide ((ss.length : Int) ≤ m)) := fun {k} q => by
    unfold badS
    rcases q with rfl | rfl <;> simp
  by_cases h1 : a = 1
  · subst h1
    rw [hb1 (.inl rfl)]
    have e : doS ⟨x, zs, bs, rs, 0⟩ (1, m, s) ss = onS ⟨x + 1, zs ++ [m], bs, rs, 0⟩ := rfl
    rw [e]
    by_cases hf : 60 < zs.length + 1
    · rw [decide_eq_true hf, if_pos rfl]
      exact does_go_1 B N x m s As cs u1 u2 u3 zs bs rs ss w h hx hz (Nat.zero_le _) trivial _ (fun W p b => (push_full B N (x + 1) m s _ u1 u2 u3 zs bs rs W p (by omega)).mono fun e w' q => q.swap (by decide))
    · rw [decide_eq_false hf, if_neg (by decide)]
      exact does_go_1 B N x m s As cs u1 u2 u3 zs bs rs ss w h hx hz (Nat.zero_le _) trivial _ (fun W p b => push_on B N (x + 1) m s _ u1 u2 u3 zs bs rs W p (by omega))
  by_cases h2 : a = 2
  · subst h2
    rw [hb1 (.inr rfl)]
    have e : doS ⟨x, zs, bs, rs, 0⟩ (2, m, s) ss = onS ⟨x + 1, zs ++ [valueS bs s], bs, rs, 0⟩ := rfl
    rw [e]
    by_cases hf : 60 < zs.length + 1
    · rw [decide_eq_true hf, if_pos rfl]
      exact does_go_2 B N x m s As cs u1 u2 u3 zs bs rs ss w h hx hz (Nat.zero_le _) trivial _ (fun W p b => (load_full B N (x + 1) m s _ u1 u2 u3 zs bs rs W p (by omega)).mono fun e w' q => q.swap (by decide))
    · rw [decide_eq_false hf, if_neg (by decide)]
      exact does_go_2 B N x m s As cs u1 u2 u3 zs bs rs ss w h hx hz (Nat.zero_le _) trivial _ (fun W p b => load_on B N (x + 1) m s _ u1 u2 u3 zs bs rs W p (by omega))
  by_cases h3 : a = 3
  · subst h3
    rw [hb2 (.inl rfl)]
    have e : doS ⟨x, zs, bs, rs, 0⟩ (3, m, s) ss = (if (didS m (topS zs 2) (topS zs 1)).2 = true then onS ⟨x + 1, cutS zs 2 ++ [(didS m (topS zs 2) (topS zs 1)).1], bs, rs, 0⟩ else endS ⟨x, zs, bs, rs, 0⟩ 3) := rfl
    rw [e]
    by_cases hf : zs.length < 2
    · rw [decide_eq_true (show zs.length < needS 3 from hf), if_pos rfl]
      exact does_few_3 B N x m s As cs u1 u2 u3 zs bs rs ss w h hx hz hf
    · rw [decide_eq_false (show ¬ zs.length < needS 3 from hf), if_neg (by decide)]
      exact does_go_3 B N x m s As cs u1 u2 u3 zs bs rs ss w h hx hz (by omega) trivial _ (fun W p b => (reckon_on B N (x + 1) m s _ u1 u2 u3 zs bs rs W p (zs.length - 2) (by omega) (by omega)).mono fun e w' q => by
        split at q
        · rename_i hq; rw [if_pos hq]; exact q
        · rename_i hq; rw [if_neg hq]; exact q.swap (by decide))
  by_cases h4 : a = 4
  · subst h4
    rw [hb2 (.inr (.inl rfl))]
    have e : doS ⟨x, zs, bs, rs, 0⟩ (4, m, s) ss = (if (setS bs s (topS zs 1)).2 = true then onS ⟨x + 1, cutS zs 1, (setS bs s (topS zs 1)).1, rs, 0⟩ else endS ⟨x, zs, bs, rs, 0⟩ 4) := rfl
    rw [e]
    by_cases hf : zs.length < 1
    · rw [decide_eq_true (show zs.length < needS 4 from hf), if_pos rfl]
      exact does_few_4 B N x m s As cs u1 u2 u3 zs bs rs ss w h hx hz hf
    · rw [decide_eq_false (show ¬ zs.length < needS 4 from hf), if_neg (by decide)]
      exact does_go_4 B N x m s As cs u1 u2 u3 zs bs rs ss w h hx hz (by omega) trivial _ (fun W p b => (set_on B N (x + 1) m s _ u1 u2 u3 zs bs rs W p (zs.length - 1) (by omega) (by omega) hrise hR.b12).mono fun e w' q => by
        split at q
        · rename_i hq; rw [if_pos hq]; exact q
        · rename_i hq; rw [if_neg hq]; exact q.swap (by decide))
  by_cases h5 : a = 5
  · subst h5
    obtain ⟨q0, q3⟩ := hgt (.inl rfl)
    rw [hb3 (.inl rfl), decide_eq_false (show ¬ zs.length < needS 5 from Nat.not_lt_zero _), Bool.false_or]
    by_cases hf : (ss.length : Int) ≤ m
    · rw [decide_eq_true hf, if_pos rfl]
      exact does_gone_5 B N x m s As cs u1 u2 u3 zs bs rs ss w h hx hz hf
    · rw [decide_eq_false hf, if_neg (by decide)]
      obtain ⟨k, rfl⟩ : ∃ k : Nat, m = k := ⟨m.toNat, by omega⟩
      have e : doS ⟨x, zs, bs, rs, 0⟩ (5, (k : Int), s) ss = (if rs.getD k 0 = 100000 then endS ⟨x, zs, bs, rs, 0⟩ 4
        else if (setS bs s (itemS ss k (rs.getD k 0))).2 = true then onS ⟨x + 1, zs, (setS bs s (itemS ss k (rs.getD k 0))).1, rs.set k (rs.getD k 0 + 1), 0⟩ else endS ⟨x, zs, bs, rs, 0⟩ 4) := rfl
      rw [e]
      exact does_go_5 B N x k s As cs u1 u2 u3 zs bs rs ss w h hx hz (Nat.zero_le _) (by omega) _ (fun W p b => (in_on B N (x + 1) k s _ u1 u2 u3 zs bs rs W p ss (sv.below b) (by omega) (by rw [hR.r4]; omega) hR.rr hrise hR.b12).mono fun e w' q => by
        split at q
        · rename_i hq; rw [if_pos hq]; exact q.swap (by decide)
        · rename_i hq
          rw [if_neg hq]
          split at q
          · rename_i hq2; rw [if_pos hq2]; exact q
          · rename_i hq2; rw [if_neg hq2]; exact q.swap (by decide))
  by_cases h6 : a = 6
  · subst h6
    obtain ⟨q0, q3⟩ := hgt (.inr rfl)
    rw [hb3 (.inr rfl)]
    have e : doS ⟨x, zs, bs, rs, 0⟩ (6, m, s) ss = ⟨⟨x + 1, cutS zs 1, bs, rs, 0⟩, true, m, topS zs 1⟩ := rfl
    rw [e]
    by_cases hf : (ss.length : Int) ≤ m
    · rw [decide_eq_true hf, Bool.or_true, if_pos rfl]
      exact does_gone_6 B N x m s As cs u1 u2 u3 zs bs rs ss w h hx hz hf
    · rw [decide_eq_false hf, Bool.or_false]
      by_cases hn : zs.length < 1
      · rw [decide_eq_true (show zs.length < needS 6 from hn), if_pos rfl]
        exact does_few_6 B N x m s As cs u1 u2 u3 zs bs rs ss w h hx hz ⟨hn, by omega⟩
      · rw [decide_eq_false (show ¬ zs.length < needS 6 from hn), if_neg (by decide)]
        exact does_go_6 B N x m s As cs u1 u2 u3 zs bs rs ss w h hx hz (by omega) (by omega) _ (fun W p b => out_on B N (x + 1) m s _ u1 u2 u3 zs bs rs W p (zs.length - 1) (by omega) (by omega))
  by_cases h7 : a = 7
  · subst h7
    rw [hb2 (.inr (.inr (.inl rfl))), decide_eq_false (show ¬ zs.length < needS 7 from Nat.not_lt_zero _), if_neg (by decide)]
    have e : doS ⟨x, zs, bs, rs, 0⟩ (7, m, s) ss = onS ⟨m, zs, bs, rs, 0⟩ := rfl
    rw [e]
    exact does_go_7 B N x m s As cs u1 u2 u3 zs bs rs ss w h hx hz (Nat.zero_le _) trivial _ (fun W p b => leave_on B N (x + 1) m s _ u1 u2 u3 zs bs rs W p)
  by_cases h8 : a = 8
  · subst h8
    rw [hb2 (.inr (.inr (.inr (.inl rfl))))]
    have e : doS ⟨x, zs, bs, rs, 0⟩ (8, m, s) ss = onS ⟨if topS zs 1 = 0 then m else x + 1, cutS zs 1, bs, rs, 0⟩ := rfl
    rw [e]
    by_cases hf : zs.length < 1
    · rw [decide_eq_true (show zs.length < needS 8 from hf), if_pos rfl]
      exact does_few_8 B N x m s As cs u1 u2 u3 zs bs rs ss w h hx hz hf
    · rw [decide_eq_false (show ¬ zs.length < needS 8 from hf), if_neg (by decide)]
      exact does_go_8 B N x m s As cs u1 u2 u3 zs bs rs ss w h hx hz (by omega) trivial _ (fun W p b => unless_on B N (x + 1) m s _ u1 u2 u3 zs bs rs W p (zs.length - 1) (by omega) (by omega))
  by_cases h9 : a = 9
  · subst h9
    rw [hb2 (.inr (.inr (.inr (.inr (.inl rfl))))), decide_eq_false (show ¬ zs.length < needS 9 from Nat.not_lt_zero _), if_neg (by decide)]
    have e : doS ⟨x, zs, bs, rs, 0⟩ (9, m, s) ss = endS ⟨x, zs, bs, rs, 0⟩ 2 := rfl
    rw [e]
    exact does_go_9 B N x m s As cs u1 u2 u3 zs bs rs ss w h hx hz (Nat.zero_le _) trivial _ (fun W p b => (stop_on B N (x + 1) m s _ u1 u2 u3 zs bs rs W p).mono fun e w' q => q.swap (by decide))
  · obtain rfl : a = 10 := by omega
    rw [hb2 (.inr (.inr (.inr (.inr (.inr rfl))))), decide_eq_false (show ¬ zs.length < needS 10 from Nat.not_lt_zero _), if_neg (by decide)]
    have e : doS ⟨x, zs, bs, rs, 0⟩ (10, m, s) ss = endS ⟨x, zs, bs, rs, 0⟩ 1 := rfl
    rw [e]
    exact does_go_10 B N x m s As cs u1 u2 u3 zs bs rs ss w h hx hz (Nat.zero_le _) trivial _ (fun W p b => (end_on B N (x + 1) m s _ u1 u2 u3 zs bs rs W p).mono fun e w' q => q.swap (by decide))

end Go.Proofs.YtigcbegeaikfcaaGreatDoor
