/- Layer 8 (steps): what the listed variable impl.opForms holds. The model's l1Words: texts with another one between. Layer 8 (steps): OpOk and ShowCode, of the program and of the model. Condition: the listed variable impl.opForms holds what the program's text lays (Forms). -/
import Derived.Test.YtigcbegeaikfcaaGreatDoorWordV
import Derived.Test.YtigcbegeaikfcaaGreatDoorLowA
import Derived.Test.YtigcbegeaikfcaaGreatDoorRows
import Derived.Test.YtigcbegeaikfcaaGreatDoorOpR
import Derived.Test.YtigcbegeaikfcaaGreatDoorLowT
import Derived.Test.YtigcbegeaikfcaaGreatDoorWordsA
import Derived.Lib.LaidTab
namespace Go.Proofs.YtigcbegeaikfcaaGreatDoor
open Go.RowKit
set_option linter.unusedVariables false

/-- The forms of ops: word, is a name told, the least and the most number. -/
def formsL : List (List UInt8 × Bool × Int × Int) := [([], false, 0, 0), ([112, 117, 115, 104], false, -2147483648, 2147483647), ([108, 111, 97, 100], true, 0, 0), ([100, 111], false, 1, 6), ([115, 101, 116], true, 0, 0), ([105, 110], true, 0, 3), ([111, 117, 116], false, 0, 3), ([103, 111], false, 0, 300), ([117, 110, 108, 101, 115, 115], false, 0, 300), ([115, 116, 111, 112], false, 0, 0), ([101, 110, 100], false, 0, 0)]
def Forms (w : World) : Prop := ∀ k fm, formsL[k]? = some fm → w.cell? ⟨0, k * 4, none⟩ = some (str fm.1) ∧ w.cell? ⟨0, k * 4 + 1, none⟩ = some (.bool fm.2.1) ∧ w.cell? ⟨0, k * 4 + 2, none⟩ = some (.int .i64 fm.2.2.1) ∧ w.cell? ⟨0, k * 4 + 3, none⟩ = some (.int .i64 fm.2.2.2)

theorem Forms.below {w w' : World} (h : Forms w) (b : Below w.heap.size w w') : Forms w' := fun k fm hk => by
  obtain ⟨h0, h1, h2, h3⟩ := h k fm hk
  have hlt := World.block_lt_of_cell? w ⟨0, k * 4, none⟩ h0
  exact ⟨(b.cell hlt).trans h0, (b.cell (p := ⟨0, k * 4 + 1, none⟩) hlt).trans h1, (b.cell (p := ⟨0, k * 4 + 2, none⟩) hlt).trans h2, (b.cell (p := ⟨0, k * 4 + 3, none⟩) hlt).trans h3⟩

theorem lit_eq {H : Type} {a b : Lit} (h : (DataW.lit a : DataW H) = .lit b) : a = b := by injection h

set_option maxRecDepth 100000 in
theorem form_cells {H : Type} {enc : TypeId × Value → H} {w : World} {base : Nat} {sp : Nat → Bool} {held : Bool} {fuel : Nat} {cs : List Value} {a : List UInt8} {b : Bool} {l m : Int} {p : List MemPlace}
    (h : DataW.trod enc Tryz.prog w base sp held fuel 150 cs = some (.agg [.lit (.string a), .lit (.bool b), .lit (.int .i64 l), .lit (.int .i64 m)], p)) : cs = [str a, .bool b, .int .i64 l, .int .i64 m] := by
  obtain ⟨xs, n, -, hx, hl, hn, hf⟩ := DataW.trod_struct Tryz.underlying150 h
  have hx1 : [(.lit (.string a) : DataW H), .lit (.bool b), .lit (.int .i64 l), .lit (.int .i64 m)] = xs.map (·.1) := by
    have := congrArg Prod.fst hx
    simpa using this
  have hl4 : cs.length = 4 := by rw [hl]; kernel_rfl
  match xs, hx1 with
  | [y0, y1, y2, y3], hx1 =>
    simp only [List.map_cons, List.map_nil, List.cons.injEq, and_true] at hx1
    obtain ⟨e0, e1, e2, e3⟩ := hx1
    have f0 := hf 0 _ rfl
    have f1 := hf 1 _ rfl
    have f2 := hf 2 _ rfl
    have f3 := hf 3 _ rfl
    simp only [List.getElem?_cons_zero, List.getElem?_cons_succ] at f0 f1 f2 f3
    obtain ⟨s0, c0, q0, _⟩ := DataW.trod_string Tryz.underlying9 f0
    obtain ⟨s1, c1, q1⟩ := DataW.trod_bool Tryz.underlying4 f1
    obtain ⟨s2, c2, q2, _⟩ := DataW.trod_int Tryz.underlying2 f2
    obtain ⟨s3, c3, q3, _⟩ := DataW.trod_int Tryz.underlying2 f3
    have z9 : Tryz.prog.cellsOf 9 = 1 := by kernel_rfl
    have z4 : Tryz.prog.cellsOf 4 = 1 := by kernel_rfl
    have z2 : Tryz.prog.cellsOf 2 = 1 := by kernel_rfl
    subst q0 q1 q2 q3
    dsimp only at e0 e1 e2 e3 c0 c1 c2 c3
    replace c0 : (cs.drop 0).take (Tryz.prog.cellsOf 9) = [.string s0] := c0
    replace c1 : (cs.drop 1).take (Tryz.prog.cellsOf 4) = [.bool s1] := c1
    replace c2 : (cs.drop 2).take (Tryz.prog.cellsOf 2) = [.int .i64 s2] := c2
    replace c3 : (cs.drop 3).take (Tryz.prog.cellsOf 2) = [.int .i64 s3] := c3
    rw [z9] at c0
    rw [z4] at c1
    rw [z2] at c2 c3
    have e0 := lit_eq e0
    have e1 := lit_eq e1
    have e2 := lit_eq e2
    have e3 := lit_eq e3
    injection e0 with e0
    injection e1 with e1
    injection e2 with _ e2
    injection e3 with _ e3
    subst e0 e1 e2 e3
    match cs, hl4 with
    | [d0, d1, d2, d3], _ =>
      simp at c0 c1 c2 c3
      rw [c0, c1, c2, c3]
theorem trod_array {H : Type} {enc : TypeId × Value → H} {P : Program} {w : World} {base : Nat} {sp : Nat → Bool} {held : Bool} {fuel : Nat} {t e : TypeId} {n : Nat} {cs : List Value} {ds : List (DataW H)} {p : List MemPlace}
    (ht : P.underlying t = some (.array n e)) (h : DataW.trod enc P w base sp held fuel t cs = some (.agg ds, p)) :
    ds.length = n ∧ ∃ fuel', ∀ i d, ds[i]? = some d → ∃ q, DataW.trod enc P w base sp held fuel' e ((cs.drop (i * P.cellsOf e)).take (P.cellsOf e)) = some (d, q) := by
  cases fuel with
  | zero => simp [DataW.trod] at h
  | succ fuel =>
    simp only [DataW.trod, ht] at h
    split at h
    · obtain ⟨xs, hm, hx⟩ := Option.map_eq_some_iff.1 h
      have hxs : xs.map (·.1) = ds := by
        have := congrArg Prod.fst hx
        simpa using this
      have hxl : xs.length = n := by simpa using Lib.mapM_length hm
      subst hxs
      refine ⟨by simpa using hxl, fuel, fun i d hd => ?_⟩
      rw [List.getElem?_map] at hd
      obtain ⟨y, hy, rfl⟩ := Option.map_eq_some_iff.1 hd
      have hi : i < n := by rw [← hxl]; exact (List.getElem?_eq_some_iff.1 hy).1
      obtain ⟨b, hb, hf⟩ := Lib.mapM_at hm i i (by simp [hi])
      rw [hy] at hb
      injection hb with hb
      subst hb
      exact ⟨y.2, hf⟩
    · cases h
theorem formsD : (Rows.laid_loop_example_g00533_impl_opForms : DataW Unit) = .agg (formsL.map fun f => .agg [.lit (.string f.1), .lit (.bool f.2.1), .lit (.int .i64 f.2.2.1), .lit (.int .i64 f.2.2.2)]) := by kernel_rfl
theorem forms_of_head {rest : List (String × DataW Unit)} {w : World} (h : laidMet Tryz.prog (("loop.example/g00533/impl.opForms", Rows.laid_loop_example_g00533_impl_opForms) :: rest) w) : Forms w := by
  have hw : Tryz.prog.globalNamed "loop.example/g00533/impl.opForms" = some 0 := by kernel_rfl
  obtain ⟨ps, ⟨g', t', cs, fuel, p, q, hg', ht', hvar, hd, _, _⟩, _⟩ := h
  obtain rfl := Option.some.inj (hw.symm.trans hg')
  obtain rfl := Option.some.inj ((show (Tryz.prog.globals[(0 : Nat)]?).map (·.type) = some 151 by kernel_rfl).symm.trans ht')
  rw [formsD] at hd
  obtain ⟨hl, fuel', hf⟩ := trod_array Tryz.underlying151 hd
  have hz : Tryz.prog.cellsOf 150 = 4 := by kernel_rfl
  intro k fm hk
  obtain ⟨r, hr⟩ := hf k _ (by rw [List.getElem?_map, hk]; rfl)
  have hc := form_cells hr
  rw [hz] at hc
  have at_ : ∀ j x, j < 4 → [str fm.1, .bool fm.2.1, .int .i64 fm.2.2.1, .int .i64 fm.2.2.2][j]? = some x → w.cell? ⟨0, k * 4 + j, none⟩ = some x := fun j x hj hx => by
    rw [← hc, List.getElem?_take, if_pos hj, List.getElem?_drop, Array.getElem?_toList] at hx
    have h0 := World.var?_cell hw hvar (k * 4 + j)
    rw [h0]
    exact hx
  exact ⟨at_ 0 _ (by omega) rfl, at_ 1 _ (by omega) rfl, at_ 2 _ (by omega) rfl, at_ 3 _ (by omega) rfl⟩

end Go.Proofs.YtigcbegeaikfcaaGreatDoor

namespace Go.Proofs.YtigcbegeaikfcaaGreatDoor
open Go.RowKit
set_option linter.unusedVariables false

/-- Is it an op? -/
def opB (o : Opv) : Bool :=
  if o.1 = 1 then wordB o.2.1 && decide (o.2.2 = [])
  else if o.1 = 2 ∨ o.1 = 4 then nameB o.2.2 && decide (o.2.1 = 0)
  else if o.1 = 3 then inB o.2.1 1 6 && decide (o.2.2 = [])
  else if o.1 = 5 then nameB o.2.2 && inB o.2.1 0 3
  else if o.1 = 6 then inB o.2.1 0 3 && decide (o.2.2 = [])
  else if o.1 = 7 ∨ o.1 = 8 then inB o.2.1 0 300 && decide (o.2.2 = [])
  else inB o.1 9 10 && (decide (o.2.1 = 0) && decide (o.2.2 = []))
def nmF (f : List UInt8 × Bool × Int × Int) (s : List UInt8) : Bool := if f.2.1 = true then nameB s else decide (s = [])
def noF (f : List UInt8 × Bool × Int × Int) (n : Int) : Bool := decide (f.2.2.1 ≤ n) && decide (n ≤ f.2.2.2)
theorem word_in (n : Int) : wordB n = (decide (-2147483648 ≤ n) && decide (n ≤ 2147483647)) := by unfold wordB inB; exact Bool.decide_and _ _
theorem opB_form {o : Opv} {k : Nat} {f : List UInt8 × Bool × Int × Int} (hk : o.1 = k) (h1 : 1 ≤ k) (hf : formsL[k]? = some f) : opB o = (nmF f o.2.2 && noF f o.2.1) := by
  obtain ⟨a, n, s⟩ := o
  dsimp only at hk ⊢
  subst hk
  have h10 : k < 11 := by have := (List.getElem?_eq_some_iff.1 hf).1; simpa [formsL] using this
  have hz : ∀ n : Int, decide (n = 0) = (decide (0 ≤ n) && decide (n ≤ 0)) := fun n => by
    rw [← Bool.decide_and]; congr 1; exact propext ⟨fun h => by omega, fun h => by omega⟩
  match k, h1, h10, hf with
  | 1, _, _, hf => injection hf with hf; subst hf; simp [opB, nmF, noF, word_in, Bool.and_comm]
  | 2, _, _, hf => injection hf with hf; subst hf; simp [opB, nmF, noF, hz]
  | 3, _, _, hf => injection hf with hf; subst hf; simp [opB, nmF, noF, inB, Bool.and_comm]
  | 4, _, _, hf => injection hf with hf; subst hf; simp [opB, nmF, noF, hz]
  | 5, _, _, hf => injection hf with hf; subst hf; simp [opB, nmF, noF, inB]
  | 6, _, _, hf => injection hf with hf; subst hf; simp [opB, nmF, noF, inB, Bool.and_comm]
  | 7, _, _, hf => injection hf with hf; subst hf; simp [opB, nmF, noF, inB, Bool.and_comm]
  | 8, _, _, hf => injection hf with hf; subst hf; simp [opB, nmF, noF, inB, Bool.and_comm]
  | 9, _, _, hf => injection hf with hf; subst hf; simp [opB, nmF, noF, inB, hz, Bool.and_comm]
  | 10, _, _, hf => injection hf with hf; subst hf; simp [opB, nmF, noF, inB, hz, Bool.and_comm]
theorem opB_out {o : Opv} (h : o.1 < 1 ∨ 10 < o.1) : opB o = false := by
  unfold opB
  rw [if_neg (by omega), if_neg (by omega), if_neg (by omega), if_neg (by omega), if_neg (by omega), if_neg (by omega)]
  have : inB o.1 9 10 = false := by unfold inB; simp; omega
  rw [this]
  rfl

set_option maxHeartbeats 1000000 in
theorem takesName8_any (f : List UInt8 × Bool × Int × Int) (s : List UInt8) (hs : s.length ≤ 1048576) (w : World) :
    Calls Tryz.prog 133 #[.agg #[str f.1, .bool f.2.1, .int .i64 f.2.2.1, .int .i64 f.2.2.2], str s] w (BoolLt w (nmF f s)) := by
  obtain ⟨wd, nm, l, m⟩ := f
  unfold nmF
  dsimp only
  cases nm
  · have HE : Hid ((s == []) = decide (s = [])) := Lib.hid (by cases s <;> simp)
    rw [if_neg (by simp)]
    go_enter Tryz.func133, Tryz.ntmps133
    go_wp2_with fail
    go_ret
    exact ⟨ret_bool (by cases s <;> simp), (Below.refl _ _).alloc (Nat.le_refl _) _⟩
  · rw [if_pos rfl]
    go_enter Tryz.func133, Tryz.ntmps133
    go_wp2_with fail
    refine (iNameOk_any s hs _).mono ?_
    rintro e w1 ⟨rfl, rfl⟩
    go_wp2_with fail
    go_ret
    exact ⟨rfl, (Below.refl _ _).alloc (Nat.le_refl _) _⟩

set_option maxHeartbeats 1000000 in
theorem takesNumber8_any (f : List UInt8 × Bool × Int × Int) (n : Int) (w : World) :
    Calls Tryz.prog 134 #[.agg #[str f.1, .bool f.2.1, .int .i64 f.2.2.1, .int .i64 f.2.2.2], .int .i64 n] w (BoolLt w (noF f n)) := by
  obtain ⟨wd, nm, l, m⟩ := f
  unfold noF
  dsimp only
  by_cases h1 : l ≤ n
  · by_cases h2 : n ≤ m
    all_goals
      go_enter Tryz.func134, Tryz.ntmps134
      go_wp2_with fail
      go_ret
      exact ⟨ret_bool (by simp <;> omega), (Below.refl _ _).alloc (Nat.le_refl _) _⟩
  · go_enter Tryz.func134, Tryz.ntmps134
    go_wp2_with fail
    go_ret
    exact ⟨ret_bool (by simp <;> omega), (Below.refl _ _).alloc (Nat.le_refl _) _⟩

set_option maxRecDepth 100000 in
set_option maxHeartbeats 4000000 in
theorem iOpOk_any (o : Opv) (hs : o.2.2.length ≤ 1048576) (w : World) (F : Forms w) : Calls Tryz.prog 96 #[.agg #[.int .i64 o.1, .int .i64 o.2.1, str o.2.2]] w (BoolLt w (opB o)) := by
  obtain ⟨a, n, s⟩ := o
  dsimp only at hs ⊢
  have b0 : Below w.heap.size w (w.alloc (.cells #[.int .i64 a, .int .i64 n, str s] 41)) := (Below.refl _ _).alloc (Nat.le_refl _) _
  by_cases h1 : a < 1
  · rw [opB_out (o := (a, n, s)) (.inl h1)]
    go_enter Tryz.func96, Tryz.ntmps96
    go_wp2_with fail
    go_ret
    exact ⟨rfl, b0⟩
  by_cases h2 : 10 < a
  · rw [opB_out (o := (a, n, s)) (.inr h2)]
    have h3 : ¬ a < 1 := h1
    go_enter Tryz.func96, Tryz.ntmps96
    go_wp2_with fail
    go_ret
    exact ⟨rfl, b0⟩
  obtain ⟨k, rfl⟩ : ∃ k : Nat, a = k := ⟨a.toNat, by omega⟩
  have hk : k < formsL.length := by simp [formsL]; omega
  have hf := List.getElem?_eq_getElem hk
  generalize formsL[k] = f at hf
  rw [opB_form (o := ((k : Int), n, s)) rfl (by omega) hf]
  obtain ⟨c0, c1, c2, c3⟩ := (F.below b0) k f hf
  have HN := Lib.hid (fun w => takesName8_any f s hs w)
  have HM := Lib.hid (fun w => takesNumber8_any f n w)
  have hi : (0 : Int) ≤ (k : Int) ∧ (k : Int) < 11 := by omega
  dsimp only
  generalize nmF f s = x at HN ⊢
  generalize noF f n = y at HM ⊢
  obtain ⟨wd, nm, l, m⟩ := f
  dsimp only at *
  clear hf F hk
  go_enter Tryz.func96, Tryz.ntmps96
  go_wp2_with fail
  refine (HN.out _).mono ?_
  rintro e w1 ⟨rfl, b1⟩
  have bb := below_then (b0.alloc b0.size (.cells #[str wd, .bool nm, .int .i64 l, .int .i64 m] 150)) b1 (Nat.le_refl _)
  have f1 : w1.cell? ⟨w.heap.size, 1, none⟩ = some (.int .i64 n) := (b1.cell (p := ⟨w.heap.size, 1, none⟩) (by simp; omega)).trans (by rw [World.cell?_alloc_lt _ _ _ (by simp), cell_of_row _ _ 1 _ _ (0, 0) (heap_alloc_new _ _)]; rfl)
  have g0 : w1.cell? ⟨w.heap.size + 1, 0, none⟩ = some (str wd) := (b1.cell (p := ⟨w.heap.size + 1, 0, none⟩) (by simp)).trans (by
    have hnw := heap_alloc_new (w.alloc (.cells #[.int .i64 (k : Int), .int .i64 n, str s] 41)) (.cells #[str wd, .bool nm, .int .i64 l, .int .i64 m] 150)
    rw [World.size_alloc] at hnw
    rw [cell_of_row _ _ 0 _ _ (0, 0) hnw]
    rfl)
  have g1 : w1.cell? ⟨w.heap.size + 1, 1, none⟩ = some (.bool nm) := (b1.cell (p := ⟨w.heap.size + 1, 1, none⟩) (by simp)).trans (by
    have hnw := heap_alloc_new (w.alloc (.cells #[.int .i64 (k : Int), .int .i64 n, str s] 41)) (.cells #[str wd, .bool nm, .int .i64 l, .int .i64 m] 150)
    rw [World.size_alloc] at hnw
    rw [cell_of_row _ _ 1 _ _ (0, 0) hnw]
    rfl)
  have g2 : w1.cell? ⟨w.heap.size + 1, 2, none⟩ = some (.int .i64 l) := (b1.cell (p := ⟨w.heap.size + 1, 2, none⟩) (by simp)).trans (by
    have hnw := heap_alloc_new (w.alloc (.cells #[.int .i64 (k : Int), .int .i64 n, str s] 41)) (.cells #[str wd, .bool nm, .int .i64 l, .int .i64 m] 150)
    rw [World.size_alloc] at hnw
    rw [cell_of_row _ _ 2 _ _ (0, 0) hnw]
    rfl)
  have g3 : w1.cell? ⟨w.heap.size + 1, 3, none⟩ = some (.int .i64 m) := (b1.cell (p := ⟨w.heap.size + 1, 3, none⟩) (by simp)).trans (by
    have hnw := heap_alloc_new (w.alloc (.cells #[.int .i64 (k : Int), .int .i64 n, str s] 41)) (.cells #[str wd, .bool nm, .int .i64 l, .int .i64 m] 150)
    rw [World.size_alloc] at hnw
    rw [cell_of_row _ _ 3 _ _ (0, 0) hnw]
    rfl)
  cases x
  · go_wp2_with fail
    go_ret
    exact ⟨ret_bool (by simp), bb⟩
  · go_wp2_with fail
    refine (HM.out _).mono ?_
    rintro e w2 ⟨rfl, b2⟩
    go_wp2_with fail
    go_ret
    exact ⟨ret_bool (by simp), below_then bb b2 (Nat.le_refl _)⟩

set_option maxHeartbeats 1000000 in
theorem l8Place_any (n : Int) (w : World) : Calls Tryz.prog 62 #[.int .i64 n] w fun e w' => e = .returned (.bool (inB n 0 300)) ∧ w = w' := by
  go_enter Tryz.func62, Tryz.ntmps62
  go_wp2_with fail
  refine (in_any n 0 300 _).mono ?_
  rintro e w1 ⟨rfl, rfl⟩
  go_wp2_with fail
  go_ret
  exact ⟨rfl, rfl⟩

set_option maxRecDepth 100000 in
set_option maxHeartbeats 4000000 in
theorem sOpOk_any (o : Opv) (hs : o.2.2.length ≤ 1048576) (w : World) : Calls Tryz.prog 105 #[.agg #[.int .i64 o.1, .int .i64 o.2.1, str o.2.2]] w (BoolLt w (opB o)) := by
  obtain ⟨a, n, s⟩ := o
  dsimp only at hs ⊢
  have b0 : Below w.heap.size w (w.alloc (.cells #[.int .i64 a, .int .i64 n, str s] 41)) := (Below.refl _ _).alloc (Nat.le_refl _) _
  by_cases h1 : a = 1
  · subst h1
    have HE : Hid (opB (1, n, s) = (wordB n && decide (s = []))) := Lib.hid (by simp [opB])
    rw [HE.out]
    obtain ⟨x, hx⟩ : ∃ x, x = wordB n := ⟨_, rfl⟩
    have HX := Lib.hid hx
    rw [← hx]
    clear hx HE
    go_enter Tryz.func105, Tryz.ntmps105
    go_wp2_with fail
    refine (l5Word_any n _).mono ?_
    rintro e w1 ⟨rfl, rfl⟩
    rw [← HX.out]
    cases x
    · go_wp2_with fail
      go_ret
      exact ⟨ret_bool (by simp), b0⟩
    · go_wp2_with fail
      go_ret
      exact ⟨ret_bool (by cases s <;> simp), b0⟩
  by_cases h2 : a = 2
  · subst h2
    have HE : Hid (opB (2, n, s) = (nameB s && decide (n = 0))) := Lib.hid (by simp [opB])
    rw [HE.out]
    obtain ⟨x, hx⟩ : ∃ x, x = nameB s := ⟨_, rfl⟩
    have HX := Lib.hid hx
    rw [← hx]
    clear hx HE
    go_enter Tryz.func105, Tryz.ntmps105
    go_wp2_with fail
    refine (sNameOk_any s hs _).mono ?_
    rintro e w1 ⟨rfl, rfl⟩
    rw [← HX.out]
    cases x
    · go_wp2_with fail
      go_ret
      exact ⟨ret_bool (by simp), b0⟩
    · go_wp2_with fail
      go_ret
      exact ⟨ret_bool (by by_cases hn : n = 0 <;> simp [hn]), b0⟩
  by_cases h4 : a = 4
  · subst h4
    have HE : Hid (opB (4, n, s) = (nameB s && decide (n = 0))) := Lib.hid (by simp [opB])
    rw [HE.out]
    obtain ⟨x, hx⟩ : ∃ x, x = nameB s := ⟨_, rfl⟩
    have HX := Lib.hid hx
    rw [← hx]
    clear hx HE
    go_enter Tryz.func105, Tryz.ntmps105
    go_wp2_with fail
    refine (sNameOk_any s hs _).mono ?_
    rintro e w1 ⟨rfl, rfl⟩
    rw [← HX.out]
    cases x
    · go_wp2_with fail
      go_ret
      exact ⟨ret_bool (by simp), b0⟩
    · go_wp2_with fail
      go_ret
      exact ⟨ret_bool (by by_cases hn : n = 0 <;> simp [hn]), b0⟩
  by_cases h3 : a = 3
  · subst h3
    have HE : Hid (opB (3, n, s) = (inB n 1 6 && decide (s = []))) := Lib.hid (by simp [opB])
    rw [HE.out]
    obtain ⟨x, hx⟩ : ∃ x, x = inB n 1 6 := ⟨_, rfl⟩
    have HX := Lib.hid hx
    rw [← hx]
    clear hx HE
    go_enter Tryz.func105, Tryz.ntmps105
    go_wp2_with fail
    refine (in_any n 1 6 _).mono ?_
    rintro e w1 ⟨rfl, rfl⟩
    rw [← HX.out]
    cases x
    · go_wp2_with fail
      go_ret
      exact ⟨ret_bool (by simp), b0⟩
    · go_wp2_with fail
      go_ret
      exact ⟨ret_bool (by cases s <;> simp), b0⟩
  by_cases h5 : a = 5
  · subst h5
    have HE : Hid (opB (5, n, s) = (nameB s && inB n 0 3)) := Lib.hid (by simp [opB])
    rw [HE.out]
    obtain ⟨x, hx⟩ : ∃ x, x = nameB s := ⟨_, rfl⟩
    have HX := Lib.hid hx
    rw [← hx]
    clear hx HE
    go_enter Tryz.func105, Tryz.ntmps105
    go_wp2_with fail
    refine (sNameOk_any s hs _).mono ?_
    rintro e w1 ⟨rfl, rfl⟩
    rw [← HX.out]
    cases x
    · go_wp2_with fail
      go_ret
      exact ⟨ret_bool (by simp), b0⟩
    · go_wp2_with fail
      refine (in_any n 0 3 _).mono ?_
      rintro e w1 ⟨rfl, rfl⟩
      go_wp2_with fail
      go_ret
      exact ⟨ret_bool (by simp), b0⟩
  by_cases h6 : a = 6
  · subst h6
    have HE : Hid (opB (6, n, s) = (inB n 0 3 && decide (s = []))) := Lib.hid (by simp [opB])
    rw [HE.out]
    obtain ⟨x, hx⟩ : ∃ x, x = inB n 0 3 := ⟨_, rfl⟩
    have HX := Lib.hid hx
    rw [← hx]
    clear hx HE
    go_enter Tryz.func105, Tryz.ntmps105
    go_wp2_with fail
    refine (in_any n 0 3 _).mono ?_
    rintro e w1 ⟨rfl, rfl⟩
    rw [← HX.out]
    cases x
    · go_wp2_with fail
      go_ret
      exact ⟨ret_bool (by simp), b0⟩
    · go_wp2_with fail
      go_ret
      exact ⟨ret_bool (by cases s <;> simp), b0⟩
  by_cases h7 : a = 7
  · subst h7
    have HE : Hid (opB (7, n, s) = (inB n 0 300 && decide (s = []))) := Lib.hid (by simp [opB])
    rw [HE.out]
    obtain ⟨x, hx⟩ : ∃ x, x = inB n 0 300 := ⟨_, rfl⟩
    have HX := Lib.hid hx
    rw [← hx]
    clear hx HE
    go_enter Tryz.func105, Tryz.ntmps105
    go_wp2_with fail
    refine (l8Place_any n _).mono ?_
    rintro e w1 ⟨rfl, rfl⟩
    rw [← HX.out]
    cases x
    · go_wp2_with fail
      go_ret
      exact ⟨ret_bool (by simp), b0⟩
    · go_wp2_with fail
      go_ret
      exact ⟨ret_bool (by cases s <;> simp), b0⟩
  by_cases h8 : a = 8
  · subst h8
    have HE : Hid (opB (8, n, s) = (inB n 0 300 && decide (s = []))) := Lib.hid (by simp [opB])
    rw [HE.out]
    obtain ⟨x, hx⟩ : ∃ x, x = inB n 0 300 := ⟨_, rfl⟩
    have HX := Lib.hid hx
    rw [← hx]
    clear hx HE
    go_enter Tryz.func105, Tryz.ntmps105
    go_wp2_with fail
    refine (l8Place_any n _).mono ?_
    rintro e w1 ⟨rfl, rfl⟩
    rw [← HX.out]
    cases x
    · go_wp2_with fail
      go_ret
      exact ⟨ret_bool (by simp), b0⟩
    · go_wp2_with fail
      go_ret
      exact ⟨ret_bool (by cases s <;> simp), b0⟩
  have HE : Hid (opB (a, n, s) = (inB a 9 10 && (decide (n = 0) && decide (s = [])))) := Lib.hid (by
    unfold opB
    dsimp only
    rw [if_neg h1, if_neg (by omega), if_neg h3, if_neg h5, if_neg h6, if_neg (by omega)])
  rw [HE.out]
  obtain ⟨x, hx⟩ : ∃ x, x = inB a 9 10 := ⟨_, rfl⟩
  have HX := Lib.hid hx
  rw [← hx]
  clear hx HE
  have e1 : (a == 1) = false := by simpa using h1
  have e2 : (a == 2) = false := by simpa using h2
  have e3 : (a == 3) = false := by simpa using h3
  have e4 : (a == 4) = false := by simpa using h4
  have e5 : (a == 5) = false := by simpa using h5
  have e6 : (a == 6) = false := by simpa using h6
  have e7 : (a == 7) = false := by simpa using h7
  have e8 : (a == 8) = false := by simpa using h8
  clear h1 h2 h3 h4 h5 h6 h7 h8
  go_enter Tryz.func105, Tryz.ntmps105
  go_wp2_with fail
  refine (in_any a 9 10 _).mono ?_
  rintro e w1 ⟨rfl, rfl⟩
  rw [← HX.out]
  cases x
  · go_wp2_with fail
    go_ret
    exact ⟨ret_bool (by simp), b0⟩
  · by_cases hn : n = 0
    · subst hn
      by_cases hs0 : s = []
      · subst hs0
        go_wp2_with fail
        all_goals go_ret
        all_goals exact ⟨ret_bool (by simp_all), b0⟩
      · have es : (s == []) = false := by simpa using hs0
        go_wp2_with fail
        all_goals go_ret
        all_goals exact ⟨ret_bool (by simp_all), b0⟩
    · have en : (n == 0) = false := by simpa using hn
      go_wp2_with fail
      all_goals go_ret
      all_goals exact ⟨ret_bool (by simp_all), b0⟩

end Go.Proofs.YtigcbegeaikfcaaGreatDoor
