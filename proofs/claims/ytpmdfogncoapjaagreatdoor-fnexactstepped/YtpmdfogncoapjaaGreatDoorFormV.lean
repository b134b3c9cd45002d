/- Layer 8 (steps): what the listed variable impl.opForms holds. -/
import Derived.Test.YtpmdfogncoapjaaGreatDoorWordV
import Derived.Test.YtpmdfogncoapjaaGreatDoorLowA
import Derived.Lib.LaidTab
namespace Go.Proofs.YtpmdfogncoapjaaGreatDoor
open Go.RowKit
set_option linter.unusedVariables false

/-- The forms of ops: word, is a name told, the least and the most number. -/
def formsL : List (List UInt8 × Bool × Int × Int) := [([], false, 0, 0), ([112, 117, 115, 104], false, -2147483648, 2147483647), ([108, 111, 97, 100], true, 0, 0), ([100, 111], false, 1, 6), ([115, 101, 116], true, 0, 0), ([105, 110], true, 0, 3), ([111, 117, 116], false, 0, 3), ([103, 111], false, 0, 300), ([117, 110, 108, 101, 115, 115], false, 0, 300), ([115, 116, 111, 112], false, 0, 0), ([101, 110, 100], false, 0, 0)]
def Forms (w : World) : Prop := ∀ k fm, formsL[k]? = some fm → w.cell? ⟨0, k * 4, none⟩ = some (str fm.1) ∧ w.cell? ⟨0, k * 4 + 1, none⟩ = some (.bool fm.2.1) ∧ w.cell? ⟨0, k * 4 + 2, none⟩ = some (.int .i64 fm.2.2.1) ∧ w.cell? ⟨0, k * 4 + 3, none⟩ = some (.int .i64 fm.2.2.2)

theorem Forms.below {w w' : World} (h : Forms w) (b : Below w.heap.size w w') : Forms w' := fun k fm hk => by
  obtain ⟨h0, h1, h2, h3⟩ := h k fm hk
  have hlt := World.block_lt_of_cell? w ⟨0, k * 4, none⟩ h0
  exact ⟨(b.cell hlt).trans h0, (b.cell (p := ⟨0, k * 4 + 1, none⟩) hlt).trans h1, (b.cell (p := ⟨0, k * 4 + 2, none⟩) hlt).trans h2, (b.cell (p := ⟨0, k * 4 + 3, none⟩) hlt).trans h3⟩

theorem lit_eq {H : Type} {a b : Lit} (h : (DataW.lit a : DataW H) = .lit b) : a = b := by injection h

set_option maxRecDepth 100000 in
theorem form_cells {H : Type} {enc : TypeId × Value → H} {w : World} {base : Nat} {sp : Nat → Bool} {held : Bool} {fuel : Nat} {cs : List Value} {a : List UInt8} {b : Bool} {l m : Int} {p : List MemPlace}
    (h : DataW.trod enc Tryz.prog w base sp held fuel 150 cs = some (.agg [.lit (.string a), .lit (.bool b), .lit (.int .i64 l), .lit (.int .i64 m)], p)) : cs = [str a, .bool b, .int .i64 l, .int .i64 m] := by
  obtain ⟨xs, n, -, hx, hl, hn, hf⟩ := DataW.trod_struct Tryz.underlying150 h
  have hx1 : [(.lit (.string a) : DataW H), .lit (.bool b), .lit (.int .i64 l), .lit (.int .i64 m)] = xs.map (·.1) := by
    have := congrArg Prod.fst hx
    simpa using this
  have hl4 : cs.length = 4 := by rw [hl]; kernel_rfl
  match xs, hx1 with
  | [y0, y1, y2, y3], hx1 =>
    simp only [List.map_cons, List.map_nil, List.cons.injEq, and_true] at hx1
    obtain ⟨e0, e1, e2, e3⟩ := hx1
    have f0 := hf 0 _ rfl
    have f1 := hf 1 _ rfl
    have f2 := hf 2 _ rfl
    have f3 := hf 3 _ rfl
    simp only [List.getElem?_cons_zero, List.getElem?_cons_succ] at f0 f1 f2 f3
    obtain ⟨s0, c0, q0, _⟩ := DataW.trod_string Tryz.underlying9 f0
    obtain ⟨s1, c1, q1⟩ := DataW.trod_bool Tryz.underlying4 f1
    obtain ⟨s2, c2, q2, _⟩ := DataW.trod_int Tryz.underlying2 f2
    obtain ⟨s3, c3, q3, _⟩ := DataW.trod_int Tryz.underlying2 f3
    have z9 : Tryz.prog.cellsOf 9 = 1 := by kernel_rfl
    have z4 : Tryz.prog.cellsOf 4 = 1 := by kernel_rfl
    have z2 : Tryz.prog.cellsOf 2 = 1 := by kernel_rfl
    subst q0 q1 q2 q3
    dsimp only at e0 e1 e2 e3 c0 c1 c2 c3
    replace c0 : (cs.drop 0).take (Tryz.prog.cellsOf 9) = [.string s0] := c0
    replace c1 : (cs.drop 1).take (Tryz.prog.cellsOf 4) = [.bool s1] := c1
    replace c2 : (cs.drop 2).take (Tryz.prog.cellsOf 2) = [.int .i64 s2] := c2
    replace c3 : (cs.drop 3).take (Tryz.prog.cellsOf 2) = [.int .i64 s3] := c3
    rw [z9] at c0
    rw [z4] at c1
    rw [z2] at c2 c3
    have e0 := lit_eq e0
    have e1 := lit_eq e1
    have e2 := lit_eq e2
    have e3 := lit_eq e3
    injection e0 with e0
    injection e1 with e1
    injection e2 with _ e2
    injection e3 with _ e3
    subst e0 e1 e2 e3
    match cs, hl4 with
    | [d0, d1, d2, d3], _ =>
      simp at c0 c1 c2 c3
      rw [c0, c1, c2, c3]
theorem trod_array {H : Type} {enc : TypeId × Value → H} {P : Program} {w : World} {base : Nat} {sp : Nat → Bool} {held : Bool} {fuel : Nat} {t e : TypeId} {n : Nat} {cs : List Value} {ds : List (DataW H)} {p : List MemPlace}
    (ht : P.underlying t = some (.array n e)) (h : DataW.trod enc P w base sp held fuel t cs = some (.agg ds, p)) :
    ds.length = n ∧ ∃ fuel', ∀ i d, ds[i]? = some d → ∃ q, DataW.trod enc P w base sp held fuel' e ((cs.drop (i * P.cellsOf e)).take (P.cellsOf e)) = some (d, q) := by
  cases fuel with
  | zero => simp [DataW.trod] at h
  | succ fuel =>
    simp only [DataW.trod, ht] at h
    split at h
    · obtain ⟨xs, hm, hx⟩ := Option.map_eq_some_iff.1 h
      have hxs : xs.map (·.1) = ds := by
        have := congrArg Prod.fst hx
        simpa using this
      have hxl : xs.length = n := by simpa using Lib.mapM_length hm
      subst hxs
      refine ⟨by simpa using hxl, fuel, fun i d hd => ?_⟩
      rw [List.getElem?_map] at hd
      obtain ⟨y, hy, rfl⟩ := Option.map_eq_some_iff.1 hd
      have hi : i < n := by rw [← hxl]; exact (List.getElem?_eq_some_iff.1 hy).1
      obtain ⟨b, hb, hf⟩ := Lib.mapM_at hm i i (by simp [hi])
      rw [hy] at hb
      injection hb with hb
      subst hb
      exact ⟨y.2, hf⟩
    · cases h
theorem formsD : (Rows.laid_loop_example_g00533_impl_opForms : DataW Unit) = .agg (formsL.map fun f => .agg [.lit (.string f.1), .lit (.bool f.2.1), .lit (.int .i64 f.2.2.1), .lit (.int .i64 f.2.2.2)]) := by kernel_rfl
theorem forms_of_head {rest : List (String × DataW Unit)} {w : World} (h : laidMet Tryz.prog (("loop.example/g00533/impl.opForms", Rows.laid_loop_example_g00533_impl_opForms) :: rest) w) : Forms w := by
  have hw : Tryz.prog.globalNamed "loop.example/g00533/impl.opForms" = some 0 := by kernel_rfl
  obtain ⟨ps, ⟨g', t', cs, fuel, p, q, hg', ht', hvar, hd, _, _⟩, _⟩ := h
  obtain rfl := Option.some.inj (hw.symm.trans hg')
  obtain rfl := Option.some.inj ((show (Tryz.prog.globals[(0 : Nat)]?).map (·.type) = some 151 by kernel_rfl).symm.trans ht')
  rw [formsD] at hd
  obtain ⟨hl, fuel', hf⟩ := trod_array Tryz.underlying151 hd
  have hz : Tryz.prog.cellsOf 150 = 4 := by kernel_rfl
  intro k fm hk
  obtain ⟨r, hr⟩ := hf k _ (by rw [List.getElem?_map, hk]; rfl)
  have hc := form_cells hr
  rw [hz] at hc
  have at_ : ∀ j x, j < 4 → [str fm.1, .bool fm.2.1, .int .i64 fm.2.2.1, .int .i64 fm.2.2.2][j]? = some x → w.cell? ⟨0, k * 4 + j, none⟩ = some x := fun j x hj hx => by
    rw [← hc, List.getElem?_take, if_pos hj, List.getElem?_drop, Array.getElem?_toList] at hx
    have h0 := World.var?_cell hw hvar (k * 4 + j)
    rw [h0]
    exact hx
  exact ⟨at_ 0 _ (by omega) rfl, at_ 1 _ (by omega) rfl, at_ 2 _ (by omega) rfl, at_ 3 _ (by omega) rfl⟩

end Go.Proofs.YtpmdfogncoapjaaGreatDoor
