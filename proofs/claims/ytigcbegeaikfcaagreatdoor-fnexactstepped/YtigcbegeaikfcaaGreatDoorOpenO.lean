/- Arguments opened: a Core by value. No function of the program is named. Arguments opened: an Op by value, a slice of Ops. No function of the program is named. Arguments opened: slots (a slice of slices of int64) that came in; with a Core and Ops. No function of the program is named. -/
import Derived.Test.YtigcbegeaikfcaaGreatDoorOpenB
import Derived.Test.YtigcbegeaikfcaaGreatDoorOpenH
import Derived.Test.YtigcbegeaikfcaaGreatDoorOpR
import Derived.Test.YtigcbegeaikfcaaGreatDoorCoreM
import Derived.SliceStrings
import Derived.Deep.Slices
import Derived.DataReads
namespace Go.Proofs.YtigcbegeaikfcaaGreatDoor
open Go.ChangeShapes Go.WideShapes Go.ChangeAt Go.RowKit Go.Deep Go.Joins
set_option linter.unusedVariables false

section
variable {H : Type} {enc : TypeId × Value → H} {P : Program} {w : World} {base : Nat} {sp : Nat → Bool} {hd : Bool}

/-- A struct of a number, a slice of numbers, a slice of boxes, a slice of numbers and a number, by value. -/
theorem open_core {r : Reach} {b0 : Nat} {t e1 e2 e3 : TypeId} {f0 f1 f2 f3 f4 g0 g1 : Field} {v : Value} {d : DataW H} {p : List MemPlace} (hs : P.underlying t = some (.struct #[f0, f1, f2, f3, f4]))
    (o0 : f0.offset = 0) (o1 : f1.offset = 1) (o2 : f2.offset = 2) (o3 : f3.offset = 3) (o4 : f4.offset = 4)
    (c0 : P.cellsOf f0.type = 1) (c1 : P.cellsOf f1.type = 1) (c2 : P.cellsOf f2.type = 1) (c3 : P.cellsOf f3.type = 1) (c4 : P.cellsOf f4.type = 1)
    (h0 : P.underlying f0.type = some (.int .i64)) (h1 : P.underlying f1.type = some (.slice e1)) (h2 : P.underlying f2.type = some (.slice e2)) (h3 : P.underlying f3.type = some (.slice e3)) (h4 : P.underlying f4.type = some (.int .i64))
    (k1 : P.underlying e1 = some (.int .i64)) (m1 : P.cellsOf e1 = 1) (k3 : P.underlying e3 = some (.int .i64)) (m3 : P.cellsOf e3 = 1)
    (k2 : P.underlying e2 = some (.struct #[g0, g1])) (m2 : P.cellsOf e2 = 2) (q0 : g0.offset = 0) (q1 : g1.offset = 1) (z0 : P.cellsOf g0.type = 1) (z1 : P.cellsOf g1.type = 1) (y0 : P.underlying g0.type = some .string) (y1 : P.underlying g1.type = some (.int .i64))
    (hC : P.cellsOf t = 5) (hv : Value.okWide P w r b0 t v) (h : DataW.Trod enc P w base sp hd t v d p) :
    ∃ (x y : Int) (v1 v2 v3 : Value) (zs : List Int) (bs : List Bx) (rs : List Int), v = .agg #[.int .i64 x, v1, v2, v3, .int .i64 y] ∧ SeeI w w.heap.size v1 zs ∧ SeeBx w w.heap.size v2 bs ∧ SeeI w w.heap.size v3 rs ∧ ∀ b ∈ bs, b.1.length ≤ 9223372036854775807 := by
  obtain ⟨cs, rfl, hsz⟩ := okWide_struct hs hv
  obtain ⟨fuel, hf⟩ := h
  obtain ⟨l⟩ := cs
  obtain ⟨xs, n, _, _, _, hlen, hg⟩ := DataW.trod_struct hs hf
  match xs, hlen, l, hsz.trans hC with
  | [x0, x1, x2, x3, x4], _, [w0, w1, w2, w3, w4], _ =>
    have g0 := hg 0 f0 rfl
    have g1 := hg 1 f1 rfl
    have g2 := hg 2 f2 rfl
    have g3 := hg 3 f3 rfl
    have g4 := hg 4 f4 rfl
    simp [Value.cells, o0, o1, o2, o3, o4, c0, c1, c2, c3, c4] at g0 g1 g2 g3 g4
    obtain ⟨a, r0, -, -⟩ := DataW.trod_int h0 g0
    obtain ⟨b, r4, -, -⟩ := DataW.trod_int h4 g4
    injection r0 with r0
    injection r4 with r4
    subst r0 r4
    obtain ⟨zs, s1⟩ := see_ints h1 k1 m1 g1
    obtain ⟨bs, s2, hb⟩ := see_boxes h2 k2 m2 q0 q1 z0 z1 y0 y1 g2
    obtain ⟨rs, s3⟩ := see_ints h3 k3 m3 g3
    exact ⟨a, b, w1, w2, w3, zs, bs, rs, rfl, s1, s2, s3, hb⟩
end

end Go.Proofs.YtigcbegeaikfcaaGreatDoor

namespace Go.Proofs.YtigcbegeaikfcaaGreatDoor
open Go.ChangeShapes Go.WideShapes Go.ChangeAt Go.RowKit Go.Deep Go.Joins
set_option linter.unusedVariables false

section
variable {H : Type} {enc : TypeId × Value → H} {P : Program} {w : World} {base : Nat} {sp : Nat → Bool} {hd : Bool}

/-- Three cells that read as an Op are one. -/
theorem op_cells {e : TypeId} {f0 f1 f2 : Field} {fuel : Nat} {cs : List Value} {y : DataW H × List MemPlace} (he : P.underlying e = some (.struct #[f0, f1, f2])) (o0 : f0.offset = 0) (o1 : f1.offset = 1) (o2 : f2.offset = 2)
    (c0 : P.cellsOf f0.type = 1) (c1 : P.cellsOf f1.type = 1) (c2 : P.cellsOf f2.type = 1) (h0 : P.underlying f0.type = some (.int .i64)) (h1 : P.underlying f1.type = some (.int .i64)) (h2 : P.underlying f2.type = some .string)
    (hl : cs.length = 3) (h : DataW.trod enc P w base sp hd fuel e cs = some y) : ∃ o : Opv, cs = opV o ∧ o.2.2.length ≤ 9223372036854775807 := by
  obtain ⟨xs, n, _, _, _, hlen, hf⟩ := DataW.trod_struct he h
  match xs, hlen, cs, hl with
  | [y0, y1, y2], _, [v0, v1, v2], _ =>
    have g0 := hf 0 f0 rfl
    have g1 := hf 1 f1 rfl
    have g2 := hf 2 f2 rfl
    simp [o0, o1, o2, c0, c1, c2] at g0 g1 g2
    obtain ⟨a, q0, -, -⟩ := DataW.trod_int h0 g0
    obtain ⟨b, q1, -, -⟩ := DataW.trod_int h1 g1
    obtain ⟨s, q2, -, hz⟩ := DataW.trod_string h2 g2
    injection q0 with q0
    injection q1 with q1
    injection q2 with q2
    subst q0 q1 q2
    refine ⟨(a, b, s.data.toList), ?_, ?_⟩
    · obtain ⟨⟨l⟩⟩ := s
      rfl
    · obtain ⟨⟨l⟩⟩ := s
      show l.length ≤ _
      have : l.length ≤ maxLen := hz
      unfold maxLen at this
      omega
theorem open_op {r : Reach} {b0 : Nat} {t : TypeId} {f0 f1 f2 : Field} {v : Value} {d : DataW H} {p : List MemPlace} (hs : P.underlying t = some (.struct #[f0, f1, f2])) (o0 : f0.offset = 0) (o1 : f1.offset = 1) (o2 : f2.offset = 2)
    (c0 : P.cellsOf f0.type = 1) (c1 : P.cellsOf f1.type = 1) (c2 : P.cellsOf f2.type = 1) (h0 : P.underlying f0.type = some (.int .i64)) (h1 : P.underlying f1.type = some (.int .i64)) (h2 : P.underlying f2.type = some .string) (hC : P.cellsOf t = 3)
    (hv : Value.okWide P w r b0 t v) (h : DataW.Trod enc P w base sp hd t v d p) : ∃ o : Opv, v = .agg #[.int .i64 o.1, .int .i64 o.2.1, str o.2.2] ∧ o.2.2.length ≤ 9223372036854775807 := by
  obtain ⟨cs, rfl, hsz⟩ := okWide_struct hs hv
  obtain ⟨fuel, hf⟩ := h
  obtain ⟨l⟩ := cs
  obtain ⟨o, ho, hl⟩ := op_cells hs o0 o1 o2 c0 c1 c2 h0 h1 h2 (hsz.trans hC) hf
  refine ⟨o, ?_, hl⟩
  have : l = opV o := ho
  rw [this]
end

end Go.Proofs.YtigcbegeaikfcaaGreatDoor
