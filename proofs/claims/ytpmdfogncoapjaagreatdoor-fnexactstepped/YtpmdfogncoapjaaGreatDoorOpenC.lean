/- Arguments opened: a Core by value. No function of the program is named. -/
import Derived.Test.YtpmdfogncoapjaaGreatDoorOpenB
namespace Go.Proofs.YtpmdfogncoapjaaGreatDoor
open Go.ChangeShapes Go.WideShapes Go.ChangeAt Go.RowKit Go.Deep Go.Joins
set_option linter.unusedVariables false

section
variable {H : Type} {enc : TypeId × Value → H} {P : Program} {w : World} {base : Nat} {sp : Nat → Bool} {hd : Bool}

/-- A struct of a number, a slice of numbers, a slice of boxes, a slice of numbers and a number, by value. -/
theorem open_core {r : Reach} {b0 : Nat} {t e1 e2 e3 : TypeId} {f0 f1 f2 f3 f4 g0 g1 : Field} {v : Value} {d : DataW H} {p : List MemPlace} (hs : P.underlying t = some (.struct #[f0, f1, f2, f3, f4]))
    (o0 : f0.offset = 0) (o1 : f1.offset = 1) (o2 : f2.offset = 2) (o3 : f3.offset = 3) (o4 : f4.offset = 4)
    (c0 : P.cellsOf f0.type = 1) (c1 : P.cellsOf f1.type = 1) (c2 : P.cellsOf f2.type = 1) (c3 : P.cellsOf f3.type = 1) (c4 : P.cellsOf f4.type = 1)
    (h0 : P.underlying f0.type = some (.int .i64)) (h1 : P.underlying f1.type = some (.slice e1)) (h2 : P.underlying f2.type = some (.slice e2)) (h3 : P.underlying f3.type = some (.slice e3)) (h4 : P.underlying f4.type = some (.int .i64))
    (k1 : P.underlying e1 = some (.int .i64)) (m1 : P.cellsOf e1 = 1) (k3 : P.underlying e3 = some (.int .i64)) (m3 : P.cellsOf e3 = 1)
    (k2 : P.underlying e2 = some (.struct #[g0, g1])) (m2 : P.cellsOf e2 = 2) (q0 : g0.offset = 0) (q1 : g1.offset = 1) (z0 : P.cellsOf g0.type = 1) (z1 : P.cellsOf g1.type = 1) (y0 : P.underlying g0.type = some .string) (y1 : P.underlying g1.type = some (.int .i64))
    (hC : P.cellsOf t = 5) (hv : Value.okWide P w r b0 t v) (h : DataW.Trod enc P w base sp hd t v d p) :
    ∃ (x y : Int) (v1 v2 v3 : Value) (zs : List Int) (bs : List Bx) (rs : List Int), v = .agg #[.int .i64 x, v1, v2, v3, .int .i64 y] ∧ SeeI w w.heap.size v1 zs ∧ SeeBx w w.heap.size v2 bs ∧ SeeI w w.heap.size v3 rs ∧ ∀ b ∈ bs, b.1.length ≤ 9223372036854775807 := by
  obtain ⟨cs, rfl, hsz⟩ := okWide_struct hs hv
  obtain ⟨fuel, hf⟩ := h
  obtain ⟨l⟩ := cs
  obtain ⟨xs, n, _, _, _, hlen, hg⟩ := DataW.trod_struct hs hf
  match xs, hlen, l, hsz.trans hC with
  | [x0, x1, x2, x3, x4], _, [w0, w1, w2, w3, w4], _ =>
    have g0 := hg 0 f0 rfl
    have g1 := hg 1 f1 rfl
    have g2 := hg 2 f2 rfl
    have g3 := hg 3 f3 rfl
    have g4 := hg 4 f4 rfl
    simp [Value.cells, o0, o1, o2, o3, o4, c0, c1, c2, c3, c4] at g0 g1 g2 g3 g4
    obtain ⟨a, r0, -, -⟩ := DataW.trod_int h0 g0
    obtain ⟨b, r4, -, -⟩ := DataW.trod_int h4 g4
    injection r0 with r0
    injection r4 with r4
    subst r0 r4
    obtain ⟨zs, s1⟩ := see_ints h1 k1 m1 g1
    obtain ⟨bs, s2, hb⟩ := see_boxes h2 k2 m2 q0 q1 z0 z1 y0 y1 g2
    obtain ⟨rs, s3⟩ := see_ints h3 k3 m3 g3
    exact ⟨a, b, w1, w2, w3, zs, bs, rs, rfl, s1, s2, s3, hb⟩
end

end Go.Proofs.YtpmdfogncoapjaaGreatDoor
