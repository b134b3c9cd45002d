/- Arguments opened: a Core by value. No function of the program is named. Arguments opened: an Op by value, a slice of Ops. No function of the program is named. Arguments opened: slots (a slice of slices of int64) that came in; with a Core and Ops. No function of the program is named. -/
import Derived.Test.YtpmdfogncoapjaaGreatDoorOpenB
import Derived.Test.YtpmdfogncoapjaaGreatDoorOpenA
import Derived.Test.YtpmdfogncoapjaaGreatDoorOpR
import Derived.Test.YtpmdfogncoapjaaGreatDoorCoreM
import Derived.SliceStrings
import Derived.Deep.Slices
import Derived.DataReads
namespace Go.Proofs.YtpmdfogncoapjaaGreatDoor
open Go.ChangeShapes Go.WideShapes Go.ChangeAt Go.RowKit Go.Deep Go.Joins
set_option linter.unusedVariables false

section
variable {H : Type} {enc : TypeId × Value → H} {P : Program} {w : World} {base : Nat} {sp : Nat → Bool} {hd : Bool}

/-- A struct of a number, a slice of numbers, a slice of boxes, a slice of numbers and a number, by value. -/
theorem open_core {r : Reach} {b0 : Nat} {t e1 e2 e3 : TypeId} {f0 f1 f2 f3 f4 g0 g1 : Field} {v : Value} {d : DataW H} {p : List MemPlace} (hs : P.underlying t = some (.struct #[f0, f1, f2, f3, f4]))
    (o0 : f0.offset = 0) (o1 : f1.offset = 1) (o2 : f2.offset = 2) (o3 : f3.offset = 3) (o4 : f4.offset = 4)
    (c0 : P.cellsOf f0.type = 1) (c1 : P.cellsOf f1.type = 1) (c2 : P.cellsOf f2.type = 1) (c3 : P.cellsOf f3.type = 1) (c4 : P.cellsOf f4.type = 1)
    (h0 : P.underlying f0.type = some (.int .i64)) (h1 : P.underlying f1.type = some (.slice e1)) (h2 : P.underlying f2.type = some (.slice e2)) (h3 : P.underlying f3.type = some (.slice e3)) (h4 : P.underlying f4.type = some (.int .i64))
    (k1 : P.underlying e1 = some (.int .i64)) (m1 : P.cellsOf e1 = 1) (k3 : P.underlying e3 = some (.int .i64)) (m3 : P.cellsOf e3 = 1)
    (k2 : P.underlying e2 = some (.struct #[g0, g1])) (m2 : P.cellsOf e2 = 2) (q0 : g0.offset = 0) (q1 : g1.offset = 1) (z0 : P.cellsOf g0.type = 1) (z1 : P.cellsOf g1.type = 1) (y0 : P.underlying g0.type = some .string) (y1 : P.underlying g1.type = some (.int .i64))
    (hC : P.cellsOf t = 5) (hv : Value.okWide P w r b0 t v) (h : DataW.Trod enc P w base sp hd t v d p) :
    ∃ (x y : Int) (v1 v2 v3 : Value) (zs : List Int) (bs : List Bx) (rs : List Int), v = .agg #[.int .i64 x, v1, v2, v3, .int .i64 y] ∧ SeeI w w.heap.size v1 zs ∧ SeeBx w w.heap.size v2 bs ∧ SeeI w w.heap.size v3 rs ∧ ∀ b ∈ bs, b.1.length ≤ 9223372036854775807 := by
  obtain ⟨cs, rfl, hsz⟩ := okWide_struct hs hv
  obtain ⟨fuel, hf⟩ := h
  obtain ⟨l⟩ := cs
  obtain ⟨xs, n, _, _, _, hlen, hg⟩ := DataW.trod_struct hs hf
  match xs, hlen, l, hsz.trans hC with
  | [x0, x1, x2, x3, x4], _, [w0, w1, w2, w3, w4], _ =>
    have g0 := hg 0 f0 rfl
    have g1 := hg 1 f1 rfl
    have g2 := hg 2 f2 rfl
    have g3 := hg 3 f3 rfl
    have g4 := hg 4 f4 rfl
    simp [Value.cells, o0, o1, o2, o3, o4, c0, c1, c2, c3, c4] at g0 g1 g2 g3 g4
    obtain ⟨a, r0, -, -⟩ := DataW.trod_int h0 g0
    obtain ⟨b, r4, -, -⟩ := DataW.trod_int h4 g4
    injection r0 with r0
    injection r4 with r4
    subst r0 r4
    obtain ⟨zs, s1⟩ := see_ints h1 k1 m1 g1
    obtain ⟨bs, s2, hb⟩ := see_boxes h2 k2 m2 q0 q1 z0 z1 y0 y1 g2
    obtain ⟨rs, s3⟩ := see_ints h3 k3 m3 g3
    exact ⟨a, b, w1, w2, w3, zs, bs, rs, rfl, s1, s2, s3, hb⟩
end

end Go.Proofs.YtpmdfogncoapjaaGreatDoor

namespace Go.Proofs.YtpmdfogncoapjaaGreatDoor
open Go.ChangeShapes Go.WideShapes Go.ChangeAt Go.RowKit Go.Deep Go.Joins
set_option linter.unusedVariables false

section
variable {H : Type} {enc : TypeId × Value → H} {P : Program} {w : World} {base : Nat} {sp : Nat → Bool} {hd : Bool}

/-- A slice that came in, whose elements of n cells read as values. -/
theorem see_rows {α : Type} [Inhabited α] (n : Nat) (f : α → List Value) (Q : α → Prop) {t e : TypeId} {fuel : Nat} {v : Value} {x : DataW H × List MemPlace} (ht : P.underlying t = some (.slice e)) (ce : P.cellsOf e = n) (hn : 0 < n)
    (each : ∀ (fuel : Nat) (cs : List Value) (y : DataW H × List MemPlace), cs.length = n → DataW.trod enc P w base sp hd fuel e cs = some y → ∃ a : α, cs = f a ∧ Q a)
    (h : DataW.trod enc P w base sp hd fuel t [v] = some x) : ∃ xs : List α, SeeN n w w.heap.size v (xs.map f) ∧ ∀ a ∈ xs, Q a := by
  rcases DataW.trod_slice ht h with ⟨hcs, _⟩ | ⟨a, l, c, elems, rest, m, _, hcs, _, _, hl, hm, hel, hx, _, _⟩
  · injection hcs with hcs
    subst hcs
    exact ⟨[], ⟨Nat.zero_le _, none, 0, rfl, Nat.le_refl _, fun k x hx => by simp at hx⟩, by simp⟩
  · injection hcs with hcs
    subst hcs
    have hw : ∀ i, i < l → ∃ y : α, (∀ j, j < n → w.cell? ((a.add (i * n)).add j) = (f y)[j]?) ∧ (f y).length = n ∧ Q y := by
      intro i hi
      have h1 := hx i hi
      rw [ce] at h1
      have he : ∃ z, elems[i]? = some z := ⟨_, List.getElem?_eq_getElem (by omega)⟩
      obtain ⟨z, hz⟩ := he
      rw [hz] at h1
      obtain ⟨cs, h2, h3⟩ := Option.bind_eq_some_iff.1 h1
      obtain ⟨_, hlen, hcell⟩ := World.cells?_some h2
      obtain ⟨y, hy, hq⟩ := each _ cs z hlen h3
      subst hy
      exact ⟨y, hcell, hlen, hq⟩
    obtain ⟨g, hg⟩ := choose_lt hw
    have hlen : (((List.range l).map g).map f).length = l := by simp
    refine ⟨(List.range l).map g, ⟨by rw [hlen]; omega, some a, c, by rw [hlen], by rw [hlen]; exact hl, fun k y hy => ?_⟩, fun b hb => ?_⟩
    · have hk : k < l := by have := (List.getElem?_eq_some_iff.1 hy).1; omega
      have hy' : y = f (g k) := by
        rw [List.getElem?_map, List.getElem?_map, List.getElem?_range hk] at hy
        simpa using hy.symm
      subst hy'
      obtain ⟨hc, hln, _⟩ := hg k hk
      obtain ⟨b, o, spot⟩ := a
      have h00 := (hg 0 (by omega)).1 0 hn
      have hspot : spot = none := by
        have e0 : ∃ u, (f (g 0))[0]? = some u := ⟨_, List.getElem?_eq_getElem (by rw [(hg 0 (by omega)).2.1]; exact hn)⟩
        obtain ⟨u, hu⟩ := e0
        rw [hu] at h00
        simpa [Addr.add] using World.cell?_spot h00
      subst hspot
      have hcell : ∀ j, j < n → w.cell? ⟨b, o + k * n + j, none⟩ = (f (g k))[j]? := fun j hj => by
        have := hc j hj
        rwa [Go.WideShapes.add_plain, Go.WideShapes.add_plain] at this
      have h0 := hcell 0 hn
      have e0 : ∃ u, (f (g k))[0]? = some u := ⟨_, List.getElem?_eq_getElem (by rw [hln]; exact hn)⟩
      obtain ⟨u, hu⟩ := e0
      rw [hu] at h0
      refine ⟨b, o, rfl, World.block_lt_of_cell? w _ h0, fun i z hz => ?_⟩
      have hi : i < n := by rw [← hln]; exact (List.getElem?_eq_some_iff.1 hz).1
      rw [hcell i hi, hz]
    · obtain ⟨i, hi, rfl⟩ := List.mem_map.1 hb
      exact (hg i (List.mem_range.1 hi)).2.2

/-- Three cells that read as an Op are one. -/
theorem op_cells {e : TypeId} {f0 f1 f2 : Field} {fuel : Nat} {cs : List Value} {y : DataW H × List MemPlace} (he : P.underlying e = some (.struct #[f0, f1, f2])) (o0 : f0.offset = 0) (o1 : f1.offset = 1) (o2 : f2.offset = 2)
    (c0 : P.cellsOf f0.type = 1) (c1 : P.cellsOf f1.type = 1) (c2 : P.cellsOf f2.type = 1) (h0 : P.underlying f0.type = some (.int .i64)) (h1 : P.underlying f1.type = some (.int .i64)) (h2 : P.underlying f2.type = some .string)
    (hl : cs.length = 3) (h : DataW.trod enc P w base sp hd fuel e cs = some y) : ∃ o : Opv, cs = opV o ∧ o.2.2.length ≤ 9223372036854775807 := by
  obtain ⟨xs, n, _, _, _, hlen, hf⟩ := DataW.trod_struct he h
  match xs, hlen, cs, hl with
  | [y0, y1, y2], _, [v0, v1, v2], _ =>
    have g0 := hf 0 f0 rfl
    have g1 := hf 1 f1 rfl
    have g2 := hf 2 f2 rfl
    simp [o0, o1, o2, c0, c1, c2] at g0 g1 g2
    obtain ⟨a, q0, -, -⟩ := DataW.trod_int h0 g0
    obtain ⟨b, q1, -, -⟩ := DataW.trod_int h1 g1
    obtain ⟨s, q2, -, hz⟩ := DataW.trod_string h2 g2
    injection q0 with q0
    injection q1 with q1
    injection q2 with q2
    subst q0 q1 q2
    refine ⟨(a, b, s.data.toList), ?_, ?_⟩
    · obtain ⟨⟨l⟩⟩ := s
      rfl
    · obtain ⟨⟨l⟩⟩ := s
      show l.length ≤ _
      have : l.length ≤ maxLen := hz
      unfold maxLen at this
      omega
theorem open_op {r : Reach} {b0 : Nat} {t : TypeId} {f0 f1 f2 : Field} {v : Value} {d : DataW H} {p : List MemPlace} (hs : P.underlying t = some (.struct #[f0, f1, f2])) (o0 : f0.offset = 0) (o1 : f1.offset = 1) (o2 : f2.offset = 2)
    (c0 : P.cellsOf f0.type = 1) (c1 : P.cellsOf f1.type = 1) (c2 : P.cellsOf f2.type = 1) (h0 : P.underlying f0.type = some (.int .i64)) (h1 : P.underlying f1.type = some (.int .i64)) (h2 : P.underlying f2.type = some .string) (hC : P.cellsOf t = 3)
    (hv : Value.okWide P w r b0 t v) (h : DataW.Trod enc P w base sp hd t v d p) : ∃ o : Opv, v = .agg #[.int .i64 o.1, .int .i64 o.2.1, str o.2.2] ∧ o.2.2.length ≤ 9223372036854775807 := by
  obtain ⟨cs, rfl, hsz⟩ := okWide_struct hs hv
  obtain ⟨fuel, hf⟩ := h
  obtain ⟨l⟩ := cs
  obtain ⟨o, ho, hl⟩ := op_cells hs o0 o1 o2 c0 c1 c2 h0 h1 h2 (hsz.trans hC) hf
  refine ⟨o, ?_, hl⟩
  have : l = opV o := ho
  rw [this]
end

end Go.Proofs.YtpmdfogncoapjaaGreatDoor

namespace Go.Proofs.YtpmdfogncoapjaaGreatDoor
open Go.ChangeShapes Go.WideShapes Go.ChangeAt Go.RowKit Go.Deep Go.Joins
set_option linter.unusedVariables false

section
variable {H : Type} {enc : TypeId × Value → H} {P : Program} {w : World} {base : Nat} {sp : Nat → Bool} {hd : Bool}

/-- A slice of slices of int64 that came in. -/
theorem see_slots {t e i : TypeId} {fuel : Nat} {v : Value} {x : DataW H × List MemPlace} (ht : P.underlying t = some (.slice e)) (ce : P.cellsOf e = 1) (he : P.underlying e = some (.slice i)) (hi : P.underlying i = some (.int .i64)) (ci : P.cellsOf i = 1)
    (h : DataW.trod enc P w base sp hd fuel t [v] = some x) : ∃ ss : List (List Int), SeeSS w w.heap.size v ss := by
  haveI : Inhabited (Value × List Int) := ⟨(.int .i64 0, [])⟩
  obtain ⟨xs, hs, hq⟩ := see_rows (α := Value × List Int) 1 (fun a => [a.1]) (fun a => SeeI w w.heap.size a.1 a.2) ht ce (by decide) (fun fuel cs y hl hh => by
    match cs, hl with
    | [c], _ =>
      obtain ⟨zs, hz⟩ := see_ints he hi ci hh
      exact ⟨(c, zs), rfl, hz⟩) h
  obtain ⟨hm, A, c, rfl, hc, hat⟩ := hs
  rw [List.length_map] at hm hc
  refine ⟨xs.map (·.2), xs.map (·.1), ⟨by rw [List.length_map]; exact hm, A, c, by rw [List.length_map, List.length_map], by rw [List.length_map]; exact hc, fun k u hu => ?_⟩, by simp, fun k u s hu hs => ?_⟩
  · rw [List.getElem?_map] at hu
    obtain ⟨a, ha, rfl⟩ := Option.map_eq_some_iff.1 hu
    obtain ⟨g, o, hA, hg, hcell⟩ := hat k [a.1] (by rw [List.getElem?_map, ha]; rfl)
    refine ⟨g, o, hA, hg, ?_⟩
    have := hcell 0 a.1 rfl
    rwa [Nat.mul_one, Nat.add_zero] at this
  · rw [List.getElem?_map] at hu hs
    obtain ⟨a, ha, rfl⟩ := Option.map_eq_some_iff.1 hu
    rw [ha] at hs
    obtain rfl : a.2 = s := by simpa using hs
    exact hq a (List.mem_of_getElem? ha)
end

end Go.Proofs.YtpmdfogncoapjaaGreatDoor
