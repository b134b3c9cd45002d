/- Arguments opened: a slice of rows of n cells, slots (a slice of slices of int64), a Hall by value. No function of the program is named. -/
import Derived.Test.YtigcbegeaikfcaaGreatDoorOpenA
import Derived.Test.YtigcbegeaikfcaaGreatDoorSltM
import Derived.SliceStrings
import Derived.Deep.Slices
import Derived.DataReads
namespace Go.Proofs.YtigcbegeaikfcaaGreatDoor
open Go.ChangeShapes Go.WideShapes Go.ChangeAt Go.RowKit Go.Deep Go.Joins
set_option linter.unusedVariables false

section
variable {H : Type} {enc : TypeId × Value → H} {P : Program} {w : World} {base : Nat} {sp : Nat → Bool} {hd : Bool}

/-- A slice that came in, whose elements of n cells read as values. -/
theorem see_rows {α : Type} [Inhabited α] (n : Nat) (f : α → List Value) (Q : α → Prop) {t e : TypeId} {fuel : Nat} {v : Value} {x : DataW H × List MemPlace} (ht : P.underlying t = some (.slice e)) (ce : P.cellsOf e = n) (hn : 0 < n)
    (each : ∀ (fuel : Nat) (cs : List Value) (y : DataW H × List MemPlace), cs.length = n → DataW.trod enc P w base sp hd fuel e cs = some y → ∃ a : α, cs = f a ∧ Q a)
    (h : DataW.trod enc P w base sp hd fuel t [v] = some x) : ∃ xs : List α, SeeN n w w.heap.size v (xs.map f) ∧ ∀ a ∈ xs, Q a := by
  rcases DataW.trod_slice ht h with ⟨hcs, _⟩ | ⟨a, l, c, elems, rest, m, _, hcs, _, _, hl, hm, hel, hx, _, _⟩
  · injection hcs with hcs
    subst hcs
    exact ⟨[], ⟨Nat.zero_le _, none, 0, rfl, Nat.le_refl _, fun k x hx => by simp at hx⟩, by simp⟩
  · injection hcs with hcs
    subst hcs
    have hw : ∀ i, i < l → ∃ y : α, (∀ j, j < n → w.cell? ((a.add (i * n)).add j) = (f y)[j]?) ∧ (f y).length = n ∧ Q y := by
      intro i hi
      have h1 := hx i hi
      rw [ce] at h1
      have he : ∃ z, elems[i]? = some z := ⟨_, List.getElem?_eq_getElem (by omega)⟩
      obtain ⟨z, hz⟩ := he
      rw [hz] at h1
      obtain ⟨cs, h2, h3⟩ := Option.bind_eq_some_iff.1 h1
      obtain ⟨_, hlen, hcell⟩ := World.cells?_some h2
      obtain ⟨y, hy, hq⟩ := each _ cs z hlen h3
      subst hy
      exact ⟨y, hcell, hlen, hq⟩
    obtain ⟨g, hg⟩ := choose_lt hw
    have hlen : (((List.range l).map g).map f).length = l := by simp
    refine ⟨(List.range l).map g, ⟨by rw [hlen]; omega, some a, c, by rw [hlen], by rw [hlen]; exact hl, fun k y hy => ?_⟩, fun b hb => ?_⟩
    · have hk : k < l := by have := (List.getElem?_eq_some_iff.1 hy).1; omega
      have hy' : y = f (g k) := by
        rw [List.getElem?_map, List.getElem?_map, List.getElem?_range hk] at hy
        simpa using hy.symm
      subst hy'
      obtain ⟨hc, hln, _⟩ := hg k hk
      obtain ⟨b, o, spot⟩ := a
      have h00 := (hg 0 (by omega)).1 0 hn
      have hspot : spot = none := by
        have e0 : ∃ u, (f (g 0))[0]? = some u := ⟨_, List.getElem?_eq_getElem (by rw [(hg 0 (by omega)).2.1]; exact hn)⟩
        obtain ⟨u, hu⟩ := e0
        rw [hu] at h00
        simpa [Addr.add] using World.cell?_spot h00
      subst hspot
      have hcell : ∀ j, j < n → w.cell? ⟨b, o + k * n + j, none⟩ = (f (g k))[j]? := fun j hj => by
        have := hc j hj
        rwa [Go.WideShapes.add_plain, Go.WideShapes.add_plain] at this
      have h0 := hcell 0 hn
      have e0 : ∃ u, (f (g k))[0]? = some u := ⟨_, List.getElem?_eq_getElem (by rw [hln]; exact hn)⟩
      obtain ⟨u, hu⟩ := e0
      rw [hu] at h0
      refine ⟨b, o, rfl, World.block_lt_of_cell? w _ h0, fun i z hz => ?_⟩
      have hi : i < n := by rw [← hln]; exact (List.getElem?_eq_some_iff.1 hz).1
      rw [hcell i hi, hz]
    · obtain ⟨i, hi, rfl⟩ := List.mem_map.1 hb
      exact (hg i (List.mem_range.1 hi)).2.2

/-- A slice of slices of int64 that came in. -/
theorem see_slots {t e i : TypeId} {fuel : Nat} {v : Value} {x : DataW H × List MemPlace} (ht : P.underlying t = some (.slice e)) (ce : P.cellsOf e = 1) (he : P.underlying e = some (.slice i)) (hi : P.underlying i = some (.int .i64)) (ci : P.cellsOf i = 1)
    (h : DataW.trod enc P w base sp hd fuel t [v] = some x) : ∃ ss : List (List Int), SeeSS w w.heap.size v ss := by
  haveI : Inhabited (Value × List Int) := ⟨(.int .i64 0, [])⟩
  obtain ⟨xs, hs, hq⟩ := see_rows (α := Value × List Int) 1 (fun a => [a.1]) (fun a => SeeI w w.heap.size a.1 a.2) ht ce (by decide) (fun fuel cs y hl hh => by
    match cs, hl with
    | [c], _ =>
      obtain ⟨zs, hz⟩ := see_ints he hi ci hh
      exact ⟨(c, zs), rfl, hz⟩) h
  obtain ⟨hm, A, c, rfl, hc, hat⟩ := hs
  rw [List.length_map] at hm hc
  refine ⟨xs.map (·.2), xs.map (·.1), ⟨by rw [List.length_map]; exact hm, A, c, by rw [List.length_map, List.length_map], by rw [List.length_map]; exact hc, fun k u hu => ?_⟩, by simp, fun k u s hu hs => ?_⟩
  · rw [List.getElem?_map] at hu
    obtain ⟨a, ha, rfl⟩ := Option.map_eq_some_iff.1 hu
    obtain ⟨g, o, hA, hg, hcell⟩ := hat k [a.1] (by rw [List.getElem?_map, ha]; rfl)
    refine ⟨g, o, hA, hg, ?_⟩
    have := hcell 0 a.1 rfl
    rwa [Nat.mul_one, Nat.add_zero] at this
  · rw [List.getElem?_map] at hu hs
    obtain ⟨a, ha, rfl⟩ := Option.map_eq_some_iff.1 hu
    rw [ha] at hs
    obtain rfl : a.2 = s := by simpa using hs
    exact hq a (List.mem_of_getElem? ha)

/-- A struct of a struct of a slice of numbers, a slice of numbers and slots, by value. -/
theorem open_hall {r : Reach} {b0 : Nat} {t e0 e1 e2 e3 : TypeId} {f0 f1 f2 k0 : Field} {v : Value} {d : DataW H} {p : List MemPlace} (hs : P.underlying t = some (.struct #[f0, f1, f2]))
    (o0 : f0.offset = 0) (o1 : f1.offset = 1) (o2 : f2.offset = 2) (c0 : P.cellsOf f0.type = 1) (c1 : P.cellsOf f1.type = 1) (c2 : P.cellsOf f2.type = 1)
    (hs0 : P.underlying f0.type = some (.struct #[k0])) (oo : k0.offset = 0) (cc : P.cellsOf k0.type = 1)
    (t0 : P.underlying k0.type = some (.slice e0)) (t1 : P.underlying f1.type = some (.slice e1)) (t2 : P.underlying f2.type = some (.slice e2)) (t3 : P.underlying e2 = some (.slice e3))
    (i0 : P.underlying e0 = some (.int .i64)) (m0 : P.cellsOf e0 = 1) (i1 : P.underlying e1 = some (.int .i64)) (m1 : P.cellsOf e1 = 1) (m2 : P.cellsOf e2 = 1) (i3 : P.underlying e3 = some (.int .i64)) (m3 : P.cellsOf e3 = 1)
    (hC : P.cellsOf t = 3) (hv : Value.okWide P w r b0 t v) (h : DataW.Trod enc P w base sp hd t v d p) :
    ∃ (v1 v2 v3 : Value) (us gs : List Int) (ss : List (List Int)), v = .agg #[v1, v2, v3] ∧ SeeI w w.heap.size v1 us ∧ SeeI w w.heap.size v2 gs ∧ SeeSS w w.heap.size v3 ss := by
  obtain ⟨cs, rfl, hsz⟩ := okWide_struct hs hv
  obtain ⟨fuel, hf⟩ := h
  obtain ⟨l⟩ := cs
  obtain ⟨xs, n, _, _, _, hlen, hg⟩ := DataW.trod_struct hs hf
  match xs, hlen, l, hsz.trans hC with
  | [x0, x1, x2], _, [w0, w1, w2], _ =>
    have g0 := hg 0 f0 rfl
    have g1 := hg 1 f1 rfl
    have g2 := hg 2 f2 rfl
    simp [Value.cells, o0, o1, o2, c0, c1, c2] at g0 g1 g2
    obtain ⟨ys, n2, _, _, _, hlen2, hg2⟩ := DataW.trod_struct hs0 g0
    match ys, hlen2 with
    | [y0], _ =>
      have q0 := hg2 0 k0 rfl
      simp [oo, cc] at q0
      obtain ⟨us, s1⟩ := see_ints t0 i0 m0 q0
      obtain ⟨gs, s2⟩ := see_ints t1 i1 m1 g1
      obtain ⟨ss, s3⟩ := see_slots t2 m2 t3 i3 m3 g2
      exact ⟨w0, w1, w2, us, gs, ss, rfl, s1, s2, s3⟩
end

end Go.Proofs.YtigcbegeaikfcaaGreatDoor
