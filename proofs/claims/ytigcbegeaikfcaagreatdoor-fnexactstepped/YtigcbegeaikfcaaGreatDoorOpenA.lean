/- Arguments opened: a slice of integers that came in; a struct of one field by value. No function of the program is named. -/
import Derived.Test.YtigcbegeaikfcaaGreatDoorLowA
import Derived.ProofKit
import Derived.OpenShut
import Derived.Lib.SmallJoins
namespace Go.Proofs.YtigcbegeaikfcaaGreatDoor
open Go.ChangeShapes Go.WideShapes Go.ChangeAt Go.RowKit Go.Deep Go.Joins
set_option linter.unusedVariables false

section
variable {H : Type} {enc : TypeId × Value → H} {P : Program} {w : World} {base : Nat} {sp : Nat → Bool} {hd : Bool}

/-- A value that reads at a type of slices of int64 is such a slice. -/
theorem see_ints {t e : TypeId} {fuel : Nat} {v : Value} {x : DataW H × List MemPlace} (ht : P.underlying t = some (.slice e)) (he : P.underlying e = some (.int .i64)) (hc : P.cellsOf e = 1)
    (h : DataW.trod enc P w base sp hd fuel t [v] = some x) : ∃ zs : List Int, SeeI w w.heap.size v zs := by
  rcases open_ints ht he hc h with ⟨hcs, _⟩ | ⟨a, l, c, zs, hcs, _, hl, hm, hz, _, hcell, _⟩
  · injection hcs with hcs
    subst hcs
    exact ⟨[], Nat.zero_le _, none, 0, rfl, fun k hk => absurd hk (by simp)⟩
  · injection hcs with hcs
    subst hcs
    have hlz : l ≤ zs.length := by have : zs.length = c ∨ zs.length = l := by (split at hz <;> omega)
                                   omega
    refine ⟨zs.take l, by rw [List.length_take]; omega, some a, c, by rw [List.length_take, Nat.min_eq_left hlz], fun k hk => ?_⟩
    have hk' : k < l := by rw [List.length_take] at hk; omega
    obtain ⟨b, o, rfl, hcc⟩ := ints_at hcell (show 0 < zs.length from by omega)
    have := hcc k (by omega)
    refine ⟨b, o, rfl, World.block_lt_of_cell? w _ this, ?_⟩
    rw [this, List.getD_eq_getElem?_getD, List.getD_eq_getElem?_getD, List.getElem?_take, if_pos hk']

/-- A struct of one field of one cell, by value. -/
theorem open_one {r : Reach} {b0 : Nat} {t : TypeId} {f0 : Field} {v : Value} {d : DataW H} {p : List MemPlace} (hs : P.underlying t = some (.struct #[f0])) (hone : oneCellFields P #[f0] = true) (hC : P.cellsOf t = 1)
    (hv : Value.okWide P w r b0 t v) (h : DataW.Trod enc P w base sp hd t v d p) : ∃ (v0 : Value) (x : DataW H × List MemPlace) (n : Nat), v = .agg #[v0] ∧ DataW.trod enc P w base sp hd n f0.type [v0] = some x := by
  obtain ⟨cs, rfl, hsz⟩ := okWide_struct hs hv
  obtain ⟨l⟩ := cs
  match l, hsz.trans hC with
  | [c0], _ =>
    obtain ⟨fuel, hf⟩ := h
    obtain ⟨xs, n, _, hx, _, hlen, hg⟩ := DataW.trod_struct hs hf
    obtain ⟨o0, k0⟩ := hone_of hone 0 f0 rfl
    match xs, hlen with
    | [y0], _ => exact ⟨c0, y0, n, rfl, by simpa [Value.cells, o0, k0] using hg 0 f0 rfl⟩
end

end Go.Proofs.YtigcbegeaikfcaaGreatDoor
