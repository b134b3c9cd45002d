/- Arguments opened: slots (a slice of slices of int64) that came in; with a Core and Ops. No function of the program is named. -/
import Derived.Test.YtpmdfogncoapjaaGreatDoorOpenC
import Derived.Test.YtpmdfogncoapjaaGreatDoorOpenO
import Derived.Test.YtpmdfogncoapjaaGreatDoorCoreN
namespace Go.Proofs.YtpmdfogncoapjaaGreatDoor
open Go.ChangeShapes Go.WideShapes Go.ChangeAt Go.RowKit Go.Deep Go.Joins
set_option linter.unusedVariables false

section
variable {H : Type} {enc : TypeId × Value → H} {P : Program} {w : World} {base : Nat} {sp : Nat → Bool} {hd : Bool}

/-- A slice of slices of int64 that came in. -/
theorem see_slots {t e i : TypeId} {fuel : Nat} {v : Value} {x : DataW H × List MemPlace} (ht : P.underlying t = some (.slice e)) (ce : P.cellsOf e = 1) (he : P.underlying e = some (.slice i)) (hi : P.underlying i = some (.int .i64)) (ci : P.cellsOf i = 1)
    (h : DataW.trod enc P w base sp hd fuel t [v] = some x) : ∃ ss : List (List Int), SeeSS w w.heap.size v ss := by
  haveI : Inhabited (Value × List Int) := ⟨(.int .i64 0, [])⟩
  obtain ⟨xs, hs, hq⟩ := see_rows (α := Value × List Int) 1 (fun a => [a.1]) (fun a => SeeI w w.heap.size a.1 a.2) ht ce (by decide) (fun fuel cs y hl hh => by
    match cs, hl with
    | [c], _ =>
      obtain ⟨zs, hz⟩ := see_ints he hi ci hh
      exact ⟨(c, zs), rfl, hz⟩) h
  obtain ⟨hm, A, c, rfl, hc, hat⟩ := hs
  rw [List.length_map] at hm hc
  refine ⟨xs.map (·.2), xs.map (·.1), ⟨by rw [List.length_map]; exact hm, A, c, by rw [List.length_map, List.length_map], by rw [List.length_map]; exact hc, fun k u hu => ?_⟩, by simp, fun k u s hu hs => ?_⟩
  · rw [List.getElem?_map] at hu
    obtain ⟨a, ha, rfl⟩ := Option.map_eq_some_iff.1 hu
    obtain ⟨g, o, hA, hg, hcell⟩ := hat k [a.1] (by rw [List.getElem?_map, ha]; rfl)
    refine ⟨g, o, hA, hg, ?_⟩
    have := hcell 0 a.1 rfl
    rwa [Nat.mul_one, Nat.add_zero] at this
  · rw [List.getElem?_map] at hu hs
    obtain ⟨a, ha, rfl⟩ := Option.map_eq_some_iff.1 hu
    rw [ha] at hs
    obtain rfl : a.2 = s := by simpa using hs
    exact hq a (List.mem_of_getElem? ha)
end

end Go.Proofs.YtpmdfogncoapjaaGreatDoor
