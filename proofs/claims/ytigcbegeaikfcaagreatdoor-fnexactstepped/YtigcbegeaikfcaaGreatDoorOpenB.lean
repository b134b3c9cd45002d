/- Arguments opened: a slice of strings, and a slice of structs of a string and an int64, that came in. No function of the program is named. -/
import Derived.Test.YtigcbegeaikfcaaGreatDoorOpenA
import Derived.Test.YtigcbegeaikfcaaGreatDoorLowA
import Derived.SliceStrings
import Derived.Deep.SlicePairs
namespace Go.Proofs.YtigcbegeaikfcaaGreatDoor
open Go.ChangeShapes Go.WideShapes Go.ChangeAt Go.RowKit Go.Deep Go.Joins
set_option linter.unusedVariables false

def txtOf : Value → List UInt8
  | .string s => s.data.toList
  | _ => []
def numOf : Value → Int
  | .int _ n => n
  | _ => 0
theorem str_of (s : ByteArray) : str s.data.toList = Value.string s := by obtain ⟨⟨l⟩⟩ := s; rfl
theorem size_of (s : ByteArray) : s.data.toList.length = s.size := by obtain ⟨⟨l⟩⟩ := s; rfl

section
variable {H : Type} {enc : TypeId × Value → H} {P : Program} {w : World} {base : Nat} {sp : Nat → Bool} {hd : Bool}

/-- A value that reads at a type of slices of strings is such a slice. -/
theorem see_strs {t e : TypeId} {fuel : Nat} {v : Value} {x : DataW H × List MemPlace} (ht : P.underlying t = some (.slice e)) (he : P.underlying e = some .string) (hc : P.cellsOf e = 1)
    (h : DataW.trod enc P w base sp hd fuel t [v] = some x) : ∃ ss : List (List UInt8), SeeV w w.heap.size v (ss.map str) ∧ ∀ s ∈ ss, s.length ≤ 9223372036854775807 := by
  rcases open_strings ht he hc h with ⟨hcs, _⟩ | ⟨a, l, c, zs, hcs, _, hl, hm, hz, _, hcell, hsz⟩
  · injection hcs with hcs
    subst hcs
    exact ⟨[], ⟨Nat.zero_le _, none, 0, rfl, Nat.le_refl _, fun k x hx => by simp at hx⟩, by simp⟩
  · injection hcs with hcs
    subst hcs
    have hlz : l ≤ zs.length := by have : zs.length = c ∨ zs.length = l := by (split at hz <;> omega)
                                   omega
    have hlen : (((zs.take l).map fun s => s.data.toList).map str).length = l := by simp; omega
    refine ⟨(zs.take l).map fun s => s.data.toList, ⟨by rw [hlen]; omega, some a, c, by rw [hlen], by rw [hlen]; exact hl, fun k y hy => ?_⟩, fun s hs => ?_⟩
    · have hk : k < l := by have := (List.getElem?_eq_some_iff.1 hy).1; omega
      have hkz : k < zs.length := by omega
      have hc0 := hcell k hkz
      obtain ⟨b, o, spot⟩ := a
      have hspot : spot = none := by simpa [Addr.add] using World.cell?_spot (hcell 0 (by omega))
      subst hspot
      rw [Go.WideShapes.add_plain] at hc0
      refine ⟨b, o, rfl, World.block_lt_of_cell? w _ hc0, ?_⟩
      rw [hc0, ← hy]
      simp [hk, List.getElem?_eq_getElem hkz]
    · obtain ⟨z, hz', rfl⟩ := List.mem_map.1 hs
      have := hsz z (List.mem_of_mem_take hz')
      rw [size_of]
      unfold maxLen at this
      omega

/-- A value that reads at a type of slices of structs of a string and an int64 is such a slice. -/
theorem see_boxes {t e : TypeId} {f0 f1 : Field} {fuel : Nat} {v : Value} {x : DataW H × List MemPlace} (ht : P.underlying t = some (.slice e)) (he : P.underlying e = some (.struct #[f0, f1]))
    (ce : P.cellsOf e = 2) (o0 : f0.offset = 0) (o1 : f1.offset = 1) (c0 : P.cellsOf f0.type = 1) (c1 : P.cellsOf f1.type = 1) (h0 : P.underlying f0.type = some .string) (h1 : P.underlying f1.type = some (.int .i64))
    (h : DataW.trod enc P w base sp hd fuel t [v] = some x) : ∃ bs : List Bx, SeeBx w w.heap.size v bs ∧ ∀ b ∈ bs, b.1.length ≤ 9223372036854775807 := by
  rcases open_slice_pairs ht he ce o0 o1 c0 c1 h with ⟨hcs, _⟩ | ⟨a, l, c, m, n, V0, V1, D0, D1, P0, P1, hcs, _, hl, hm, hmm, _, hx⟩
  · injection hcs with hcs
    subst hcs
    exact ⟨[], ⟨Nat.zero_le _, none, 0, rfl, Nat.le_refl _, fun k x hx => by simp at hx⟩, by simp⟩
  · injection hcs with hcs
    subst hcs
    have hlm : l ≤ m := by rw [hmm]; split <;> omega
    have each : ∀ i, i < l → V0 i = str (txtOf (V0 i)) ∧ V1 i = .int .i64 (numOf (V1 i)) ∧ (txtOf (V0 i)).length ≤ 9223372036854775807 := by
      intro i hi
      obtain ⟨-, -, t0, t1⟩ := hx i (by omega)
      obtain ⟨s, hs, -, hz⟩ := DataW.trod_string h0 t0
      obtain ⟨k, hk, -, -⟩ := DataW.trod_int h1 t1
      injection hs with hs
      injection hk with hk
      rw [hs, hk]
      refine ⟨(str_of s).symm, rfl, ?_⟩
      show s.data.toList.length ≤ _
      rw [size_of]
      unfold maxLen at hz
      omega
    have hlen : (((List.range l).map fun i => ((txtOf (V0 i), numOf (V1 i)) : Bx)).map boxV).length = l := by simp
    refine ⟨(List.range l).map fun i => (txtOf (V0 i), numOf (V1 i)), ⟨by rw [hlen]; omega, some a, c, by rw [hlen], by rw [hlen]; exact hl, fun k y hy => ?_⟩, fun b hb => ?_⟩
    · have hk : k < l := by have := (List.getElem?_eq_some_iff.1 hy).1; omega
      obtain ⟨q0, q1, -, -⟩ := hx k (by omega)
      obtain ⟨e0, e1, -⟩ := each k hk
      obtain ⟨b, o, spot⟩ := a
      have hspot : spot = none := by simpa [Addr.add] using World.cell?_spot (hx 0 (by omega)).1
      subst hspot
      rw [Go.WideShapes.add_plain] at q0 q1
      refine ⟨b, o, rfl, World.block_lt_of_cell? w _ q0, fun i z hz => ?_⟩
      have hy' : y = boxV (txtOf (V0 k), numOf (V1 k)) := by
        rw [List.getElem?_map, List.getElem?_map, List.getElem?_range hk] at hy
        simpa using hy.symm
      subst hy'
      match i, hz with
      | 0, hz =>
        rw [Nat.add_zero, q0, e0]
        simpa using hz
      | 1, hz =>
        rw [Nat.add_assoc, q1, e1]
        simpa using hz
      | i + 2, hz => simp at hz
    · obtain ⟨i, hi, rfl⟩ := List.mem_map.1 hb
      exact (each i (List.mem_range.1 hi)).2.2
end

end Go.Proofs.YtigcbegeaikfcaaGreatDoor
