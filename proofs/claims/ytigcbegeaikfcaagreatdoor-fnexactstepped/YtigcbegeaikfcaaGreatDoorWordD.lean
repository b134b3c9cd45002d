/- The draws of layer 5: what is drawn, in which bounds; the cursor goes on; nothing else that was there turns. -/
import Derived.Test.YtigcbegeaikfcaaGreatDoorBelB
import Derived.Test.YtigcbegeaikfcaaGreatDoorBendB
import Derived.Test.YtigcbegeaikfcaaGreatDoorLowT
namespace Go.Proofs.YtigcbegeaikfcaaGreatDoor
open Go.RowKit
set_option linter.unusedVariables false

def numOk (lo hi : Int) : Value → Bool
  | .int .i64 y => decide (lo ≤ y ∧ y ≤ hi)
  | _ => false
theorem num_at {w' : World} {g : Nat} {xs : List Value} {e : TypeId} {lo hi : Int} (h : w'.heap[g]? = some (.cells xs.toArray e (0, 0))) (hall : xs.all (numOk lo hi) = true) {k : Nat} (hk : k < xs.length) : ∃ y : Int, w'.cell? ⟨g, k, none⟩ = some (.int .i64 y) ∧ lo ≤ y ∧ y ≤ hi := by
  rw [cell_of_row _ _ k _ _ (0, 0) h]
  have hx := List.all_eq_true.1 hall xs[k] (List.getElem_mem _)
  have hg : xs.toArray[k]? = some xs[k] := by rw [List.getElem?_toArray, List.getElem?_eq_getElem hk]
  rw [hg]
  cases hv : xs[k] with
  | int t y =>
    rw [hv] at hx
    cases t <;> simp [numOk] at hx
    exact ⟨y, rfl, hx.1, hx.2⟩
  | _ => rw [hv] at hx; cases hx
def txtOk : Value → Bool
  | .string s => decide (s.size ≤ 10)
  | _ => false
theorem txt_at {w' : World} {g : Nat} {xs : List Value} {e : TypeId} (h : w'.heap[g]? = some (.cells xs.toArray e (0, 0))) (hall : xs.all txtOk = true) {k : Nat} (hk : k < xs.length) : ∃ t : List UInt8, t.length ≤ 10 ∧ w'.cell? ⟨g, k, none⟩ = some (str t) := by
  rw [cell_of_row _ _ k _ _ (0, 0) h]
  have hx := List.all_eq_true.1 hall xs[k] (List.getElem_mem _)
  cases hv : xs[k] with
  | string s =>
    rw [hv] at hx
    obtain ⟨⟨l⟩⟩ := s
    refine ⟨l, by simpa [txtOk, ByteArray.size] using hx, ?_⟩
    rw [List.getElem?_toArray, List.getElem?_eq_getElem hk, hv]
  | _ => rw [hv] at hx; cases hx

set_option maxHeartbeats 2000000 in
theorem l5Draw_any (g : Nat) (w : World) (hc : Cur w g) : Calls Tryz.prog 104 #[.pointer (some ⟨g, 0, none⟩)] w (ByteOut w g (-2147483648) 2147483647) := by
  go_enter Tryz.func104, Tryz.ntmps104
  go_wp2_with fail
  refine (l1Below_any g _ (by decide) (by decide) _ hc).mono ?_
  rintro e w1 ⟨x, rfl, hx0, hx1, c1, g1⟩
  by_cases h0 : x = 0
  · subst h0
    have hlt := c1.lt
    go_wp2_with fail
    refine (l1Below_any g _ (by decide) (by decide) _ (c1.alloc _)).mono ?_
    rintro e w2 ⟨y, rfl, hy0, hy1, c2, g2⟩
    obtain ⟨z, hz, hz0, hz1⟩ := num_at (lo := -2147483648) (hi := 2147483647) (k := y.toNat) ((g2.block w1.heap.size (by simp) (by simp; omega)).trans (heap_alloc_new w1 _)) (by decide +kernel) (by simp; omega)
    have G := grown_trans g1 (grown_of_alloc _ g2)
    clear g1 g2 c1
    go_wp2_with fail
    go_ret
    exact ⟨_, rfl, hz0, hz1, c2, G⟩
  · have e0 : (x == 0) = false := by simpa using h0
    by_cases h1 : x = 1
    · subst h1
      go_wp2_with fail
      refine (l1Below_big g _ (by decide) (by decide) _ c1).mono ?_
      rintro e w2 ⟨y, rfl, hy0, hy1, c2, g2⟩
      go_wp2_with fail
      go_ret
      exact ⟨_, rfl, by omega, by omega, c2, grown_trans g1 g2⟩
    · have e1 : (x == 1) = false := by simpa using h1
      go_wp2_with fail
      refine (l1Below_any g _ (by decide) (by decide) _ c1).mono ?_
      rintro e w2 ⟨y, rfl, hy0, hy1, c2, g2⟩
      go_wp2_with fail
      go_ret
      exact ⟨_, rfl, by omega, by omega, c2, grown_trans g1 g2⟩

set_option maxHeartbeats 2000000 in
theorem l5DrawAny_any (g : Nat) (w : World) (hc : Cur w g) : Calls Tryz.prog 90 #[.pointer (some ⟨g, 0, none⟩)] w (ByteOut w g (-2147483649) 4611686018427387904) := by
  go_enter Tryz.func90, Tryz.ntmps90
  go_wp2_with fail
  refine (l1Once_any g _ (by decide) (by decide) _ hc).mono ?_
  rintro e w1 ⟨b, rfl, c1, g1⟩
  cases b
  · go_wp2_with fail
    refine (l5Draw_any g _ c1).mono ?_
    rintro e w2 ⟨y, rfl, hy0, hy1, c2, g2⟩
    go_wp2_with fail
    go_ret
    exact ⟨_, rfl, by omega, by omega, c2, grown_trans g1 g2⟩
  · have hlt := c1.lt
    go_wp2_with fail
    refine (l1Below_any g _ (by decide) (by decide) _ (c1.alloc _)).mono ?_
    rintro e w2 ⟨y, rfl, hy0, hy1, c2, g2⟩
    obtain ⟨z, hz, hz0, hz1⟩ := num_at (lo := -2147483649) (hi := 4611686018427387904) (k := y.toNat) ((g2.block w1.heap.size (by simp) (by simp; omega)).trans (heap_alloc_new w1 _)) (by decide +kernel) (by simp; omega)
    have G := grown_trans g1 (grown_of_alloc _ g2)
    clear g1 g2 c1
    go_wp2_with fail
    go_ret
    exact ⟨_, rfl, hz0, hz1, c2, G⟩

/-- A number drawn. -/
def NumOut (w : World) (e : Ending) (w' : World) : Prop := ∃ x : Int, e = .returned (.int .i64 x) ∧ -2147483649 ≤ x ∧ x ≤ 4611686018427387904 ∧ Below w.heap.size w w'

def DidDrawn (w : World) (e : Ending) (w' : World) : Prop := ∃ o a b : Int, e = .returned (.tuple #[.int .i64 o, .int .i64 a, .int .i64 b]) ∧ Below w.heap.size w w'

/-- A text drawn. -/
def TxtOut (m : Nat) (w : World) (g : Nat) (e : Ending) (w' : World) : Prop := ∃ t : List UInt8, e = .returned (str t) ∧ t.length ≤ m ∧ Cur w' g ∧ w.grownBy w' (some g)
def TxtDrawn (m : Nat) (w : World) (e : Ending) (w' : World) : Prop := ∃ t : List UInt8, e = .returned (str t) ∧ t.length ≤ m ∧ Below w.heap.size w w'

set_option maxHeartbeats 2000000 in
theorem l5DrawName_any (g : Nat) (w : World) (hc : Cur w g) : Calls Tryz.prog 103 #[.pointer (some ⟨g, 0, none⟩)] w (TxtOut 10 w g) := by
  have hlt := hc.lt
  go_enter Tryz.func103, Tryz.ntmps103
  go_wp2_with fail
  refine (l1Below_any g _ (by decide) (by decide) _ (hc.alloc _)).mono ?_
  rintro e w2 ⟨y, rfl, hy0, hy1, c2, g2⟩
  obtain ⟨z, hz1, hz⟩ := txt_at (k := y.toNat) ((g2.block w.heap.size (by simp) (by simp; omega)).trans (heap_alloc_new w _)) (by decide +kernel) (by simp; omega)
  have G := grown_of_alloc _ g2
  clear g2
  go_wp2_with fail
  go_ret
  exact ⟨_, rfl, hz1, c2, G⟩

set_option maxHeartbeats 2000000 in
theorem l5DrawNameAny_any (g : Nat) (w : World) (hc : Cur w g) : Calls Tryz.prog 132 #[.pointer (some ⟨g, 0, none⟩)] w (TxtOut 10 w g) := by
  go_enter Tryz.func132, Tryz.ntmps132
  go_wp2_with fail
  refine (l1Once_any g _ (by decide) (by decide) _ hc).mono ?_
  rintro e w1 ⟨b, rfl, c1, g1⟩
  cases b
  · go_wp2_with fail
    refine (l5DrawName_any g _ c1).mono ?_
    rintro e w2 ⟨t, rfl, ht, c2, g2⟩
    go_wp2_with fail
    go_ret
    exact ⟨_, rfl, ht, c2, grown_trans g1 g2⟩
  · have hlt := c1.lt
    go_wp2_with fail
    refine (l1Below_any g _ (by decide) (by decide) _ (c1.alloc _)).mono ?_
    rintro e w2 ⟨y, rfl, hy0, hy1, c2, g2⟩
    obtain ⟨z, hz1, hz⟩ := txt_at (k := y.toNat) ((g2.block w1.heap.size (by simp) (by simp; omega)).trans (heap_alloc_new w1 _)) (by decide +kernel) (by simp; omega)
    have G := grown_trans g1 (grown_of_alloc _ g2)
    clear g1 g2 c1
    go_wp2_with fail
    go_ret
    exact ⟨_, rfl, hz1, c2, G⟩

end Go.Proofs.YtigcbegeaikfcaaGreatDoor
