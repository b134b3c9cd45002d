/- The draws of orders: what is drawn is some order's list that can be read; the cursor goes on; nothing else that was there turns. -/
import Derived.Test.YtkobngclcnfojaaSetF
import Derived.Test.YtkobngclcnfojaaReadB
import Derived.Deep.RegionHeld3
namespace Go.Proofs.Ytkobngclcnfojaa
open Go.RowKit
set_option linter.unusedVariables false

theorem grown_of_below {w w' : World} (h : Below w.heap.size w w') (r : Option Nat) : w.grownBy w' r := ⟨h.os, h.tape, h.output, h.size, fun k hk _ => h.block k hk⟩
theorem Cur.later {w w' : World} {g : Nat} (h : Cur w g) (hb : Below w.heap.size w w') : Cur w' g := by
  have hlt := h.lt
  obtain ⟨A, n, c, i, x, hh, hs, hi⟩ := h
  exact ⟨A, n, c, i, x, (hb.block g hlt).trans hh, hs.keep fun p hp => hb.cell (by omega), hi⟩
theorem Cur.far {w : World} {g : Nat} (h : Cur w g) {p : Addr} (hp : g < p.block) (u : Value) : Cur (w.setCell p u) g := by
  obtain ⟨A, n, c, i, x, hh, hs, hi⟩ := h
  refine ⟨A, n, c, i, x, (Below.heap_setCell w p u g (by omega)).trans hh, hs.keep fun q hq => World.cell?_setCell_other w p q u (fun e => by subst e; omega), hi⟩

/-- The eleven texts. -/
def TextsOut (w : World) (e : Ending) (w' : World) : Prop :=
  e = .returned (.slice (some ⟨w.heap.size, 0, none⟩) 11 11) ∧ (∀ k, k < 11 → ∃ t : List UInt8, t.length ≤ 1000 ∧ w'.cell? ⟨w.heap.size, k, none⟩ = some (str t)) ∧ Below w.heap.size w w' ∧ w.heap.size < w'.heap.size
def textOk : Value → Bool
  | .string s => decide (s.size ≤ 1000)
  | _ => false
theorem text_at {w' : World} {g : Nat} {xs : List Value} {e : TypeId} (h : w'.heap[g]? = some (.cells xs.toArray e (0, 0))) (hall : xs.all textOk = true) {k : Nat} (hk : k < xs.length) : ∃ t : List UInt8, t.length ≤ 1000 ∧ w'.cell? ⟨g, k, none⟩ = some (str t) := by
  rw [cell_of_row _ _ k _ _ (0, 0) h]
  have hx := List.all_eq_true.1 hall xs[k] (List.getElem_mem _)
  cases hv : xs[k] with
  | string s =>
    rw [hv] at hx
    obtain ⟨⟨l⟩⟩ := s
    refine ⟨l, by simpa [textOk, ByteArray.size] using hx, ?_⟩
    rw [List.getElem?_toArray, List.getElem?_eq_getElem hk, hv]
  | _ => rw [hv] at hx; cases hx

set_option maxHeartbeats 1000000 in
theorem l2Texts_any (w : World) : Calls Try.prog 77 #[] w (TextsOut w) := by
  go_enter Try.func77, Try.ntmps77
  go_wp2_with fail
  go_ret
  refine ⟨rfl, fun k hk => text_at (heap_alloc_new _ _) (by decide +kernel) hk, (Below.refl _ _).alloc (Nat.le_refl _) _, by simp⟩

/-- An order drawn. -/
def DrawOut (w : World) (g : Nat) (e : Ending) (w' : World) : Prop :=
  ∃ v us, e = .returned (.agg #[v]) ∧ us.length ≤ 6 ∧ OwnI w' w.heap.size 2 v us ∧ Cur w' g ∧ w.grownBy w' (some g)

set_option maxHeartbeats 1000000 in
theorem l2Draw_any (g : Nat) (w : World) (hc : Cur w g) : Calls Try.prog 59 #[.pointer (some ⟨g, 0, none⟩)] w (DrawOut w g) := by
  have hlt := hc.lt
  have r0 : (w.alloc (.cells #[.slice none 0 0] 26)).cell? ⟨w.heap.size, 0, none⟩ = some (.slice none 0 0) := cell_of_row _ _ 0 _ _ (0, 0) (heap_alloc_new _ _)
  have z0 : (w.alloc (.cells #[.slice none 0 0] 26)).frozen? ⟨w.heap.size, 0, none⟩ = false := frozen_row (heap_alloc_new _ _)
  have g0 : w.heap.size < (w.alloc (.cells #[.slice none 0 0] 26)).heap.size := by simp
  have k0 := hc.alloc (.cells #[.slice none 0 0] 26)
  have q0 : w.grownBy (w.alloc (.cells #[.slice none 0 0] 26)) (some g) := grown_of_below ((Below.refl _ _).alloc (Nat.le_refl _) _) _
  go_enter Try.func59, Try.ntmps59
  go_wp2_with fail
  generalize w.alloc _ = W at r0 z0 g0 k0 q0 ⊢
  refine (l2Texts_any _).mono ?_
  rintro e w1 ⟨rfl, ht, hb1, g1⟩
  have HT := Lib.hid ht
  clear ht
  have r1 := (hb1.cell (p := ⟨w.heap.size, 0, none⟩) (by simpa using g0)).trans r0
  have z1 := (hb1.frozen (p := ⟨w.heap.size, 0, none⟩) (by simpa using g0)).trans z0
  have k1 := k0.later hb1
  have q1 := grown_trans q0 (grown_of_below hb1 (some g))
  clear r0 z0 k0 q0 hb1
  go_wp2_with fail
  refine (l1Below_any g _ (by decide) (by decide) _ k1).mono ?_
  rintro e w2 ⟨x, rfl, hx0, hx1, k2, q2⟩
  obtain ⟨n, rfl⟩ := Int.eq_ofNat_of_zero_le hx0
  obtain ⟨t, htl, htc⟩ := HT.out n (by omega)
  have far : ∀ p : Addr, p.block < w1.heap.size → p.block ≠ g → w2.cell? p = w1.cell? p := fun p hp hne => World.cell?_of_block (q2.block p.block hp (fun e => hne (by injection e)))
  have r2 := (far ⟨w.heap.size, 0, none⟩ (by simp; omega) (by simp; omega)).trans r1
  have z2 : w2.frozen? ⟨w.heap.size, 0, none⟩ = false := (World.frozen?_of_block (q2.block w.heap.size (by omega) (fun e => by injection e; omega))).trans z1
  have t2 := (far ⟨W.heap.size, n, none⟩ (by simpa using g1) (by simp; omega)).trans htc
  have q2' := grown_trans q1 q2
  have s2 : w1.heap.size ≤ w2.heap.size := q2.size
  clear far r1 z1 k1 q1 q2 htc
  go_wp2_with fail
  refine (sReadOrder_any t (by omega) _).mono ?_
  rintro e w3 ⟨v, rfl, ho, hb3⟩
  obtain ⟨A, c, rfl⟩ := ho.see.shape
  have r3 := (hb3.cell (p := ⟨w.heap.size, 0, none⟩) (by simp; omega)).trans r2
  have z3 := (hb3.frozen (p := ⟨w.heap.size, 0, none⟩) (by simp; omega)).trans z2
  have k3 := k2.later hb3
  have q3 := grown_trans q2' (grown_of_below hb3 (some g))
  have hus := read_len t
  have s3 := hb3.size
  generalize (readT t).isSome = b
  generalize (readT t).getD [] = us at ho hus ⊢
  clear r2 z2 k2 q2' hb3 t2
  have g3 : w.heap.size < w3.heap.size := by omega
  go_wp2_with fail
  refine bodyPost_ret (v := .agg #[.slice A us.length c]) (by simp [results, Try.results59, go_sem, r3, g3]) rfl ⟨_, us, rfl, hus, ?_, ?_, ?_⟩
  · exact ((ho.far (p := ⟨w.heap.size, 0, none⟩) (by simp; omega) _).alloc _).less (by omega)
  · exact (k3.far (p := ⟨w.heap.size, 0, none⟩) (by simp; omega) _).alloc _
  · exact ⟨q3.os, q3.tape, q3.output, by have := q3.size; simp; omega, fun i hi hne => (Below.heap_alloc _ _ i (by simp; omega)).trans ((Below.heap_setCell w3 _ _ i (by simp; omega)).trans (q3.block i hi hne))⟩

end Go.Proofs.Ytkobngclcnfojaa
