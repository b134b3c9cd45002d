/- The draws of an order, and of a text. -/
import Derived.Test.YtkpaidadofmpfaaDoorBendB
import Derived.Test.YtkpaidadofmpfaaDoorDrawC
namespace Go.Proofs.YtkpaidadofmpfaaDoor
open Go.RowKit
set_option linter.unusedVariables false

theorem apart_of {w : World} {v : Value} {us : List Int} (h : SeeI w w.heap.size v us) {p : Addr} {A : Option Addr} {n c : Nat} (hp : w.cell? p = some (.slice A n c)) (u : Value) : SeeI (w.setCell p u) (w.setCell p u).heap.size v us := by
  obtain ⟨h0, A', c', rfl, h1⟩ := h
  refine ⟨h0, A', c', rfl, fun k hk' => ?_⟩
  obtain ⟨b, o, rfl, hq, hc⟩ := h1 k hk'
  exact ⟨b, o, rfl, by simpa using hq, (World.cell?_setCell_other w _ _ _ (fun e => by subst e; rw [hp] at hc; cases hc)).trans hc⟩
theorem grown_over {w w1 w2 : World} {g : Nat} (hb : Below w.heap.size w w1) (hg : w1.grownBy w2 (some g)) (h : w.heap.size ≤ g) : Below w.heap.size w w2 :=
  ⟨hg.os.trans hb.os, hg.tape.trans hb.tape, hg.output.trans hb.output, Nat.le_trans hb.size hg.size, fun k hk => (hg.block k (Nat.lt_of_lt_of_le hk hb.size) (fun e => by injection e; omega)).trans (hb.block k hk)⟩

/-- One order drawn. -/
def OneDrawn (w : World) (e : Ending) (w' : World) : Prop := ∃ v us, e = .returned (.agg #[v]) ∧ us.length ≤ 6 ∧ SeeI w' w'.heap.size v us ∧ Below w.heap.size w w'

set_option maxHeartbeats 1000000 in
theorem drawOrderOk_any (A : Option Addr) (n c : Nat) (hn : n ≤ 4096) (w : World) (hs : SeeB w w.heap.size A n) : Calls Tryd.prog 13 #[.slice A n c] w (OneDrawn w) := by
  have r0 : (w.alloc (.cells #[.slice none 0 0] 26)).cell? ⟨w.heap.size, 0, none⟩ = some (.slice none 0 0) := cell_of_row _ _ 0 _ _ (0, 0) (heap_alloc_new _ _)
  have z0 : (w.alloc (.cells #[.slice none 0 0] 26)).frozen? ⟨w.heap.size, 0, none⟩ = false := frozen_row (heap_alloc_new _ _)
  have g0 : w.heap.size < (w.alloc (.cells #[.slice none 0 0] 26)).heap.size := by simp
  have b0 : Below w.heap.size w (w.alloc (.cells #[.slice none 0 0] 26)) := (Below.refl _ _).alloc (Nat.le_refl _) _
  have s0 : SeeB (w.alloc (.cells #[.slice none 0 0] 26)) (w.alloc (.cells #[.slice none 0 0] 26)).heap.size A n := (hs.keep fun p hp => b0.cell hp).more b0.size
  go_enter Tryd.func13, Tryd.ntmps13
  go_wp2_with fail
  generalize w.alloc _ = W at r0 z0 g0 b0 s0 ⊢
  refine (l1New_any A n c hn _ s0).mono ?_
  rintro e w1 ⟨rfl, k1, b1⟩
  have r1 := (b1.cell (p := ⟨w.heap.size, 0, none⟩) g0).trans r0
  have z1 := (b1.frozen (p := ⟨w.heap.size, 0, none⟩) g0).trans z0
  have g1 := k1.lt
  have B1 := below_then b0 b1 (Nat.le_refl _)
  clear r0 z0 b0 b1 s0
  generalize W.heap.size = g at *
  go_wp2_with fail
  refine (l2DrawAny_any g _ k1).mono ?_
  rintro e w2 ⟨v, us, rfl, hus, s2, f2, k2, q2⟩
  obtain ⟨A2, c2, rfl⟩ := s2.shape
  have r2 : w2.cell? ⟨w.heap.size, 0, none⟩ = some (.slice none 0 0) := (World.cell?_of_block (q2.block w.heap.size (by omega) (fun e => by injection e; omega))).trans r1
  have z2 : w2.frozen? ⟨w.heap.size, 0, none⟩ = false := (World.frozen?_of_block (q2.block w.heap.size (by omega) (fun e => by injection e; omega))).trans z1
  have B2 := grown_over B1 q2 (Nat.le_of_lt g0)
  go_wp2_with fail
  exact bodyPost_ret (v := .agg #[.slice A2 us.length c2]) (by simp [results, Tryd.results13, go_sem, r2]) rfl ⟨_, us, rfl, hus, apart_of s2 r2 _, B2.setCell (by simp) _⟩

set_option maxHeartbeats 1000000 in
theorem drawShowOrder_any (A : Option Addr) (n c : Nat) (hn : n ≤ 4096) (w : World) (hs : SeeB w w.heap.size A n) : Calls Tryd.prog 5 #[.slice A n c] w (OneDrawn w) := by
  have r0 : (w.alloc (.cells #[.slice none 0 0] 26)).cell? ⟨w.heap.size, 0, none⟩ = some (.slice none 0 0) := cell_of_row _ _ 0 _ _ (0, 0) (heap_alloc_new _ _)
  have z0 : (w.alloc (.cells #[.slice none 0 0] 26)).frozen? ⟨w.heap.size, 0, none⟩ = false := frozen_row (heap_alloc_new _ _)
  have g0 : w.heap.size < (w.alloc (.cells #[.slice none 0 0] 26)).heap.size := by simp
  have b0 : Below w.heap.size w (w.alloc (.cells #[.slice none 0 0] 26)) := (Below.refl _ _).alloc (Nat.le_refl _) _
  have s0 : SeeB (w.alloc (.cells #[.slice none 0 0] 26)) (w.alloc (.cells #[.slice none 0 0] 26)).heap.size A n := (hs.keep fun p hp => b0.cell hp).more b0.size
  go_enter Tryd.func5, Tryd.ntmps5
  go_wp2_with fail
  generalize w.alloc _ = W at r0 z0 g0 b0 s0 ⊢
  refine (drawOrderOk_any A n c hn _ s0).mono ?_
  rintro e w1 ⟨v, us, rfl, hus, s1, b1⟩
  obtain ⟨A2, c2, rfl⟩ := s1.shape
  have r1 := (b1.cell (p := ⟨w.heap.size, 0, none⟩) g0).trans r0
  have z1 := (b1.frozen (p := ⟨w.heap.size, 0, none⟩) g0).trans z0
  have B1 := below_then b0 b1 (Nat.le_refl _)
  clear r0 z0 b0 b1 s0
  go_wp2_with fail
  exact bodyPost_ret (v := .agg #[.slice A2 us.length c2]) (by simp [results, Tryd.results5, go_sem, r1]) rfl ⟨_, us, rfl, hus, apart_of s1 r1 _, B1.setCell (by simp) _⟩

/-- The eleven texts, all short. -/
def ShortOut (w : World) (e : Ending) (w' : World) : Prop :=
  e = .returned (.slice (some ⟨w.heap.size, 0, none⟩) 11 11) ∧ (∀ k, k < 11 → ∃ t : List UInt8, t.length ≤ 50 ∧ w'.cell? ⟨w.heap.size, k, none⟩ = some (str t)) ∧ Below w.heap.size w w' ∧ w.heap.size < w'.heap.size
def shortOk : Value → Bool
  | .string s => decide (s.size ≤ 50)
  | _ => false
theorem short_at {w' : World} {g : Nat} {xs : List Value} {e : TypeId} (h : w'.heap[g]? = some (.cells xs.toArray e (0, 0))) (hall : xs.all shortOk = true) {k : Nat} (hk : k < xs.length) : ∃ t : List UInt8, t.length ≤ 50 ∧ w'.cell? ⟨g, k, none⟩ = some (str t) := by
  rw [cell_of_row _ _ k _ _ (0, 0) h]
  have hx := List.all_eq_true.1 hall xs[k] (List.getElem_mem _)
  cases hv : xs[k] with
  | string s =>
    rw [hv] at hx
    obtain ⟨⟨l⟩⟩ := s
    refine ⟨l, by simpa [shortOk, ByteArray.size] using hx, ?_⟩
    rw [List.getElem?_toArray, List.getElem?_eq_getElem hk, hv]
  | _ => rw [hv] at hx; cases hx

set_option maxHeartbeats 1000000 in
theorem l2Texts_short (w : World) : Calls Tryd.prog 19 #[] w (ShortOut w) := by
  go_enter Tryd.func19, Tryd.ntmps19
  go_wp2_with fail
  go_ret
  refine ⟨rfl, fun k hk => short_at (heap_alloc_new _ _) (by decide +kernel) hk, (Below.refl _ _).alloc (Nat.le_refl _) _, by simp⟩

/-- A text drawn. -/
def TextDrawn (w : World) (e : Ending) (w' : World) : Prop := ∃ t : List UInt8, e = .returned (str t) ∧ t.length ≤ 100 ∧ Below w.heap.size w w'

set_option maxHeartbeats 1000000 in
theorem drawReadOrder_any (A : Option Addr) (n c : Nat) (hn : n ≤ 4096) (w : World) (hs : SeeB w w.heap.size A n) : Calls Tryd.prog 7 #[.slice A n c] w (TextDrawn w) := by
  go_enter Tryd.func7, Tryd.ntmps7
  go_wp2_with fail
  refine (l1New_any A n c hn _ hs).mono ?_
  rintro e w1 ⟨rfl, k1, b1⟩
  have g1 := k1.lt
  generalize hg : w.heap.size = g at *
  have HG := Lib.hid hg
  clear hg
  go_wp2_with fail
  refine (l2Texts_short _).mono ?_
  rintro e w2 ⟨rfl, ht, b2, g2⟩
  have HT := Lib.hid ht
  have k2 := k1.later b2
  have B2 := below_then b1 b2 (by have := HG.out; omega)
  clear ht k1 b1
  go_wp2_with fail
  refine (l1Below_any g _ (by decide) (by decide) _ k2).mono ?_
  rintro e w3 ⟨x, rfl, hx0, hx1, k3, q3⟩
  obtain ⟨j, rfl⟩ := Int.eq_ofNat_of_zero_le hx0
  obtain ⟨t, htl, htc⟩ := HT.out j (by omega)
  have t3 : w3.cell? ⟨w1.heap.size, j, none⟩ = some (str t) := (World.cell?_of_block (q3.block w1.heap.size g2 (fun e => by injection e; omega))).trans htc
  have B3 : Below g w w3 := ⟨q3.os.trans B2.os, q3.tape.trans B2.tape, q3.output.trans B2.output, Nat.le_trans B2.size q3.size, fun i hi => (q3.block i (by have := b2.size; omega) (fun e => by injection e; omega)).trans (B2.block i hi)⟩
  have hj : (j : Int) < 11 := by omega
  clear htc k2 b2 B2 q3 HT hx0 hx1
  go_wp2_with fail
  refine (l1Once_any g _ (by decide) (by decide) _ k3).mono ?_
  rintro e w4 ⟨o, rfl, k4, q4⟩
  have B4 : Below g w w4 := ⟨q4.os.trans B3.os, q4.tape.trans B3.tape, q4.output.trans B3.output, Nat.le_trans B3.size q4.size, fun i hi => (q4.block i (by have := k3.lt; omega) (fun e => by injection e; omega)).trans (B3.block i hi)⟩
  clear B3 k3 q4 t3
  cases o with
  | false =>
    go_wp2_with fail
    go_ret
    exact ⟨t, rfl, by omega, by rw [HG.out]; exact B4⟩
  | true =>
    go_wp2_with fail
    refine (l1Bend_any g t [48, 49, 47] (by omega) (by decide) (by decide) _ k4).mono ?_
    rintro e w5 ⟨u, rfl, hul, k5, q5⟩
    have B5 : Below g w w5 := ⟨q5.os.trans B4.os, q5.tape.trans B4.tape, q5.output.trans B4.output, Nat.le_trans B4.size q5.size, fun i hi => (q5.block i (by have := k4.lt; omega) (fun e => by injection e; omega)).trans (B4.block i hi)⟩
    go_wp2_with fail
    go_ret
    exact ⟨u, rfl, by omega, by rw [HG.out]; exact B5⟩

end Go.Proofs.YtkpaidadofmpfaaDoor
