/- Ladders (arrays of six sets by value): words for them, and the contracts of the program's functions that make them of numbers alone. -/
import Derived.Test.YtigcbegeaikfcaaLadM
import Derived.Test.YtigcbegeaikfcaaLawA
import Derived.Laws.StructEq
namespace Go.Proofs.Ytigcbegeaikfcaa
open Go.RowKit
set_option linter.unusedVariables false

def cellsI (L : List Int) : Array Value := (L.map (Value.int .i64)).toArray
/-- Block g of memory is an array of type t that holds the integers L. -/
def Lad (w : World) (g : Nat) (t : TypeId) (L : List Int) : Prop := w.heap[g]? = some (.cells (cellsI L) t (0, 0))
theorem Lad.cell {w : World} {g : Nat} {t : TypeId} {L : List Int} (h : Lad w g t L) {k : Nat} (hk : k < L.length) : w.cell? ⟨g, k, none⟩ = some (.int .i64 (L.getD k 0)) := by
  rw [cell_of_row w g k _ _ (0, 0) h]
  simp [cellsI, List.getElem?_eq_getElem hk]
theorem Lad.frozen {w : World} {g : Nat} {t : TypeId} {L : List Int} (h : Lad w g t L) (k : Nat) : w.frozen? ⟨g, k, none⟩ = false := frozen_row h
theorem Lad.set {w : World} {g : Nat} {t : TypeId} {L : List Int} (h : Lad w g t L) (k : Nat) (x : Int) : Lad (w.setCell ⟨g, k, none⟩ (.int .i64 x)) g t (L.set k x) := by
  have := heap_set (k := k) h (.int .i64 x)
  unfold Lad
  rw [this]
  simp [cellsI]
theorem Lad.new (w : World) (t : TypeId) (L : List Int) : Lad (w.alloc (.cells (cellsI L) t)) w.heap.size t L := heap_alloc_new _ _
theorem Lad.lt {w : World} {g : Nat} {t : TypeId} {L : List Int} (h : Lad w g t L) : g < w.heap.size := (Array.getElem?_eq_some_iff.1 h).1
theorem Lad.alloc {w : World} {g : Nat} {t : TypeId} {L : List Int} (h : Lad w g t L) (o : Obj) : Lad (w.alloc o) g t L := (Below.heap_alloc w o g h.lt).trans h
theorem Lad.far {w : World} {g : Nat} {t : TypeId} {L : List Int} (h : Lad w g t L) {p : Addr} (hp : g ≠ p.block) (u : Value) : Lad (w.setCell p u) g t L := (Below.heap_setCell w p u g hp).trans h
theorem Lad.below {w w' : World} {B g : Nat} {t : TypeId} {L : List Int} (h : Lad w g t L) (hb : Below B w w') (hg : g < B) : Lad w' g t L := (hb.block g hg).trans h
theorem Lad.drewN {w : World} {g : Nat} {t : TypeId} {L : List Int} (h : Lad w g t L) (n : Nat) : Lad (w.drewN n) g t L := h
/-- Its six cells, for a load or a store of all of it. -/
theorem Lad.six {w : World} {g : Nat} {t : TypeId} {L : List Int} (h : Lad w g t L) (hl : L.length = 6) :
    w.cell? ⟨g, 0, none⟩ = some (.int .i64 (L.getD 0 0)) ∧ w.cell? ⟨g, 1, none⟩ = some (.int .i64 (L.getD 1 0)) ∧ w.cell? ⟨g, 2, none⟩ = some (.int .i64 (L.getD 2 0)) ∧
    w.cell? ⟨g, 3, none⟩ = some (.int .i64 (L.getD 3 0)) ∧ w.cell? ⟨g, 4, none⟩ = some (.int .i64 (L.getD 4 0)) ∧ w.cell? ⟨g, 5, none⟩ = some (.int .i64 (L.getD 5 0)) :=
  ⟨h.cell (by omega), h.cell (by omega), h.cell (by omega), h.cell (by omega), h.cell (by omega), h.cell (by omega)⟩
theorem six_of {L : List Int} (hl : L.length = 6) : L = [L.getD 0 0, L.getD 1 0, L.getD 2 0, L.getD 3 0, L.getD 4 0, L.getD 5 0] := by
  match L, hl with
  | [a, b, c, d, e, f], _ => rfl

theorem cells6 {L : List Int} (hl : L.length = 6) : cellsI L = #[.int .i64 (L[0]?.getD 0), .int .i64 (L[1]?.getD 0), .int .i64 (L[2]?.getD 0), .int .i64 (L[3]?.getD 0), .int .i64 (L[4]?.getD 0), .int .i64 (L[5]?.getD 0)] := by
  match L, hl with
  | [a, b, c, d, e, f], _ => rfl
theorem Lad.free {w : World} {g : Nat} {t : TypeId} {L : List Int} (h : Lad w g t L) :
    w.frozen? ⟨g, 0, none⟩ = false ∧ w.frozen? ⟨g, 1, none⟩ = false ∧ w.frozen? ⟨g, 2, none⟩ = false ∧ w.frozen? ⟨g, 3, none⟩ = false ∧ w.frozen? ⟨g, 4, none⟩ = false ∧ w.frozen? ⟨g, 5, none⟩ = false :=
  ⟨h.frozen 0, h.frozen 1, h.frozen 2, h.frozen 3, h.frozen 4, h.frozen 5⟩

/-- The index of an array value. -/
theorem index_0 (a0 a1 a2 a3 a4 a5 : Int) (W : World) : (Instr.index 73 (.agg #[.int .i64 a0, .int .i64 a1, .int .i64 a2, .int .i64 a3, .int .i64 a4, .int .i64 a5]) (.int .i64 0)).run Try.prog W = .ok (.int .i64 a0) W := by kernel_rfl
theorem index_1 (a0 a1 a2 a3 a4 a5 : Int) (W : World) : (Instr.index 73 (.agg #[.int .i64 a0, .int .i64 a1, .int .i64 a2, .int .i64 a3, .int .i64 a4, .int .i64 a5]) (.int .i64 1)).run Try.prog W = .ok (.int .i64 a1) W := by kernel_rfl
theorem index_2 (a0 a1 a2 a3 a4 a5 : Int) (W : World) : (Instr.index 73 (.agg #[.int .i64 a0, .int .i64 a1, .int .i64 a2, .int .i64 a3, .int .i64 a4, .int .i64 a5]) (.int .i64 2)).run Try.prog W = .ok (.int .i64 a2) W := by kernel_rfl
theorem index_3 (a0 a1 a2 a3 a4 a5 : Int) (W : World) : (Instr.index 73 (.agg #[.int .i64 a0, .int .i64 a1, .int .i64 a2, .int .i64 a3, .int .i64 a4, .int .i64 a5]) (.int .i64 3)).run Try.prog W = .ok (.int .i64 a3) W := by kernel_rfl
theorem index_4 (a0 a1 a2 a3 a4 a5 : Int) (W : World) : (Instr.index 73 (.agg #[.int .i64 a0, .int .i64 a1, .int .i64 a2, .int .i64 a3, .int .i64 a4, .int .i64 a5]) (.int .i64 4)).run Try.prog W = .ok (.int .i64 a4) W := by kernel_rfl
theorem index_5 (a0 a1 a2 a3 a4 a5 : Int) (W : World) : (Instr.index 73 (.agg #[.int .i64 a0, .int .i64 a1, .int .i64 a2, .int .i64 a3, .int .i64 a4, .int .i64 a5]) (.int .i64 5)).run Try.prog W = .ok (.int .i64 a5) W := by kernel_rfl
theorem index6 (a0 a1 a2 a3 a4 a5 : Int) (k : Nat) (hk : k < 6) (W : World) :
    (Instr.index 73 (.agg #[.int .i64 a0, .int .i64 a1, .int .i64 a2, .int .i64 a3, .int .i64 a4, .int .i64 a5]) (.int .i64 k)).run Try.prog W = .ok (.int .i64 ([a0, a1, a2, a3, a4, a5].getD k 0)) W := by
  match k, hk with
  | 0, _ => exact index_0 a0 a1 a2 a3 a4 a5 W
  | 1, _ => exact index_1 a0 a1 a2 a3 a4 a5 W
  | 2, _ => exact index_2 a0 a1 a2 a3 a4 a5 W
  | 3, _ => exact index_3 a0 a1 a2 a3 a4 a5 W
  | 4, _ => exact index_4 a0 a1 a2 a3 a4 a5 W
  | 5, _ => exact index_5 a0 a1 a2 a3 a4 a5 W
theorem index_lad {L : List Int} (hl : L.length = 6) (k : Nat) (hk : k < 6) (W : World) :
    (Instr.index 73 (.agg #[.int .i64 (L[0]?.getD 0), .int .i64 (L[1]?.getD 0), .int .i64 (L[2]?.getD 0), .int .i64 (L[3]?.getD 0), .int .i64 (L[4]?.getD 0), .int .i64 (L[5]?.getD 0)]) (.int .i64 k)).run Try.prog W = .ok (.int .i64 (L.getD k 0)) W := by
  rw [index6 _ _ _ _ _ _ k hk]
  match L, hl with
  | [a, b, c, d, e, f], _ => rfl

abbrev zeroR : Nat → Nat → Bool := fun _ _ => false
theorem cells0 : cellsI (ladR zeroR) = #[.int .i64 0, .int .i64 0, .int .i64 0, .int .i64 0, .int .i64 0, .int .i64 0] := by rw [ladR_zero]; rfl

def selfR (n : Nat) : Nat → Nat → Bool := fun b x => decide (b < n) && x == b
theorem selfR_zero : ladR zeroR = ladR (selfR 0) := ladR_congr fun b x _ _ => by simp [selfR]
theorem selfR_succ (k : Nat) (hk : k < 6) : (ladR (selfR k)).set k (bits BinOp.or IntKind.i64 ((ladR (selfR k)).getD k 0) (wrap64 (2 ^ k))) = ladR (selfR (k + 1)) := by
  rw [ladR_at _ k hk, setN_or _ k hk, ladR_set _ k hk]
  refine ladR_congr fun b x hb hx => ?_
  simp only [selfR]
  by_cases h : b = k
  · subst h; simp
  · have : (b < k + 1) = (b < k) := propext ⟨fun _ => by omega, fun _ => by omega⟩
    simp [h, this]

set_option maxHeartbeats 1000000 in
theorem selves_any (n : Nat) (hn : n ≤ 6) (w : World) : Calls Try.prog 81 #[.int .i64 n] w fun e w' => e = .returned (.agg (cellsI (ladR (selfR n)))) ∧ Below w.heap.size w w' := by
  have L0 : Lad (w.alloc (.cells (cellsI (ladR zeroR)) 73)) w.heap.size 73 (ladR zeroR) := Lad.new _ _ _
  have L1 := L0.alloc (.cells (cellsI (ladR zeroR)) 73)
  have L2 := Lad.new (w.alloc (.cells (cellsI (ladR zeroR)) 73)) 73 (ladR zeroR)
  have b0 : Below w.heap.size w ((w.alloc (.cells (cellsI (ladR zeroR)) 73)).alloc (.cells (cellsI (ladR zeroR)) 73)) := ((Below.refl _ _).alloc (Nat.le_refl _) _).alloc (by simp) _
  rw [World.size_alloc] at L2
  rw [cells0] at L1 L2 b0
  rw [selfR_zero] at L2
  clear L0
  go_enter Try.func81, Try.ntmps81
  go_wp2_with fail
  go_loopw [4, 6] (fun _ i wr => ∃ k : Nat, k ≤ n ∧ i = .int .i64 k ∧ Lad wr w.heap.size 73 (ladR zeroR) ∧ Lad wr (w.heap.size + 1) 73 (ladR (selfR k)) ∧ Below w.heap.size w wr) (fun _ i _ => n - (intOf i).toNat)
  case atStart => exact ⟨0, Nat.zero_le _, rfl, L1, L2, b0⟩
  case round =>
    obtain ⟨k, hk, rfl, l1, l2, hb⟩ := hrel
    clear L1 L2 b0
    by_cases hlt : k < n
    · have hc := l2.cell (k := k) (by rw [ladR_len]; omega)
      have hf := l2.frozen k
      have R := Lib.hid (l2.set k (bits BinOp.or IntKind.i64 ((ladR (selfR k)).getD k 0) (wrap64 (2 ^ k))))
      rw [selfR_succ k (by omega)] at R
      go_wp2_with fail
      refine (with_any _ _ (by omega) (by omega) _).mono ?_
      rintro e w' ⟨rfl, rfl⟩
      go_wp2_with fail
      go_roundw
      case rel => exact ⟨k + 1, by omega, by go_num, l1.far (by simp) _, R.out, hb.setCell (by simp) _⟩
      case measure => simp [intOf]; omega
    · obtain rfl : n = k := by omega
      obtain ⟨a0, a1, a2, a3, a4, a5⟩ := l2.six (ladR_len _)
      obtain ⟨c0, c1, c2, c3, c4, c5⟩ := l1.six (ladR_len _)
      obtain ⟨f0, f1, f2, f3, f4, f5⟩ := l1.free
      go_wp2_with fail
      refine bodyPost_ret (v := .agg (cellsI (ladR (selfR n)))) (by rw [cells6 (ladR_len _)]; simp [results, Try.results81, go_sem, c0, c1, c2, c3, c4, c5]) rfl ⟨rfl, ?_⟩
      (repeat refine Below.setCell ?_ (by simp) _)
      exact hb

def everyR (m n : Nat) : Nat → Nat → Bool := fun b x => decide (b < n) && decide (x < m)
theorem everyR_zero (m : Nat) : ladR zeroR = ladR (everyR m 0) := ladR_congr fun b x _ _ => by simp [everyR]
theorem everyR_succ (m k : Nat) (hm : m ≤ 6) (hk : k < 6) : (ladR (everyR m k)).set k (2 ^ m - 1) = ladR (everyR m (k + 1)) := by
  rw [← setN_first m hm, ladR_set _ k hk]
  refine ladR_congr fun b x hb hx => ?_
  simp only [everyR]
  by_cases h : b = k
  · subst h; simp
  · have : (b < k + 1) = (b < k) := propext ⟨fun _ => by omega, fun _ => by omega⟩
    simp [h, this]

def inBothR (R S : Nat → Nat → Bool) (k : Nat) : Nat → Nat → Bool := fun b x => if b < k then R b x && S b x else R b x
theorem inBothR_zero (R S : Nat → Nat → Bool) : ladR (inBothR R S 0) = ladR R := ladR_congr fun b x _ _ => by simp [inBothR]
theorem inBothR_at (R S : Nat → Nat → Bool) (k : Nat) (hk : k < 6) : (ladR (inBothR R S k)).getD k 0 = setN (R k) := by
  rw [ladR_at _ k hk]; exact setN_congr fun x _ => by simp [inBothR]
theorem inBothR_succ (R S : Nat → Nat → Bool) (k : Nat) (hk : k < 6) : (ladR (inBothR R S k)).set k (bits BinOp.and IntKind.i64 (setN (R k)) (setN (S k))) = ladR (inBothR R S (k + 1)) := by
  rw [setN_and, ladR_set _ k hk]
  refine ladR_congr fun b x hb hx => ?_
  simp only [inBothR]
  by_cases h : b = k
  · subst h; simp
  · have : (b < k + 1) = (b < k) := propext ⟨fun _ => by omega, fun _ => by omega⟩
    simp [h, this]

set_option maxHeartbeats 2000000 in
theorem inBoth_any (R S : Nat → Nat → Bool) (w : World) : Calls Try.prog 80 #[.agg (cellsI (ladR R)), .agg (cellsI (ladR S))] w fun e w' => e = .returned (.agg (cellsI (ladR (inBothR R S 6)))) ∧ Below w.heap.size w w' := by
  have L0 : Lad (w.alloc (.cells (cellsI (ladR R)) 73)) w.heap.size 73 (ladR R) := Lad.new _ _ _
  have L1 := (L0.alloc (.cells (cellsI (ladR S)) 73)).alloc (.cells (cellsI (ladR zeroR)) 73)
  have M1 := (Lad.new (w.alloc (.cells (cellsI (ladR R)) 73)) 73 (ladR S)).alloc (.cells (cellsI (ladR zeroR)) 73)
  have R1 := Lad.new ((w.alloc (.cells (cellsI (ladR R)) 73)).alloc (.cells (cellsI (ladR S)) 73)) 73 (ladR zeroR)
  have b0 : Below w.heap.size w (((w.alloc (.cells (cellsI (ladR R)) 73)).alloc (.cells (cellsI (ladR S)) 73)).alloc (.cells (cellsI (ladR zeroR)) 73)) := (((Below.refl _ _).alloc (Nat.le_refl _) _).alloc (by simp) _).alloc (by simp; omega) _
  rw [World.size_alloc] at M1
  rw [World.size_alloc, World.size_alloc] at R1
  clear L0
  rw [cells0] at L1 M1 R1 b0
  rw [cells6 (ladR_len R), cells6 (ladR_len S)] at L1 M1 R1 b0 ⊢
  go_enter Try.func80, Try.ntmps80
  go_wp2_with fail
  go_loopw [5, 6] (fun _ i wr => ∃ k : Nat, k ≤ 6 ∧ i = .int .i64 k ∧ Lad wr w.heap.size 73 (ladR (inBothR R S k)) ∧ Lad wr (w.heap.size + 1) 73 (ladR S) ∧ Lad wr (w.heap.size + 1 + 1) 73 (ladR zeroR) ∧ Below w.heap.size w wr) (fun _ i _ => 6 - (intOf i).toNat)
  case atStart => exact ⟨0, Nat.zero_le _, rfl, by rw [inBothR_zero]; exact L1, M1, R1, b0⟩
  case round =>
    obtain ⟨k, hk, rfl, l1, l2, l3, hb⟩ := hrel
    clear L1 M1 R1 b0
    by_cases hlt : k < 6
    · have hc := l1.cell (k := k) (by rw [ladR_len]; omega)
      rw [inBothR_at _ _ _ hlt] at hc
      have hf := l1.frozen k
      have hd := l2.cell (k := k) (by rw [ladR_len]; omega)
      rw [ladR_at _ _ hlt] at hd
      have RR := Lib.hid (l1.set k (bits BinOp.and IntKind.i64 (setN (R k)) (setN (S k))))
      rw [inBothR_succ _ _ k (by omega)] at RR
      go_wp2_with fail
      go_region
      go_wp2_with fail
      go_roundw
      case rel => exact ⟨k + 1, by omega, by go_num, RR.out, l2.far (by simp) _, l3.far (by simp; omega) _, (hb.setCell (by simp) _).drew⟩
      case measure => simp [intOf]; omega
    · obtain rfl : k = 6 := by omega
      obtain ⟨a0, a1, a2, a3, a4, a5⟩ := l1.six (ladR_len _)
      obtain ⟨c0, c1, c2, c3, c4, c5⟩ := l3.six (ladR_len _)
      obtain ⟨f0, f1, f2, f3, f4, f5⟩ := l3.free
      go_wp2_with fail
      refine bodyPost_ret (v := .agg (cellsI (ladR (inBothR R S 6)))) (by rw [cells6 (ladR_len _)]; simp [results, Try.results80, go_sem, c0, c1, c2, c3, c4, c5]) rfl ⟨rfl, ?_⟩
      (repeat refine Below.setCell ?_ (by simp; omega) _)
      exact hb

def inEitherR (R S : Nat → Nat → Bool) (k : Nat) : Nat → Nat → Bool := fun b x => if b < k then R b x || S b x else R b x
theorem inEitherR_zero (R S : Nat → Nat → Bool) : ladR (inEitherR R S 0) = ladR R := ladR_congr fun b x _ _ => by simp [inEitherR]
theorem inEitherR_at (R S : Nat → Nat → Bool) (k : Nat) (hk : k < 6) : (ladR (inEitherR R S k)).getD k 0 = setN (R k) := by
  rw [ladR_at _ k hk]; exact setN_congr fun x _ => by simp [inEitherR]
theorem inEitherR_succ (R S : Nat → Nat → Bool) (k : Nat) (hk : k < 6) : (ladR (inEitherR R S k)).set k (bits BinOp.or IntKind.i64 (setN (R k)) (setN (S k))) = ladR (inEitherR R S (k + 1)) := by
  rw [setN_both, ladR_set _ k hk]
  refine ladR_congr fun b x hb hx => ?_
  simp only [inEitherR]
  by_cases h : b = k
  · subst h; simp
  · have : (b < k + 1) = (b < k) := propext ⟨fun _ => by omega, fun _ => by omega⟩
    simp [h, this]

end Go.Proofs.Ytigcbegeaikfcaa
