/- Contracts of the draws' cursor: a byte, a number below another one, from a code. What is drawn is any number within its bounds; the memory that was there stays. Draws: what is drawn, the cursor kept, nothing else that was there turned. No function but the cursor's is named. -/
import Derived.Test.YtigcbegeaikfcaaGreatDoorRows
import Derived.Test.YtigcbegeaikfcaaGreatDoorLowA
import Derived.Deep.QuietTactic
import Derived.BigQuiet
import Derived.Deep.RegionHeld3
namespace Go.Proofs.YtigcbegeaikfcaaGreatDoor
open Go.RowKit
set_option linter.unusedVariables false

theorem and_le (a : Int) (m : Nat) (hm : m < 9223372036854775808) : 0 ≤ bits BinOp.and IntKind.i64 a m ∧ bits BinOp.and IntKind.i64 a m ≤ m := by
  have h : bits BinOp.and IntKind.i64 a m = IntKind.i64.wrap ((BitVec.ofInt 64 a &&& BitVec.ofInt 64 (m : Int)).toNat : Int) := rfl
  have h1 : (BitVec.ofInt 64 (m : Int)).toNat = m := by
    rw [BitVec.ofInt_natCast, BitVec.toNat_ofNat]
    exact Nat.mod_eq_of_lt (by omega)
  rw [h, BitVec.toNat_and, h1, IntKind.wrap_i64]
  have h2 : (BitVec.ofInt 64 a).toNat &&& m ≤ m := Nat.and_le_right
  generalize (BitVec.ofInt 64 a).toNat &&& m = x at h2
  omega

/-- Of the first n elements of a slice of bytes at A each lies below block B and is a byte. -/
def SeeB (w : World) (B : Nat) (A : Option Addr) (n : Nat) : Prop :=
  n ≤ maxLen ∧ ∀ k, k < n → ∃ g o x, A = some ⟨g, o, none⟩ ∧ g < B ∧ w.cell? ⟨g, o + k, none⟩ = some (.int .u8 x) ∧ 0 ≤ x ∧ x ≤ 255
theorem SeeB.keep {w w' : World} {B n : Nat} {A : Option Addr} (h : SeeB w B A n) (hk : ∀ p : Addr, p.block < B → w'.cell? p = w.cell? p) : SeeB w' B A n := by
  refine ⟨h.1, fun k hk' => ?_⟩
  obtain ⟨g, o, x, rfl, hg, hc, hx⟩ := h.2 k hk'
  exact ⟨g, o, x, rfl, hg, (hk _ hg).trans hc, hx⟩
theorem SeeB.more {w : World} {B B' n : Nat} {A : Option Addr} (h : SeeB w B A n) (hB : B ≤ B') : SeeB w B' A n := by
  refine ⟨h.1, fun k hk' => ?_⟩
  obtain ⟨g, o, x, rfl, hg, hc, hx⟩ := h.2 k hk'
  exact ⟨g, o, x, rfl, by omega, hc, hx⟩

/-- Block g is a cursor over bytes that lie below it. -/
def Cur (w : World) (g : Nat) : Prop :=
  ∃ A n c, ∃ (i : Nat) (h : Int), w.heap[g]? = some (.cells #[.slice A n c, .int .i64 i, .int .i64 h] 110 (0, 0)) ∧ SeeB w g A n ∧ i ≤ n

def ByteOut (w : World) (g : Nat) (lo hi : Int) (e : Ending) (w' : World) : Prop := ∃ x : Int, e = .returned (.int .i64 x) ∧ lo ≤ x ∧ x ≤ hi ∧ Cur w' g ∧ w.grownBy w' (some g)

set_option maxHeartbeats 1000000 in
theorem l1Byte_any (g : Nat) (w : World) (hc : Cur w g) : Calls Tryz.prog 101 #[.pointer (some ⟨g, 0, none⟩)] w (ByteOut w g 0 255) := by
  obtain ⟨A, n, c, i, h, hh, hs, hi⟩ := hc
  have c0 : w.cell? ⟨g, 0, none⟩ = some (.slice A n c) := by rw [cell_of_row w g 0 _ _ (0, 0) hh]; rfl
  have c1 : w.cell? ⟨g, 1, none⟩ = some (.int .i64 i) := by rw [cell_of_row w g 1 _ _ (0, 0) hh]; rfl
  have c2 : w.cell? ⟨g, 2, none⟩ = some (.int .i64 h) := by rw [cell_of_row w g 2 _ _ (0, 0) hh]; rfl
  have f2 : w.frozen? ⟨g, 2, none⟩ = false := frozen_row hh
  have HH := Lib.hid hh
  clear hh
  go_enter Tryz.func101, Tryz.ntmps101
  go_wp2_with fail
  generalize wrap64 (wrap64 (h * 6364136223846793005) + 1442695040888963407) = h2
  have HH1 : Hid ((w.setCell ⟨g, 2, none⟩ (.int .i64 h2)).heap[g]? = some (.cells #[.slice A n c, .int .i64 i, .int .i64 h2] 110 (0, 0))) := Lib.hid (heap_set (k := 2) HH.out (.int .i64 h2))
  have G1 : w.grownBy (w.setCell ⟨g, 2, none⟩ (.int .i64 h2)) (some g) := grown_set (World.grownBy.refl _ _) _
  have S1 : SeeB (w.setCell ⟨g, 2, none⟩ (.int .i64 h2)) g A n := hs.keep fun p hp => World.cell?_setCell_other w ⟨g, 2, none⟩ p _ (fun e => by subst e; simp at hp)
  clear hs c0 c1 c2 f2 HH
  generalize w.setCell ⟨g, 2, none⟩ (.int .i64 h2) = w1 at *
  have c0 : w1.cell? ⟨g, 0, none⟩ = some (.slice A n c) := by rw [cell_of_row w1 g 0 _ _ (0, 0) HH1.out]; rfl
  have c1 : w1.cell? ⟨g, 1, none⟩ = some (.int .i64 i) := by rw [cell_of_row w1 g 1 _ _ (0, 0) HH1.out]; rfl
  have c2 : w1.cell? ⟨g, 2, none⟩ = some (.int .i64 h2) := by rw [cell_of_row w1 g 2 _ _ (0, 0) HH1.out]; rfl
  have f1 : w1.frozen? ⟨g, 1, none⟩ = false := frozen_row HH1.out
  go_quiet (fail)
  go_wp2_with fail
  have hx := and_le (bits BinOp.xor IntKind.i64 (h2 / 8589934592) (h2 / 35184372088832)) 255 (by decide)
  rw [show (((255 : Nat) : Int)) = 255 from rfl] at hx
  generalize bits BinOp.and IntKind.i64 (bits BinOp.xor IntKind.i64 (h2 / 8589934592) (h2 / 35184372088832)) 255 = x at hx ⊢
  obtain ⟨hx0, hx1⟩ := hx
  have hm := S1.1
  unfold maxLen at hm
  by_cases hlt : i < n
  · obtain ⟨g', o, b, rfl, hg', hcb, hb0, hb1⟩ := S1.2 i hlt
    go_quiet (fail)
    go_wp2_with fail
    go_quiet (fail)
    go_wp2_with fail
    go_ret
    have hy := and_le (x + b) 255 (by decide)
    rw [show (((255 : Nat) : Int)) = 255 from rfl] at hy
    refine ⟨_, rfl, hy.1, hy.2, ⟨some ⟨g', o, none⟩, n, c, i + 1, h2, ?_, ?_, by omega⟩, ?_⟩
    · exact heap_set (k := 1) HH1.out _
    · exact S1.keep fun p hp => World.cell?_setCell_other w1 ⟨g, 1, none⟩ p _ (fun e => by subst e; simp at hp)
    · exact grown_set (wr := w1.drewN _) ⟨G1.os, G1.tape, G1.output, G1.size, G1.block⟩ _
  · go_quiet (fail)
    go_wp2_with fail
    go_ret
    exact ⟨_, rfl, hx0, hx1, ⟨A, n, c, i, h2, HH1.out, S1, hi⟩, ⟨G1.os, G1.tape, G1.output, G1.size, G1.block⟩⟩

set_option maxHeartbeats 1000000 in
theorem l1Below_any (g : Nat) (m : Int) (h0 : 0 < m) (h1 : m ≤ 256) (w : World) (hc : Cur w g) : Calls Tryz.prog 49 #[.pointer (some ⟨g, 0, none⟩), .int .i64 m] w (ByteOut w g 0 (m - 1)) := by
  go_enter Tryz.func49, Tryz.ntmps49
  go_wp2_with fail
  refine (l1Byte_any g _ hc).mono ?_
  rintro e w1 ⟨x, rfl, hx0, hx1, hc1, hg1⟩
  go_wp2_with fail
  go_ret
  exact ⟨_, rfl, Int.emod_nonneg _ (by omega), by have := Int.emod_lt_of_pos x h0; omega, hc1, hg1⟩

set_option maxHeartbeats 1000000 in
theorem l1From_any (g : Nat) (lo hi : Int) (h0 : lo ≤ hi) (h1 : hi - lo ≤ 255) (h2 : -1000000 ≤ lo) (h3 : hi ≤ 1000000) (w : World) (hc : Cur w g) : Calls Tryz.prog 92 #[.pointer (some ⟨g, 0, none⟩), .int .i64 lo, .int .i64 hi] w (ByteOut w g lo hi) := by
  go_enter Tryz.func92, Tryz.ntmps92
  go_wp2_with fail
  refine (l1Below_any g _ (by omega) (by omega) _ hc).mono ?_
  rintro e w1 ⟨x, rfl, hx0, hx1, hc1, hg1⟩
  go_wp2_with fail
  go_ret
  exact ⟨_, rfl, by omega, by omega, hc1, hg1⟩

def BoolOut (w : World) (g : Nat) (e : Ending) (w' : World) : Prop := ∃ b : Bool, e = .returned (.bool b) ∧ Cur w' g ∧ w.grownBy w' (some g)

set_option maxHeartbeats 1000000 in
theorem l1Once_any (g : Nat) (m : Int) (h0 : 0 < m) (h1 : m ≤ 256) (w : World) (hc : Cur w g) : Calls Tryz.prog 89 #[.pointer (some ⟨g, 0, none⟩), .int .i64 m] w (BoolOut w g) := by
  go_enter Tryz.func89, Tryz.ntmps89
  go_wp2_with fail
  refine (l1Below_any g _ h0 h1 _ hc).mono ?_
  rintro e w1 ⟨x, rfl, hx0, hx1, hc1, hg1⟩
  go_wp2_with fail
  go_ret
  exact ⟨_, rfl, hc1, hg1⟩

def NewOut (w : World) (e : Ending) (w' : World) : Prop := e = .returned (.pointer (some ⟨w.heap.size, 0, none⟩)) ∧ Cur w' w.heap.size ∧ Below w.heap.size w w'

set_option maxHeartbeats 1000000 in
theorem l1New_any (A : Option Addr) (n c : Nat) (hn : n ≤ 4096) (w : World) (hs : SeeB w w.heap.size A n) : Calls Tryz.prog 41 #[.slice A n c] w (NewOut w) := by
  go_enter Tryz.func41, Tryz.ntmps41
  go_wp2_with fail
  go_loop [3, 4] (fun h i => ∃ (k : Nat) (x : Int), k ≤ n ∧ i = .int .i64 k ∧ h = .int .i64 x) (fun _ i => n - (intOf i).toNat)
  case atStart => exact ⟨0, _, Nat.zero_le _, rfl, rfl⟩
  case round =>
    obtain ⟨k, x, hk, rfl, rfl⟩ := hrel
    by_cases hlt : k < n
    · obtain ⟨g, o, b, rfl, hg, hcb, hb0, hb1⟩ := hs.2 k hlt
      go_wp2_with fail
      go_round
      case rel => exact ⟨k + 1, _, by omega, by go_num, rfl⟩
      case measure => simp [intOf]; omega
    · go_wp2_with fail
      go_ret
      refine ⟨rfl, ⟨A, n, c, 0, x, heap_alloc_new _ _, ?_, Nat.zero_le _⟩, (Below.refl _ _).alloc (Nat.le_refl _) _⟩
      exact hs.keep fun p hp => World.cell?_alloc_lt w _ p hp

set_option maxHeartbeats 400000 in
theorem big_any (A : Option Addr) (n c : Nat) (w : World) (hm : n ≤ maxLen) : Calls Tryz.prog 6 #[.slice A n c] w fun e w' => e = .returned (.bool (decide (4096 < (n : Int)))) ∧ w = w' := by
  unfold maxLen at hm
  by_cases h : 4096 < n
  all_goals
    go_enter Tryz.func6, Tryz.ntmps6
    go_wp2_with fail
    go_ret
    exact ⟨rfl, rfl⟩

end Go.Proofs.YtigcbegeaikfcaaGreatDoor

namespace Go.Proofs.YtigcbegeaikfcaaGreatDoor
open Go.RowKit
set_option linter.unusedVariables false

def IntOut (w : World) (g : Nat) (e : Ending) (w' : World) : Prop := ∃ x : Int, e = .returned (.int .i64 x) ∧ Cur w' g ∧ w.grownBy w' (some g)
theorem Cur.alloc {w : World} {g : Nat} (h : Cur w g) (o : Obj) : Cur (w.alloc o) g := by
  obtain ⟨A, n, c, i, x, hh, hs, hi⟩ := h
  have hlt : g < w.heap.size := (Array.getElem?_eq_some_iff.1 hh).1
  exact ⟨A, n, c, i, x, (Below.heap_alloc w o g hlt).trans hh, hs.keep fun p hp => World.cell?_alloc_lt w _ p (by omega), hi⟩
theorem Cur.lt {w : World} {g : Nat} (h : Cur w g) : g < w.heap.size := by
  obtain ⟨A, n, c, i, x, hh, hs, hi⟩ := h
  exact (Array.getElem?_eq_some_iff.1 hh).1
theorem grown_of_alloc {w w' : World} {g : Nat} (o : Obj) (h : (w.alloc o).grownBy w' (some g)) : w.grownBy w' (some g) :=
  ⟨h.os, h.tape, h.output, by have := h.size; simp at this; omega, fun k hk hne => (h.block k (by simp; omega) hne).trans (Below.heap_alloc w o k hk)⟩
theorem grown_trans {a b c : World} {g : Nat} (h : a.grownBy b (some g)) (k : b.grownBy c (some g)) : a.grownBy c (some g) :=
  ⟨k.os.trans h.os, k.tape.trans h.tape, k.output.trans h.output, Nat.le_trans h.size k.size, fun i hi hne => (k.block i (Nat.lt_of_lt_of_le hi h.size) hne).trans (h.block i hi hne)⟩
def PairOut (w : World) (e : Ending) (w' : World) : Prop := ∃ x y : Int, e = .returned (.tuple #[.int .i64 x, .int .i64 y]) ∧ Below w.heap.size w w'
def OneOut (w : World) (e : Ending) (w' : World) : Prop := ∃ x : Int, e = .returned (.int .i64 x) ∧ Below w.heap.size w w'
theorem below_cur {w w1 w2 : World} (hb : Below w.heap.size w w1) (hg : w1.grownBy w2 (some w.heap.size)) : Below w.heap.size w w2 :=
  hb.grown hg hb.size (fun k hk => by injection hk with hk; omega)
theorem grown_of_below {w w' : World} (h : Below w.heap.size w w') (r : Option Nat) : w.grownBy w' r := ⟨h.os, h.tape, h.output, h.size, fun k hk _ => h.block k hk⟩
theorem Cur.later {w w' : World} {g : Nat} (h : Cur w g) (hb : Below w.heap.size w w') : Cur w' g := by
  have hlt := h.lt
  obtain ⟨A, n, c, i, x, hh, hs, hi⟩ := h
  exact ⟨A, n, c, i, x, (hb.block g hlt).trans hh, hs.keep fun p hp => hb.cell (by omega), hi⟩
theorem Cur.far {w : World} {g : Nat} (h : Cur w g) {p : Addr} (hp : g < p.block) (u : Value) : Cur (w.setCell p u) g := by
  obtain ⟨A, n, c, i, x, hh, hs, hi⟩ := h
  refine ⟨A, n, c, i, x, (Below.heap_setCell w p u g (by omega)).trans hh, hs.keep fun q hq => World.cell?_setCell_other w p q u (fun e => by subst e; omega), hi⟩

end Go.Proofs.YtigcbegeaikfcaaGreatDoor
