/- Contracts of the laws' own helpers on slices of int64 and on Orders: the size that is counted, the copy that is made, whether two are equal. -/
import Derived.Test.YtigcbegeaikfcaaGreatDoorListA
import Derived.Deep.OwnRows
namespace Go.Proofs.YtigcbegeaikfcaaGreatDoor
open Go.RowKit
set_option linter.unusedVariables false

/-- What was there ahead of a call that leaves it alone reads behind it as it read. -/
theorem old_reads {w w1 : World} (hb : Below w.heap.size w w1) : (∀ b o, b < w.heap.size → w1.cell? ⟨b, o, none⟩ = w.cell? ⟨b, o, none⟩) ∧ (∀ b o, b < w.heap.size → w1.frozen? ⟨b, o, none⟩ = w.frozen? ⟨b, o, none⟩) ∧ w.heap.size ≤ w1.heap.size :=
  ⟨fun b o h => hb.cell (p := ⟨b, o, none⟩) h, fun b o h => hb.frozen (p := ⟨b, o, none⟩) h, hb.size⟩

theorem SeeI.alloc {w : World} {B : Nat} {v : Value} {zs : List Int} (h : SeeI w B v zs) (hB : B ≤ w.heap.size) (o : Obj) : SeeI (w.alloc o) B v zs := h.keep fun p hp => World.cell?_alloc_lt w o p (by omega)
theorem OwnI.far {w : World} {B : Nat} {e : TypeId} {v : Value} {zs : List Int} (h : OwnI w B e v zs) {p : Addr} (hp : p.block < B) (u : Value) : OwnI (w.setCell p u) B e v zs := ownsRow_setCell_below h hp u
theorem OwnI.less {w : World} {B B' : Nat} {e : TypeId} {v : Value} {zs : List Int} (h : OwnI w B e v zs) (hB : B' ≤ B) : OwnI w B' e v zs := by
  obtain ⟨hl, h⟩ := h
  rcases h with h | ⟨g, cap, cur, h1, h2, h3⟩
  · exact ⟨hl, .inl h⟩
  · exact ⟨hl, .inr ⟨g, cap, cur, h1, Nat.le_trans hB h2, h3⟩⟩

theorem Tryz.infoI64 : (Tryz.prog.info? 2).map (fun i => (i.zero, i.size, i.bytes)) = some (some (.int .i64 0), 1, 8) := by kernel_rfl

def szB (left n : Int) : Int := if left < n then -1 else left - n

set_option maxHeartbeats 400000 in
theorem szInts_any (A : Option Addr) (n c : Nat) (left : Int) (hn : n ≤ maxLen) (h0 : 0 ≤ left) (h1 : left ≤ 1048576) (w : World) : Calls Tryz.prog 72 #[.slice A n c, .int .i64 left] w fun e w' => e = .returned (.int .i64 (szB left n)) ∧ w = w' := by
  unfold maxLen at hn
  by_cases h : left < n
  · have HB : Hid (szB left n = -1) := Lib.hid (by simp [szB, h])
    have h2 : left - (n : Int) < 0 := by omega
    go_enter Tryz.func72, Tryz.ntmps72
    go_wp2_with fail
    go_ret
    rw [HB.out]
    exact ⟨rfl, rfl⟩
  · have HB : Hid (szB left n = left - n) := Lib.hid (by simp [szB, h])
    have h2 : ¬ left - (n : Int) < 0 := by omega
    go_enter Tryz.func72, Tryz.ntmps72
    go_wp2_with fail
    go_ret
    rw [HB.out]
    exact ⟨rfl, rfl⟩

theorem take_more' {zs : List Int} {k : Nat} {x : Int} (hx : zs[k]? = some x) : (zs.take (k + 1)).map (Value.int .i64) = (zs.take k).map (Value.int .i64) ++ [.int .i64 x] := by
  rw [List.take_add_one, hx]; simp

set_option maxHeartbeats 1000000 in
theorem toInts_any (B : Nat) (v : Value) (zs : List Int) (hn : zs.length ≤ 1048576) (w : World) (hs : SeeI w B v zs) (hB : B ≤ w.heap.size) : Calls Tryz.prog 75 #[v] w fun e w' =>
    ∃ v', e = .returned v' ∧ OwnI w' w.heap.size 2 v' zs ∧ Below w.heap.size w w' := by
  obtain ⟨A, c, rfl⟩ := hs.shape
  have hmk := fun W => run_make_row' (P := Tryz.prog) 24 2 (.int .i64 0) 8 Tryz.underlying24 Tryz.infoI64 rfl .i64 .i64 zs.length (by omega) (by omega) W
  go_enter Tryz.func75, Tryz.ntmps75
  go_wp2_with fail
  clear hmk
  have H0 : Hid ((w.alloc (.cells (madeCells #[.int .i64 0] zs.length) 2)).heap[w.heap.size]? = some (.cells (madeCells #[.int .i64 0] zs.length) 2 (0, 0))) := Lib.hid (heap_alloc_new _ _)
  have B0 : Below w.heap.size w (w.alloc (.cells (madeCells #[.int .i64 0] zs.length) 2)) := (Below.refl _ _).alloc (Nat.le_refl _) _
  go_loopw [4] (fun i wr => ∃ (k : Nat) (cur : Array Value), k ≤ zs.length ∧ i = .int .i64 k ∧ wr.heap[w.heap.size]? = some (.cells cur 2 (0, 0)) ∧ cur.size = zs.length ∧
      cur.toList.take k = (zs.take k).map (Value.int .i64) ∧ Below w.heap.size w wr) (fun i _ => zs.length - (intOf i).toNat)
  case atStart => exact ⟨0, _, Nat.zero_le _, rfl, H0.out, by simp [madeCells], by simp, B0⟩
  case round =>
    obtain ⟨k, cur, hk, rfl, hh, hsz, htk, hb⟩ := hrel
    have HH := Lib.hid hh
    have HZ := Lib.hid hsz
    have HT := Lib.hid htk
    clear hh hsz htk
    by_cases hlt : k < zs.length
    · have hk' : k < cur.size := by have := HZ.out; omega
      have hs' := hs.keep fun p hp => hb.cell (p := p) (by omega)
      obtain ⟨g, o, x, rfl, -, hx, hcx⟩ := hs'.at_ hlt
      have HX := Lib.hid hx
      clear hx hs'
      have hcell : wr.cell? ⟨w.heap.size, k, none⟩ = some cur[k] := by rw [cell_of_row wr _ k cur _ (0, 0) HH.out]; exact Array.getElem?_eq_getElem hk'
      have hfz : wr.frozen? ⟨w.heap.size, k, none⟩ = false := frozen_row HH.out
      go_wp2
      go_roundw
      case rel => exact ⟨k + 1, _, by omega, by go_num, heap_set HH.out _, by rw [Array.size_setIfInBounds]; exact HZ.out, by rw [take_more' HX.out]; exact take_set HT.out hk', hb.setCell (Nat.le_refl _) _⟩
      case measure => simp [intOf]; omega
    · obtain rfl : zs.length = k := by omega
      go_wp2
      go_ret
      refine ⟨_, rfl, ⟨by simp, .inr ⟨w.heap.size, zs.length, cur, by simp, Nat.le_refl _, HH.out, by simp, by unfold maxLen; omega, by have := HZ.out; simpa using this, ?_⟩⟩, hb⟩
      have := HT.out
      rw [List.take_of_length_le (Nat.le_refl zs.length)] at this
      simpa using this

end Go.Proofs.YtigcbegeaikfcaaGreatDoor
