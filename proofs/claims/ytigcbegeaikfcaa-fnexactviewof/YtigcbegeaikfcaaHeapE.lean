/- The program's leastOf, by the heap. -/
import Derived.Test.YtigcbegeaikfcaaHeapD
import Derived.Test.YtigcbegeaikfcaaHeapN
namespace Go.Proofs.Ytigcbegeaikfcaa
open Go.RowKit
set_option linter.unusedVariables false

theorem OwnI.upd {w w' : World} {B C g : Nat} {e : TypeId} {v : Value} {zs : List Int} (h : OwnI w C e v zs) (d : Upd B g w w') (hg : g < C) (hB : w.heap.size ≤ B) : OwnI w' C e v zs := by
  have hlt := h.lt
  obtain ⟨hl, h⟩ := h
  refine ⟨hl, ?_⟩
  rcases h with h | ⟨b, cap, cur, rfl, hb, hg', h⟩
  · exact .inl h
  · exact .inr ⟨b, cap, cur, rfl, hb, by rw [d.2 b (by omega) (by have := (hlt b rfl).2; omega)]; exact hg', h⟩
theorem sel_ok {p : Nat → Bool} {x : Int} (h : x ∈ sel (fun i => p i.toNat) 6) : ∃ j : Nat, j < 6 ∧ x = j ∧ p j = true := by
  obtain ⟨j, h1, h2, h3⟩ := mem_sel.1 h
  exact ⟨j, h1, h2, by simpa using h3⟩

set_option maxHeartbeats 4000000 in
set_option maxRecDepth 100000 in
theorem leastOf_any (R : Nat → Nat → Bool) (hR : PosR R) (p : Nat → Bool) (w : World) : Calls Try.prog 90 #[.agg (cellsI (ladR R)), .int .i64 (setN p)] w (IntOf w (leastT R p)) := by
  have HM : Hid (memB (setN p) = sel (fun i => p i.toNat) 6) := Lib.hid (mem_setN p)
  have L0 : Lad (w.alloc (.cells (cellsI (ladR R)) 73)) w.heap.size 73 (ladR R) := Lad.new _ _ _
  obtain ⟨a0, a1, a2, a3, a4, a5⟩ := L0.reads
  have l1 := L0.alloc (.cells (waitC (.slice none 0 0) (ladR R)) 95)
  have t1 : Wait ((w.alloc (.cells (cellsI (ladR R)) 73)).alloc (.cells (waitC (.slice none 0 0) (ladR R)) 95)) (w.heap.size + 1) (.slice none 0 0) (ladR R) := by
    have := heap_alloc_new (w.alloc (.cells (cellsI (ladR R)) 73)) (.cells (waitC (.slice none 0 0) (ladR R)) 95)
    rwa [World.size_alloc] at this
  have b1 : Below w.heap.size w ((w.alloc (.cells (cellsI (ladR R)) 73)).alloc (.cells (waitC (.slice none 0 0) (ladR R)) 95)) := ((Below.refl _ _).alloc (Nat.le_refl _) _).alloc (by simp) _
  have Z1 : Hid (((w.alloc (.cells (cellsI (ladR R)) 73)).alloc (.cells (waitC (.slice none 0 0) (ladR R)) 95)).heap.size = w.heap.size + 2) := Lib.hid (by simp)
  rw [cells6 (ladR_len R)] at a0 a1 a2 a3 a4 a5 l1 t1 b1 Z1 ⊢
  unfold waitC at l1 t1 b1 Z1
  clear L0
  go_enter Try.func90, Try.ntmps90
  go_wp2_with fail
  generalize World.alloc (w.alloc _) _ = W at l1 t1 b1 Z1 ⊢
  refine (iMembers_any _ _).mono ?_
  rintro e w2 ⟨v2, rfl, o2, hb2⟩
  rw [HM.out] at o2
  have z2 := hb2.size
  have l2 := l1.below hb2 l1.lt
  have t2 := t1.to (hb2.block _ t1.lt)
  have b2 := below_then b1 hb2 (Nat.le_refl _)
  have z1 := Z1.out
  clear a0 a1 a2 a3 a4 a5 l1 t1 b1 hb2 Z1 HM
  have HE : Hid (∀ y, y ∈ sel (fun i => p i.toNat) 6 ↔ ∃ j : Nat, j < 6 ∧ y = j ∧ p j = true) := Lib.hid fun y => ⟨sel_ok, fun ⟨j, h1, h2, h3⟩ => mem_sel.2 ⟨j, h1, h2, by simpa using h3⟩⟩
  have hml := sel_le (fun i => p i.toNat) 6
  generalize sel (fun i => p i.toNat) 6 = ms at o2 HE hml
  have HO : Hid (okR ms) := Lib.hid fun y hy => by obtain ⟨j, h1, rfl, _⟩ := (HE.out y).1 hy; omega
  have h2 : HS w2 w2.heap.size (w.heap.size + 1) (.slice none 0 0) R [] := ⟨t2, OwnI.nil _ _ _, t2.lt⟩
  obtain ⟨A, c, rfl⟩ := o2.see.shape
  go_wp2_with fail
  go_loopw [14] (fun i wr => ∃ (k : Nat) (v : Value) (xs : List Int), i = .int .i64 k ∧ k ≤ ms.length ∧ HS wr w2.heap.size (w.heap.size + 1) v R xs ∧ xs.length = k ∧ (∀ y, y ∈ xs ↔ y ∈ ms.take k) ∧ topR R xs ∧ Upd w2.heap.size (w.heap.size + 1) w2 wr) (fun i _ => ms.length - (intOf i).toNat)
  case atStart => exact ⟨0, _, [], rfl, Nat.zero_le _, h2, rfl, by simp, by simp [topR], Upd.refl _ _ _⟩
  case round =>
    obtain ⟨k, v, xs, rfl, hk, h3, hxl, hxm, htop, d3⟩ := hrel
    have HX := Lib.hid hxm
    have z3 := d3.size
    clear h2 t2 hxm
    by_cases hlt : k < ms.length
    · obtain ⟨g', o', x, rfl, -, hx, hcx⟩ := (o2.upd d3 (by omega) (Nat.le_refl _)).see.at_ hlt
      have hxr := HO.out x (List.mem_of_getElem? hx)
      have HT : Hid (ms.take (k + 1) = ms.take k ++ [x]) := Lib.hid (by rw [List.take_add_one, hx]; rfl)
      have ho : okR xs := fun y hy => HO.out y (List.mem_of_mem_take ((HX.out y).1 hy))
      have HP := Lib.hid (hPush_any wr w2.heap.size (w.heap.size + 1) v R xs h3 (by omega) ho (by omega) htop x hxr)
      clear hx ho htop hxr
      go_wp2_with fail
      refine HP.out.mono ?_
      rintro e w4 ⟨rfl, v', xs', h4, l4, m4, t4, d4⟩
      have M4 := Lib.hid m4
      clear m4
      go_wp2_with fail
      go_roundw
      case rel => exact ⟨k + 1, v', xs', by go_num, by omega, h4, by omega, fun y => by rw [M4.out, HT.out, List.mem_append, List.mem_append, HX.out], t4, d3.trans d4⟩
      case measure => simp [intOf]; omega
    · obtain rfl : ms.length = k := by omega
      have HY : Hid (∀ y, y ∈ xs ↔ ∃ j : Nat, j < 6 ∧ y = j ∧ p j = true) := Lib.hid fun y => by rw [HX.out, List.take_length, HE.out]
      have HL := Lib.hid (wLen_any wr _ _ v R xs h3)
      have bq : Below w.heap.size w wr := b2.trans (d3.1.mono (by omega))
      have lq := l2.below d3.1 (by omega)
      go_wp2_with fail
      refine HL.out.mono ?_
      rintro e w' ⟨rfl, rfl⟩
      cases hn : xs.length with
      | zero =>
        have HV : Hid (leastT R p = -1) := Lib.hid (least_no fun i hi => by
          cases hp : p i
          · simp [goodR, hp]
          · have := (HY.out i).2 ⟨i, hi, rfl, hp⟩
            rw [List.length_eq_zero_iff.1 hn] at this
            cases this)
        go_wp2_with fail
        go_ret
        exact ⟨by rw [HV.out]; rfl, bq⟩
      | succ n =>
        have ho : okR xs := fun y hy => by obtain ⟨j, h1, rfl, _⟩ := (HY.out y).1 hy; omega
        have HP := Lib.hid (hPop_any wr _ _ v R xs h3 n (by omega) hn ho)
        obtain ⟨r, hr6, hr, hpr⟩ := (HY.out (xs.getD 0 0)).1 (mem_at.2 ⟨0, by omega, rfl⟩)
        have HV : Hid (leastT R p = if goodR R p r then (r : Int) else -1) := Lib.hid (most_least hR hr6 hpr fun y hy hpy => by
          have := htop y ((HY.out y).2 ⟨y, hy, rfl, hpy⟩)
          rwa [hr] at this)
        rw [hr] at HP
        have hG := good_test (R := R) hpr
        have ta := fun W => assert_int r W
        have j1 : (r : Int) < 6 := by omega
        clear htop ho hn
        go_wp2_with fail
        refine HP.out.mono ?_
        rintro e w4 ⟨rfl, d4⟩
        have bq4 : Below w.heap.size w w4 := bq.trans (d4.1.mono (by omega))
        have lq4 := lq.below d4.1 (by omega)
        have cr := lq4.cell (k := r) (by rw [ladR_len]; exact hr6)
        rw [ladR_at _ _ hr6] at cr
        cases hg : goodR R p r
        · rw [hg] at hG HV
          go_wp2_with fail
          go_ret
          exact ⟨by rw [HV.out]; rfl, bq4⟩
        · rw [hg] at hG HV
          go_wp2_with fail
          go_ret
          exact ⟨by rw [HV.out]; rfl, bq4⟩

end Go.Proofs.Ytigcbegeaikfcaa
