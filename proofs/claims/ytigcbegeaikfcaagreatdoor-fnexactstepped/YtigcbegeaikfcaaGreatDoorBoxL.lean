/- The laws' own helpers on boxes: their size, a copy, whether two are equal; the walks of FnExactBoxesOk and FnExactValueIn. No conditions but those typed. -/
import Derived.Test.YtigcbegeaikfcaaGreatDoorLowA
import Derived.Test.YtigcbegeaikfcaaGreatDoorLowT
import Derived.Deep.OwnRows
namespace Go.Proofs.YtigcbegeaikfcaaGreatDoor
open Go.RowKit
set_option linter.unusedVariables false

theorem boxes_two (bs : List Bx) : ∀ x ∈ bs.map boxV, x.length = 2 := by
  intro x hx
  obtain ⟨b, -, rfl⟩ := List.mem_map.1 hx
  rfl
def nmLens (bs : List Bx) : List Nat := bs.map fun b => b.1.length

set_option maxHeartbeats 400000 in
theorem szBox_any (n : List UInt8) (x left : Int) (hn : n.length ≤ 9223372036854775807) (h0 : 0 ≤ left) (h1 : left ≤ 1048576) (w : World) : Calls Tryz.prog 124 #[.agg #[str n, .int .i64 x], .int .i64 left] w fun e w' => e = .returned (.int .i64 (if left < n.length then -1 else left - n.length)) ∧ Below w.heap.size w w' := by
  by_cases h : left < n.length
  · have h2 : left - (n.length : Int) < 0 := by omega
    rw [if_pos h]
    go_enter Tryz.func124, Tryz.ntmps124
    go_wp2_with fail
    go_ret
    exact ⟨rfl, (Below.refl _ _).alloc (Nat.le_refl _) _⟩
  · have h2 : ¬ left - (n.length : Int) < 0 := by omega
    rw [if_neg h]
    go_enter Tryz.func124, Tryz.ntmps124
    go_wp2_with fail
    go_ret
    exact ⟨rfl, (Below.refl _ _).alloc (Nat.le_refl _) _⟩

/-- No name is longer than an int64 says. -/
def fitB (bs : List Bx) : Prop := ∀ b ∈ bs, b.1.length ≤ 9223372036854775807

set_option maxHeartbeats 1000000 in
theorem szBoxes_any (B : Nat) (v : Value) (bs : List Bx) (left : Int) (h0 : 0 ≤ left) (h1 : left ≤ 1048576) (w : World) (h : SeeBx w B v bs) (hB : B ≤ w.heap.size) (hF : fitB bs) : Calls Tryz.prog 73 #[v, .int .i64 left] w fun e w' => e = .returned (.int .i64 (szL left (nmLens bs))) ∧ Below w.heap.size w w' := by
  have hm := h.len
  unfold maxLen at hm
  obtain ⟨A, c, rfl⟩ := h.shape
  have HL : Hid ((nmLens bs).length = bs.length) := Lib.hid (by simp [nmLens])
  by_cases hl : left < bs.length
  · have HE : Hid (szL left (nmLens bs) = -1) := Lib.hid (szL_long (by rw [HL.out]; exact hl))
    have h2 : left - (bs.length : Int) < 0 := by omega
    go_enter Tryz.func73, Tryz.ntmps73
    go_wp2_with fail
    go_ret
    exact ⟨ret_int HE.out.symm, Below.refl _ _⟩
  have HE : Hid (szL left (nmLens bs) = szGo (left - bs.length) (nmLens bs)) := Lib.hid (by rw [szL_short (by rw [HL.out]; exact hl), HL.out])
  have h2 : ¬ left - (bs.length : Int) < 0 := by omega
  go_enter Tryz.func73, Tryz.ntmps73
  go_wp2_with fail
  go_loopw [1, 5] (fun q i wr => ∃ (k : Nat) (x : Int), k ≤ bs.length ∧ i = .int .i64 k ∧ q = .int .i64 x ∧ 0 ≤ x ∧ x ≤ 1048576 ∧ szGo x ((nmLens bs).drop k) = szL left (nmLens bs) ∧ Below w.heap.size w wr) (fun _ i _ => bs.length - (intOf i).toNat)
  case atStart => exact ⟨0, _, Nat.zero_le _, rfl, rfl, by omega, by omega, HE.out.symm, Below.refl _ _⟩
  case round =>
    obtain ⟨k, x, hk, rfl, rfl, x0, x1, hv, hbw⟩ := hrel
    have HV := Lib.hid hv
    clear hv HE h2
    by_cases hlt : k < bs.length
    · have hb := List.getElem?_eq_getElem hlt
      generalize bs[k] = b at hb
      have hsb := hF b (List.mem_of_getElem? hb)
      obtain ⟨g, o, rfl, -, hn, hx⟩ := (h.below (hbw.mono hB)).at_ hb
      obtain ⟨n, y⟩ := b
      dsimp only at hn hx hsb
      have HK : Hid ((nmLens bs)[k]? = some n.length) := Lib.hid (by simp [nmLens, hb])
      have HC := Lib.hid (szBox_any n y x hsb x0 x1 wr)
      clear hb h
      by_cases hq : x < n.length
      · rw [if_pos hq] at HC
        have HE := Lib.hid (szGo_no HV.out HK.out hq)
        go_wp2_with fail
        refine HC.out.mono ?_
        rintro e w2 ⟨rfl, hb2⟩
        go_wp2_with fail
        go_ret
        exact ⟨ret_int HE.out.symm, below_then hbw hb2 (Nat.le_refl _)⟩
      · rw [if_neg hq] at HC
        have HE := Lib.hid (szGo_yes HV.out HK.out hq)
        have q1 : ¬ x - (n.length : Int) < 0 := by omega
        go_wp2_with fail
        refine HC.out.mono ?_
        rintro e w2 ⟨rfl, hb2⟩
        go_wp2_with fail
        go_roundw
        case rel => exact ⟨k + 1, _, by omega, by go_num, rfl, by omega, by omega, HE.out, below_then hbw hb2 (Nat.le_refl _)⟩
        case measure => simp [intOf]; omega
    · obtain rfl : k = bs.length := by omega
      have HE : Hid (szL left (nmLens bs) = x) := Lib.hid (by rw [← HV.out, List.drop_of_length_le (by rw [HL.out]; exact Nat.le_refl _)]; rfl)
      go_wp2_with fail
      go_ret
      exact ⟨ret_int HE.out.symm, hbw⟩

theorem Tryz.infoBox : (Tryz.prog.info? 92).map (fun i => (i.zero, i.size, i.bytes)) = some (some (.agg #[.string ⟨#[]⟩, .int .i64 0]), 2, 24) := by kernel_rfl

set_option maxHeartbeats 400000 in
theorem toBox_any (n : List UInt8) (x : Int) (w : World) : Calls Tryz.prog 125 #[.agg #[str n, .int .i64 x]] w fun e w' => e = .returned (.agg #[str n, .int .i64 x]) ∧ Below w.heap.size w w' := by
  go_enter Tryz.func125, Tryz.ntmps125
  go_wp2_with fail
  refine bodyPost_ret (v := .agg #[str n, .int .i64 x]) (by simp [results, Tryz.results125, go_sem]) rfl ⟨rfl, ?_⟩
  exact (((Below.refl _ _).alloc (Nat.le_refl _) _).alloc (by simp) _).alloc (by simp; omega) _

set_option maxHeartbeats 1000000 in
theorem toBoxes_any (B : Nat) (v : Value) (bs : List Bx) (hn : bs.length ≤ 1048576) (w : World) (hs : SeeBx w B v bs) (hB : B ≤ w.heap.size) : Calls Tryz.prog 76 #[v] w fun e w' =>
    ∃ v', e = .returned v' ∧ OwnBx w' w.heap.size 92 v' bs ∧ Below w.heap.size w w' := by
  obtain ⟨A, c, rfl⟩ := hs.shape
  have hmk := fun W => make_rows (P := Tryz.prog) 25 92 (.agg #[.string ⟨#[]⟩, .int .i64 0]) 2 24 Tryz.underlying25 Tryz.infoBox .i64 .i64 bs.length (by omega) (by omega) W
  go_enter Tryz.func76, Tryz.ntmps76
  go_wp2_with fail
  clear hmk
  generalize hcur : madeCells _ (bs.length * 2) = cur0
  have HS : Hid (cur0.size = bs.length * 2) := Lib.hid (by rw [← hcur, size_madeCells])
  clear hcur
  have H0 : Hid ((w.alloc (.cells cur0 92)).heap[w.heap.size]? = some (.cells cur0 92 (0, 0))) := Lib.hid (heap_alloc_new _ _)
  have B0 : Below w.heap.size w (w.alloc (.cells cur0 92)) := (Below.refl _ _).alloc (Nat.le_refl _) _
  generalize w.alloc _ = W0 at H0 B0 ⊢
  generalize hz : w.heap.size = z at H0 ⊢
  have HZ := Lib.hid hz
  clear hz
  go_loopw [4] (fun i wr => ∃ (k : Nat) (cur : Array Value), k ≤ bs.length ∧ i = .int .i64 k ∧ wr.heap[z]? = some (.cells cur 92 (0, 0)) ∧ cur.size = bs.length * 2 ∧
      cur.toList.take (k * 2) = ((bs.map boxV).take k).flatten ∧ Below w.heap.size w wr) (fun i _ => bs.length - (intOf i).toNat)
  case atStart => exact ⟨0, _, Nat.zero_le _, rfl, H0.out, HS.out, by simp, B0⟩
  case round =>
    obtain ⟨k, cur, hk, rfl, hh, hsz, htk, hb⟩ := hrel
    have HH := Lib.hid hh
    have HZ2 := Lib.hid hsz
    have HT := Lib.hid htk
    clear hh hsz htk
    by_cases hlt : k < bs.length
    · have hx := List.getElem?_eq_getElem hlt
      generalize bs[k] = b at hx
      obtain ⟨g, o, rfl, hgB, hcn, hcx⟩ := (hs.below (hb.mono hB)).at_ hx
      obtain ⟨n, x⟩ := b
      dsimp only at hcn hcx
      have HX : Hid ((bs.map boxV)[k]? = some [str n, .int .i64 x]) := Lib.hid (by rw [List.getElem?_map, hx]; rfl)
      clear hx
      go_wp2_with fail
      refine (toBox_any n x _).mono ?_
      rintro e w2 ⟨rfl, hb2⟩
      have hk' : k * 2 + 1 < cur.size := by have := HZ2.out; omega
      have HH2 : Hid (w2.heap[z]? = some (.cells cur 92 (0, 0))) := Lib.hid ((hb2.block z (Array.getElem?_eq_some_iff.1 HH.out).1).trans HH.out)
      have hc0 : w2.cell? ⟨z, k * 2, none⟩ = some cur[k * 2] := by rw [cell_of_row w2 _ (k * 2) cur _ (0, 0) HH2.out]; exact Array.getElem?_eq_getElem (by omega)
      have hc1 : w2.cell? ⟨z, k * 2 + 1, none⟩ = some cur[k * 2 + 1] := by rw [cell_of_row w2 _ (k * 2 + 1) cur _ (0, 0) HH2.out]; exact Array.getElem?_eq_getElem hk'
      have hf0 : w2.frozen? ⟨z, k * 2, none⟩ = false := frozen_row HH2.out
      have hf1 : w2.frozen? ⟨z, k * 2 + 1, none⟩ = false := frozen_row HH2.out
      generalize cur[k * 2]'(_) = q0 at hc0
      generalize cur[k * 2 + 1]'(_) = q1 at hc1
      have hb3 := below_then hb hb2 (Nat.le_refl _)
      clear hs hcn hcx hb2 hb
      go_wp2_with fail
      go_roundw
      case rel => exact ⟨k + 1, _, by omega, by go_num, heap_set (heap_set HH2.out _) _, by simp only [Array.size_setIfInBounds]; exact HZ2.out, by rw [take_more_flat HX.out]; exact take_two HT.out hk', (hb3.setCell (by have := HZ.out; simp; omega) _).setCell (by have := HZ.out; simp; omega) _⟩
      case measure => simp [intOf]; omega
    · obtain rfl : bs.length = k := by omega
      go_wp2_with fail
      go_ret
      refine ⟨_, rfl, ⟨⟨by rw [flat_len (boxes_two bs)], .inr ⟨z, bs.length, cur, by simp, by have := HZ.out; omega, HH.out, by simp, by unfold maxLen; omega, HZ2.out, ?_⟩⟩, boxes_two bs⟩, hb⟩
      have := HT.out
      rw [List.take_of_length_le (i := bs.length) (by simp)] at this
      rw [List.length_map]
      exact this

def eqBx (a b : List Bx) : Bool := decide (a = b)
theorem eqBx_same (a : List Bx) : eqBx a a = true := by simp [eqBx]
theorem takes_more {α : Type} {xs ys : List α} {k : Nat} {x : α} (h : xs.take k = ys.take k) (hx : xs[k]? = some x) (hy : ys[k]? = some x) : xs.take (k + 1) = ys.take (k + 1) := by
  rw [List.take_add_one, List.take_add_one, h, hx, hy]

set_option maxHeartbeats 400000 in
theorem eqBox_any (n n' : List UInt8) (x x' : Int) (w : World) : Calls Tryz.prog 126 #[.agg #[str n, .int .i64 x], .agg #[str n', .int .i64 x']] w fun e w' => e = .returned (.bool (decide ((n, x) = (n', x')))) ∧ Below w.heap.size w w' := by
  have hbl : ∀ o o' : Obj, Below w.heap.size w ((w.alloc o).alloc o') := fun o o' => ((Below.refl _ _).alloc (Nat.le_refl _) _).alloc (by simp) _
  by_cases hn : n = n'
  · subst hn
    by_cases hx : x = x'
    · subst hx
      go_enter Tryz.func126, Tryz.ntmps126
      go_wp2_with fail
      go_ret
      exact ⟨ret_bool (by simp), hbl _ _⟩
    · have h1 : (x != x') = true := by simpa using hx
      have HE : Hid (decide ((n, x) = (n, x')) = false) := Lib.hid (by simp [hx])
      go_enter Tryz.func126, Tryz.ntmps126
      go_wp2_with fail
      go_ret
      exact ⟨ret_bool HE.out.symm, hbl _ _⟩
  · have h1 : (!(n == n')) = true := by simpa using hn
    have HE : Hid (decide ((n, x) = (n', x')) = false) := Lib.hid (by simp [hn])
    clear hn
    go_enter Tryz.func126, Tryz.ntmps126
    go_wp2_with fail
    go_ret
    exact ⟨ret_bool HE.out.symm, hbl _ _⟩

set_option maxHeartbeats 1000000 in
theorem eqBoxes_any (B : Nat) (va vb : Value) (xs ys : List Bx) (w : World) (hB : B ≤ w.heap.size) (ha : SeeBx w B va xs) (hb : SeeBx w B vb ys) :
    Calls Tryz.prog 79 #[va, vb] w (BoolLt w (eqBx xs ys)) := by
  obtain ⟨A, ca, rfl⟩ := ha.shape
  obtain ⟨A', cb, rfl⟩ := hb.shape
  have hm := ha.len
  have hm' := hb.len
  unfold maxLen at hm hm'
  by_cases hl : xs.length = ys.length
  · have hb1 : ((xs.length : Int) != (ys.length : Int)) = false := by simp [hl]
    have Hl := Lib.hid hl
    clear hl
    go_enter Tryz.func79, Tryz.ntmps79
    go_wp2_with fail
    clear hb1
    go_loopw [5] (fun i wr => ∃ k : Nat, k ≤ xs.length ∧ i = .int .i64 k ∧ xs.take k = ys.take k ∧ Below w.heap.size w wr) (fun i _ => xs.length - (intOf i).toNat)
    case atStart => exact ⟨0, Nat.zero_le _, rfl, rfl, Below.refl _ _⟩
    case round =>
      obtain ⟨k, hk, rfl, ht, hbw⟩ := hrel
      have HT := Lib.hid ht
      clear ht
      by_cases hlt : k < xs.length
      · have hlt' : k < ys.length := by have := Hl.out; omega
        have hx := List.getElem?_eq_getElem hlt
        generalize xs[k] = b at hx
        have hy := List.getElem?_eq_getElem hlt'
        generalize ys[k] = d at hy
        obtain ⟨g, o, rfl, -, c0, c1⟩ := (ha.below (hbw.mono hB)).at_ hx
        obtain ⟨g', o', rfl, -, d0, d1⟩ := (hb.below (hbw.mono hB)).at_ hy
        obtain ⟨n, x⟩ := b
        obtain ⟨n', x'⟩ := d
        dsimp only at c0 c1 d0 d1
        have c0' := later_cell c0
        have c1' := later_cell c1
        have d0' := later_cell d0
        have d1' := later_cell d1
        have T1 : Hid (∀ i : Later wr, Calls Tryz.prog 126 #[.agg #[str n, .int .i64 x], .agg #[str n', .int .i64 x']] i.now fun e w' => e = .returned (.bool (decide ((n, x) = (n', x')))) ∧ Below i.now.heap.size i.now w') := Lib.hid fun i => eqBox_any n n' x x' _
        clear ha hb c0 c1 d0 d1
        by_cases hq : (n, x) = (n', x')
        · have HR : Hid (xs.take (k + 1) = ys.take (k + 1)) := Lib.hid (takes_more HT.out hx (by rw [hq]; exact hy))
          rw [decide_eq_true hq] at T1
          clear hx hy hq
          go_wp2_with fail
          refine region_later (by kernel_rfl) (by kernel_rfl) ?_
          repeat (go_big_quiet_step ((go_at_call 126; exact later_call (T1.out _))))
          refine wpQuiet_nil ?_
          rintro w2 ⟨⟨_, hbk⟩, rfl⟩
          go_wp2_with fail
          go_roundw
          case rel => exact ⟨k + 1, by omega, by go_num, HR.out, below_then hbw hbk (Nat.le_refl _)⟩
          case measure => simp [intOf]; omega
        · have HE : Hid (eqBx xs ys = false) := Lib.hid (by
            unfold eqBx
            rw [decide_eq_false_iff_not]
            intro h
            rw [h, hy] at hx
            injection hx with h2
            exact hq h2.symm)
          rw [decide_eq_false hq] at T1
          clear hx hy hq
          go_wp2_with fail
          refine region_later (by kernel_rfl) (by kernel_rfl) ?_
          repeat (go_big_quiet_step ((go_at_call 126; exact later_call (T1.out _))))
          refine wpQuiet_nil ?_
          rintro w2 ⟨⟨_, hbk⟩, rfl⟩
          go_wp2_with fail
          go_ret
          exact ⟨ret_bool HE.out.symm, below_then hbw hbk (Nat.le_refl _)⟩
      · have HE : Hid (eqBx xs ys = true) := Lib.hid (by
          have h := HT.out
          rw [List.take_of_length_le (by omega), List.take_of_length_le (by have := Hl.out; omega)] at h
          simp [eqBx, h])
        go_wp2_with fail
        go_ret
        exact ⟨ret_bool HE.out.symm, hbw⟩
  · have hb1 : ((xs.length : Int) != (ys.length : Int)) = true := by simp; omega
    have HE : Hid (eqBx xs ys = false) := Lib.hid (by
      unfold eqBx
      rw [decide_eq_false_iff_not]
      rintro rfl
      exact hl rfl)
    clear hl
    go_enter Tryz.func79, Tryz.ntmps79
    go_wp2_with fail
    go_ret
    exact ⟨ret_bool HE.out.symm, Below.refl _ _⟩

theorem sz_boxes {bs : List Bx} {left : Int} (h : 0 ≤ szL left (nmLens bs)) (h0 : 0 ≤ left) (h1 : left ≤ 1048576) : bs.length ≤ 1048576 ∧ shortB bs := by
  rcases szL_fits (ls := nmLens bs) h0 with e | ⟨_, _, e2, e3⟩
  · omega
  · refine ⟨by have : (nmLens bs).length = bs.length := by simp [nmLens]
               omega, fun b hb => ?_⟩
    have := e3 b.1.length (by unfold nmLens; exact List.mem_map_of_mem hb)
    omega

end Go.Proofs.YtigcbegeaikfcaaGreatDoor
