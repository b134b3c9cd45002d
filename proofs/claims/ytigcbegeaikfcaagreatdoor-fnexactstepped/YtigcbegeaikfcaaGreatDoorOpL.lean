/- The laws' helpers on []Op: eqOpS, markOpS, heldOpS. No conditions but those typed. The laws' helpers on Op and []Op: szOp, toOp, szOpS, toOpS; an Op opened; the walk of FnExactOpOk. Condition: the listed variable impl.opForms holds what the program's text lays (Forms). -/
import Derived.Test.YtigcbegeaikfcaaGreatDoorOpR
import Derived.Test.YtigcbegeaikfcaaGreatDoorLowT
import Derived.Test.YtigcbegeaikfcaaGreatDoorLowA
import Derived.Test.YtigcbegeaikfcaaGreatDoorCodO
import Derived.Test.YtigcbegeaikfcaaGreatDoorOpenA
namespace Go.Proofs.YtigcbegeaikfcaaGreatDoor
open Go.RowKit
set_option linter.unusedVariables false

def eqOpl (a b : List Opv) : Bool := decide (a = b)
theorem eqOpl_same (a : List Opv) : eqOpl a a = true := by simp [eqOpl]
theorem takeO_more {xs ys : List Opv} {k : Nat} {x : Opv} (h : xs.take k = ys.take k) (hx : xs[k]? = some x) (hy : ys[k]? = some x) : xs.take (k + 1) = ys.take (k + 1) := by
  rw [List.take_add_one, List.take_add_one, h, hx, hy]

set_option maxHeartbeats 1000000 in
theorem eqOp_any (n n' : Txt) (x x' y y' : Int) (w : World) : Calls Tryz.prog 80 #[.agg #[.int .i64 x, .int .i64 y, str n], .agg #[.int .i64 x', .int .i64 y', str n']] w fun e w' => e = .returned (.bool (decide ((x, y, n) = (x', y', n')))) ∧ Below w.heap.size w w' := by
  have hbl : ∀ o o' : Obj, Below w.heap.size w ((w.alloc o).alloc o') := fun o o' => ((Below.refl _ _).alloc (Nat.le_refl _) _).alloc (by simp) _
  by_cases hx : x = x'
  · subst hx
    by_cases hy : y = y'
    · subst hy
      by_cases hn : n = n'
      · subst hn
        have h1 : (!(n == n)) = false := by simp
        go_enter Tryz.func80, Tryz.ntmps80
        go_wp2_with fail
        go_ret
        exact ⟨ret_bool (by simp), hbl _ _⟩
      · have h1 : (!(n == n')) = true := by simpa using hn
        have HE : Hid (decide ((x, y, n) = (x, y, n')) = false) := Lib.hid (by simp [hn])
        clear hn
        go_enter Tryz.func80, Tryz.ntmps80
        go_wp2_with fail
        go_ret
        exact ⟨ret_bool HE.out.symm, hbl _ _⟩
    · have h1 : (y != y') = true := by simpa using hy
      have HE : Hid (decide ((x, y, n) = (x, y', n')) = false) := Lib.hid (by simp [hy])
      clear hy
      go_enter Tryz.func80, Tryz.ntmps80
      go_wp2_with fail
      go_ret
      exact ⟨ret_bool HE.out.symm, hbl _ _⟩
  · have h1 : (x != x') = true := by simpa using hx
    have HE : Hid (decide ((x, y, n) = (x', y', n')) = false) := Lib.hid (by simp [hx])
    clear hx
    go_enter Tryz.func80, Tryz.ntmps80
    go_wp2_with fail
    go_ret
    exact ⟨ret_bool HE.out.symm, hbl _ _⟩

set_option maxHeartbeats 2000000 in
theorem eqOps_any (B : Nat) (va vb : Value) (xs ys : List Opv) (w : World) (hB : B ≤ w.heap.size) (ha : SeeOp w B va xs) (hb : SeeOp w B vb ys) :
    Calls Tryz.prog 34 #[va, vb] w (BoolLt w (eqOpl xs ys)) := by
  obtain ⟨A, ca, rfl⟩ := ha.shape
  obtain ⟨A', cb, rfl⟩ := hb.shape
  have hm := ha.len
  have hm' := hb.len
  unfold maxLen at hm hm'
  by_cases hl : xs.length = ys.length
  · have hb1 : ((xs.length : Int) != (ys.length : Int)) = false := by simp [hl]
    have Hl := Lib.hid hl
    clear hl
    go_enter Tryz.func34, Tryz.ntmps34
    go_wp2_with fail
    clear hb1
    go_loopw [5] (fun i wr => ∃ k : Nat, k ≤ xs.length ∧ i = .int .i64 k ∧ xs.take k = ys.take k ∧ Below w.heap.size w wr) (fun i _ => xs.length - (intOf i).toNat)
    case atStart => exact ⟨0, Nat.zero_le _, rfl, rfl, Below.refl _ _⟩
    case round =>
      obtain ⟨k, hk, rfl, ht, hbw⟩ := hrel
      have HT := Lib.hid ht
      clear ht
      by_cases hlt : k < xs.length
      · have hlt' : k < ys.length := by have := Hl.out; omega
        have hx := List.getElem?_eq_getElem hlt
        generalize xs[k] = b at hx
        have hy := List.getElem?_eq_getElem hlt'
        generalize ys[k] = d at hy
        obtain ⟨g, o, rfl, -, c0, c1, c2⟩ := (ha.below (hbw.mono hB)).at_ hx
        obtain ⟨g', o', rfl, -, d0, d1, d2⟩ := (hb.below (hbw.mono hB)).at_ hy
        obtain ⟨n, x, z⟩ := b
        obtain ⟨n', x', z'⟩ := d
        dsimp only at c0 c1 c2 d0 d1 d2
        have c0' := later_cell c0
        have c1' := later_cell c1
        have c2' := later_cell c2
        have d0' := later_cell d0
        have d1' := later_cell d1
        have d2' := later_cell d2
        have T1 : Hid (∀ i : Later wr, Calls Tryz.prog 80 #[.agg #[.int .i64 n, .int .i64 x, str z], .agg #[.int .i64 n', .int .i64 x', str z']] i.now fun e w' => e = .returned (.bool (decide ((n, x, z) = (n', x', z')))) ∧ Below i.now.heap.size i.now w') := Lib.hid fun i => eqOp_any z z' n n' x x' _
        clear ha hb c0 c1 c2 d0 d1 d2
        by_cases hq : (n, x, z) = (n', x', z')
        · have HR : Hid (xs.take (k + 1) = ys.take (k + 1)) := Lib.hid (takeO_more HT.out hx (by rw [hq]; exact hy))
          rw [decide_eq_true hq] at T1
          clear hx hy hq
          go_wp2_with fail
          refine region_later (by kernel_rfl) (by kernel_rfl) ?_
          repeat (go_big_quiet_step ((go_at_call 80; exact later_call (T1.out _))))
          refine wpQuiet_nil ?_
          rintro w2 ⟨⟨_, hbk⟩, rfl⟩
          go_wp2_with fail
          go_roundw
          case rel => exact ⟨k + 1, by omega, by go_num, HR.out, below_then hbw hbk (Nat.le_refl _)⟩
          case measure => simp [intOf]; omega
        · have HE : Hid (eqOpl xs ys = false) := Lib.hid (by
            unfold eqOpl
            rw [decide_eq_false_iff_not]
            intro h
            rw [h, hy] at hx
            injection hx with h2
            exact hq h2.symm)
          rw [decide_eq_false hq] at T1
          clear hx hy hq
          go_wp2_with fail
          refine region_later (by kernel_rfl) (by kernel_rfl) ?_
          repeat (go_big_quiet_step ((go_at_call 80; exact later_call (T1.out _))))
          refine wpQuiet_nil ?_
          rintro w2 ⟨⟨_, hbk⟩, rfl⟩
          go_wp2_with fail
          go_ret
          exact ⟨ret_bool HE.out.symm, below_then hbw hbk (Nat.le_refl _)⟩
      · have HE : Hid (eqOpl xs ys = true) := Lib.hid (by
          have h := HT.out
          rw [List.take_of_length_le (by omega), List.take_of_length_le (by have := Hl.out; omega)] at h
          simp [eqOpl, h])
        go_wp2_with fail
        go_ret
        exact ⟨ret_bool HE.out.symm, hbw⟩
  · have hb1 : ((xs.length : Int) != (ys.length : Int)) = true := by simp; omega
    have HE : Hid (eqOpl xs ys = false) := Lib.hid (by
      unfold eqOpl
      rw [decide_eq_false_iff_not]
      rintro rfl
      exact hl rfl)
    clear hl
    go_enter Tryz.func34, Tryz.ntmps34
    go_wp2_with fail
    go_ret
    exact ⟨ret_bool HE.out.symm, Below.refl _ _⟩

/-- Marked ops. -/
def mkO (s j : Nat) : Opv := (((s + j * 3 : Nat) : Int), ((s + j * 3 + 1 : Nat) : Int), mkT (s + j * 3 + 2))
def mkOs (s n : Nat) : List Opv := (List.range n).map fun j => mkO s j
theorem mkOs_length (s n : Nat) : (mkOs s n).length = n := by simp [mkOs]
theorem mkOs_at {s n k : Nat} (h : k < n) : (mkOs s n)[k]? = some (mkO s k) := by simp [mkOs, h]
theorem mkOs_succ (s k : Nat) : mkOs s (k + 1) = mkOs s k ++ [mkO s k] := by simp [mkOs, List.range_succ]
theorem take_three {cur : Array Value} {k : Nat} {u v x : Value} {l : List Value} (h : cur.toList.take (k * 3) = l) (hk : k * 3 + 2 < cur.size) :
    (((cur.setIfInBounds (k * 3) u).setIfInBounds (k * 3 + 1) v).setIfInBounds (k * 3 + 2) x).toList.take ((k + 1) * 3) = l ++ [u, v, x] := by
  have h1 := take_set (u := u) h (show k * 3 < cur.size by omega)
  have h2 := take_set (u := v) h1 (by rw [Array.size_setIfInBounds]; omega)
  have h3 := take_set (u := x) h2 (by rw [Array.size_setIfInBounds, Array.size_setIfInBounds]; omega)
  rw [show (k + 1) * 3 = k * 3 + 1 + 1 + 1 by omega, h3]
  simp

set_option maxHeartbeats 4000000 in
theorem markOps_any (B : Nat) (v : Value) (xs : List Opv) (s : Nat) (w : World) (h : OwnOp w B 41 v xs) (h1 : 1 ≤ s) (hs : s + xs.length * 3 ≤ 4194304) :
    Calls Tryz.prog 37 #[v, .int .i64 s] w fun r w' => r = .returned (.int .i64 ((s + xs.length * 3 : Nat) : Int)) ∧ OwnOp w' B 41 v (mkOs s xs.length) ∧ w.grownBy w' v.ownBlock := by
  obtain ⟨hl, h⟩ := h.row
  rcases h with ⟨rfl, hn⟩ | ⟨g, cap, cur, rfl, hB, hg, hnc, hcm, hcs, ht⟩
  · obtain rfl : xs = [] := List.eq_nil_of_length_eq_zero hn
    go_enter Tryz.func37, Tryz.ntmps37
    go_wp2
    go_loop [1, 5] (fun i j => i = .int .i64 s ∧ j = .int .i64 0) (fun _ _ => 0)
    case atStart => exact ⟨rfl, rfl⟩
    case round =>
      obtain ⟨rfl, rfl⟩ := hrel
      go_wp2
      go_ret
      exact ⟨rfl, OwnN.nil _ _ _ _, World.grownBy.refl _ _⟩
  · generalize hzn : xs.length = n at *
    have Hc := Lib.hid hcs
    have hcn : n * 3 ≤ cur.size := by omega
    unfold maxLen at hcm
    clear hl ht hcs hzn
    have Hg := Lib.hid hg
    clear hg
    go_enter Tryz.func37, Tryz.ntmps37
    go_wp2_with fail
    go_loopw [1, 5] (fun m i wr => ∃ (k : Nat) (cur' : Array Value), k ≤ n ∧ i = .int .i64 k ∧ m = .int .i64 ((s + k * 3 : Nat) : Int) ∧ wr.heap[g]? = some (.cells cur' 41 (0, 0)) ∧ cur'.size = cur.size ∧
      cur'.toList.take (k * 3) = ((mkOs s k).map opV).flatten ∧ w.grownBy wr (some g)) (fun _ i _ => n - (intOf i).toNat)
    case atStart => exact ⟨0, cur, Nat.zero_le _, rfl, rfl, Hg.out, rfl, by simp [mkOs], World.grownBy.refl _ _⟩
    case round =>
      obtain ⟨k, cur', hk, rfl, rfl, hh, hsz, htk, hgr⟩ := hrel
      have HH := Lib.hid hh
      have HZ := Lib.hid hsz
      have HT := Lib.hid htk
      clear hh hsz htk
      by_cases hlt : k < n
      · have hk' : k * 3 + 2 < cur'.size := by have := HZ.out; omega
        have HH2 : Hid ((((wr.setCell ⟨g, k * 3, none⟩ (.int .i64 ((s + k * 3 : Nat) : Int))).setCell ⟨g, k * 3 + 1, none⟩ (.int .i64 ((s + k * 3 + 1 : Nat) : Int)))).heap[g]? = some (.cells ((cur'.setIfInBounds (k * 3) (.int .i64 ((s + k * 3 : Nat) : Int))).setIfInBounds (k * 3 + 1) (.int .i64 ((s + k * 3 + 1 : Nat) : Int))) 41 (0, 0))) := Lib.hid (heap_set (heap_set HH.out _) _)
        have hg2 := Lib.hid (grown_set (k := k * 3 + 1) (grown_set (k := k * 3) hgr (.int .i64 ((s + k * 3 : Nat) : Int))) (.int .i64 ((s + k * 3 + 1 : Nat) : Int)))
        have hc0 : wr.cell? ⟨g, k * 3, none⟩ = some (cur'[k * 3]'(by omega)) := by rw [cell_of_row wr g (k * 3) cur' _ (0, 0) HH.out]; exact Array.getElem?_eq_getElem (by omega)
        have hc1 : wr.cell? ⟨g, k * 3 + 1, none⟩ = some (cur'[k * 3 + 1]'(by omega)) := by rw [cell_of_row wr g (k * 3 + 1) cur' _ (0, 0) HH.out]; exact Array.getElem?_eq_getElem (by omega)
        have hf0 : wr.frozen? ⟨g, k * 3, none⟩ = false := frozen_row HH.out
        have hf1 : wr.frozen? ⟨g, k * 3 + 1, none⟩ = false := frozen_row HH.out
        go_wp2_with fail
        first | rw [show ((s : Int) + (k : Int) * 3 + 1 + 1) = ((s + k * 3 + 2 : Nat) : Int) by omega] | skip
        refine (markText_any (s + k * 3 + 2) (by omega) (by omega) _).mono ?_
        rintro e w2 ⟨rfl, b2⟩
        generalize htx : mkT (s + k * 3 + 2) = tx
        have HTX := Lib.hid htx
        clear htx
        have HH3 : Hid (w2.heap[g]? = some (.cells ((cur'.setIfInBounds (k * 3) (.int .i64 ((s + k * 3 : Nat) : Int))).setIfInBounds (k * 3 + 1) (.int .i64 ((s + k * 3 + 1 : Nat) : Int))) 41 (0, 0))) := Lib.hid ((b2.block g (Array.getElem?_eq_some_iff.1 HH2.out).1).trans HH2.out)
        have hcell : ∃ u, w2.cell? ⟨g, k * 3 + 2, none⟩ = some u := by rw [cell_of_row w2 g (k * 3 + 2) _ _ (0, 0) HH3.out]; exact ⟨_, Array.getElem?_eq_getElem (by simp; omega)⟩
        obtain ⟨u, hcell⟩ := hcell
        have hfz : w2.frozen? ⟨g, k * 3 + 2, none⟩ = false := frozen_row HH3.out
        have hg3 : w.grownBy w2 (some g) := ⟨b2.os.trans hg2.out.os, b2.tape.trans hg2.out.tape, b2.output.trans hg2.out.output, Nat.le_trans hg2.out.size b2.size, fun j hj hne => (b2.block j (Nat.lt_of_lt_of_le hj hg2.out.size)).trans (hg2.out.block j hj hne)⟩
        have HG3 := Lib.hid hg3
        clear hc0 hc1 hf0 hf1 hg3
        go_wp2
        go_roundw
        case rel => exact ⟨k + 1, _, by omega, by go_num, by go_num, heap_set HH3.out _, by simp only [Array.size_setIfInBounds]; exact HZ.out, by rw [mkOs_succ, List.map_append, List.flatten_append, ← HT.out]; rw [show ((List.map opV [mkO s k]).flatten) = [.int .i64 ((s + k * 3 : Nat) : Int), .int .i64 ((s + k * 3 + 1 : Nat) : Int), str tx] by simp [mkO, HTX.out]]; exact take_three rfl hk', grown_set HG3.out _⟩
        case measure => simp [intOf]; omega
      · obtain rfl : n = k := by omega
        go_wp2
        go_ret
        refine ⟨by go_num, ⟨⟨by rw [flat_len (ops_three _), List.length_map, mkOs_length], .inr ⟨g, cap, cur', by rw [List.length_map, mkOs_length], hB, HH.out, by rw [List.length_map, mkOs_length]; exact hnc, by unfold maxLen; exact hcm, by rw [HZ.out]; exact Hc.out, ?_⟩⟩, ops_three _⟩, hgr⟩
        rw [List.length_map, mkOs_length]
        exact HT.out

end Go.Proofs.YtigcbegeaikfcaaGreatDoor

namespace Go.Proofs.YtigcbegeaikfcaaGreatDoor
open Go.RowKit
set_option linter.unusedVariables false

set_option maxHeartbeats 1000000 in
theorem szOp_any (o : Opv) (left : Int) (hn : o.2.2.length ≤ 9223372036854775807) (h0 : 0 ≤ left) (h1 : left ≤ 1048576) (w : World) : Calls Tryz.prog 74 #[.agg #[.int .i64 o.1, .int .i64 o.2.1, str o.2.2], .int .i64 left] w fun e w' => e = .returned (.int .i64 (if left < o.2.2.length then -1 else left - o.2.2.length)) ∧ Below w.heap.size w w' := by
  obtain ⟨a, n, s⟩ := o
  dsimp only at hn ⊢
  by_cases h : left < s.length
  · have h2 : left - (s.length : Int) < 0 := by omega
    rw [if_pos h]
    go_enter Tryz.func74, Tryz.ntmps74
    go_wp2_with fail
    go_ret
    exact ⟨rfl, (Below.refl _ _).alloc (Nat.le_refl _) _⟩
  · have h2 : ¬ left - (s.length : Int) < 0 := by omega
    rw [if_neg h]
    go_enter Tryz.func74, Tryz.ntmps74
    go_wp2_with fail
    go_ret
    exact ⟨rfl, (Below.refl _ _).alloc (Nat.le_refl _) _⟩

set_option maxHeartbeats 1000000 in
theorem toOp_any (o : Opv) (w : World) : Calls Tryz.prog 77 #[.agg #[.int .i64 o.1, .int .i64 o.2.1, str o.2.2]] w fun e w' => e = .returned (.agg #[.int .i64 o.1, .int .i64 o.2.1, str o.2.2]) ∧ Below w.heap.size w w' := by
  obtain ⟨a, n, s⟩ := o
  dsimp only
  go_enter Tryz.func77, Tryz.ntmps77
  go_wp2_with fail
  refine bodyPost_ret (v := .agg #[.int .i64 a, .int .i64 n, str s]) (by simp [results, Tryz.results77, go_sem]) rfl ⟨rfl, ?_⟩
  exact (((Below.refl _ _).alloc (Nat.le_refl _) _).alloc (by simp) _).alloc (by simp; omega) _

def nmLens8 (cs : List Opv) : List Nat := cs.map fun o => o.2.2.length
def fitO (cs : List Opv) : Prop := ∀ o ∈ cs, o.2.2.length ≤ 9223372036854775807

set_option maxHeartbeats 1000000 in
theorem szOps_any (B : Nat) (v : Value) (bs : List Opv) (left : Int) (h0 : 0 ≤ left) (h1 : left ≤ 1048576) (w : World) (h : SeeOp w B v bs) (hB : B ≤ w.heap.size) (hF : fitO bs) : Calls Tryz.prog 27 #[v, .int .i64 left] w fun e w' => e = .returned (.int .i64 (szL left (nmLens8 bs))) ∧ Below w.heap.size w w' := by
  have hm := h.len
  unfold maxLen at hm
  obtain ⟨A, c, rfl⟩ := h.shape
  have HL : Hid ((nmLens8 bs).length = bs.length) := Lib.hid (by simp [nmLens8])
  by_cases hl : left < bs.length
  · have HE : Hid (szL left (nmLens8 bs) = -1) := Lib.hid (szL_long (by rw [HL.out]; exact hl))
    have h2 : left - (bs.length : Int) < 0 := by omega
    go_enter Tryz.func27, Tryz.ntmps27
    go_wp2_with fail
    go_ret
    exact ⟨ret_int HE.out.symm, Below.refl _ _⟩
  have HE : Hid (szL left (nmLens8 bs) = szGo (left - bs.length) (nmLens8 bs)) := Lib.hid (by rw [szL_short (by rw [HL.out]; exact hl), HL.out])
  have h2 : ¬ left - (bs.length : Int) < 0 := by omega
  go_enter Tryz.func27, Tryz.ntmps27
  go_wp2_with fail
  go_loopw [1, 5] (fun q i wr => ∃ (k : Nat) (x : Int), k ≤ bs.length ∧ i = .int .i64 k ∧ q = .int .i64 x ∧ 0 ≤ x ∧ x ≤ 1048576 ∧ szGo x ((nmLens8 bs).drop k) = szL left (nmLens8 bs) ∧ Below w.heap.size w wr) (fun _ i _ => bs.length - (intOf i).toNat)
  case atStart => exact ⟨0, _, Nat.zero_le _, rfl, rfl, by omega, by omega, HE.out.symm, Below.refl _ _⟩
  case round =>
    obtain ⟨k, x, hk, rfl, rfl, x0, x1, hv, hbw⟩ := hrel
    have HV := Lib.hid hv
    clear hv HE h2
    by_cases hlt : k < bs.length
    · have hb := List.getElem?_eq_getElem hlt
      generalize bs[k] = b at hb
      have hsb := hF b (List.mem_of_getElem? hb)
      obtain ⟨g, o, rfl, -, hn, hx, hy⟩ := (h.below (hbw.mono hB)).at_ hb
      have HC := Lib.hid (szOp_any b x hsb x0 x1 wr)
      obtain ⟨n, y, s⟩ := b
      dsimp only at hn hx hy hsb HC
      have HK : Hid ((nmLens8 bs)[k]? = some s.length) := Lib.hid (by simp [nmLens8, hb])
      clear hb h
      by_cases hq : x < s.length
      · rw [if_pos hq] at HC
        have HE := Lib.hid (szGo_no HV.out HK.out hq)
        go_wp2_with fail
        refine HC.out.mono ?_
        rintro e w2 ⟨rfl, hb2⟩
        go_wp2_with fail
        go_ret
        exact ⟨ret_int HE.out.symm, below_then hbw hb2 (Nat.le_refl _)⟩
      · rw [if_neg hq] at HC
        have HE := Lib.hid (szGo_yes HV.out HK.out hq)
        have q1 : ¬ x - (s.length : Int) < 0 := by omega
        go_wp2_with fail
        refine HC.out.mono ?_
        rintro e w2 ⟨rfl, hb2⟩
        go_wp2_with fail
        go_roundw
        case rel => exact ⟨k + 1, _, by omega, by go_num, rfl, by omega, by omega, HE.out, below_then hbw hb2 (Nat.le_refl _)⟩
        case measure => simp [intOf]; omega
    · obtain rfl : k = bs.length := by omega
      have HE : Hid (szL left (nmLens8 bs) = x) := Lib.hid (by rw [← HV.out, List.drop_of_length_le (by rw [HL.out]; exact Nat.le_refl _)]; rfl)
      go_wp2_with fail
      go_ret
      exact ⟨ret_int HE.out.symm, hbw⟩

set_option maxHeartbeats 2000000 in
theorem toOps_any (B : Nat) (v : Value) (bs : List Opv) (hn : bs.length ≤ 1048576) (w : World) (hs : SeeOp w B v bs) (hB : B ≤ w.heap.size) : Calls Tryz.prog 30 #[v] w fun e w' =>
    ∃ v', e = .returned v' ∧ OwnOp w' w.heap.size 41 v' bs ∧ Below w.heap.size w w' := by
  obtain ⟨A, c, rfl⟩ := hs.shape
  have hmk := fun W => make_rows (P := Tryz.prog) 28 41 (.agg #[.int .i64 0, .int .i64 0, .string ⟨#[]⟩]) 3 32 Tryz.underlying28 Tryz.infoOp .i64 .i64 bs.length (by omega) (by omega) W
  go_enter Tryz.func30, Tryz.ntmps30
  go_wp2_with fail
  clear hmk
  generalize hcur : madeCells _ (bs.length * 3) = cur0
  have HS : Hid (cur0.size = bs.length * 3) := Lib.hid (by rw [← hcur, size_madeCells])
  clear hcur
  have H0 : Hid ((w.alloc (.cells cur0 41)).heap[w.heap.size]? = some (.cells cur0 41 (0, 0))) := Lib.hid (heap_alloc_new _ _)
  have B0 : Below w.heap.size w (w.alloc (.cells cur0 41)) := (Below.refl _ _).alloc (Nat.le_refl _) _
  generalize w.alloc _ = W0 at H0 B0 ⊢
  generalize hz : w.heap.size = z at H0 ⊢
  have HZ := Lib.hid hz
  clear hz
  go_loopw [4] (fun i wr => ∃ (k : Nat) (cur : Array Value), k ≤ bs.length ∧ i = .int .i64 k ∧ wr.heap[z]? = some (.cells cur 41 (0, 0)) ∧ cur.size = bs.length * 3 ∧
      cur.toList.take (k * 3) = ((bs.map opV).take k).flatten ∧ Below w.heap.size w wr) (fun i _ => bs.length - (intOf i).toNat)
  case atStart => exact ⟨0, _, Nat.zero_le _, rfl, H0.out, HS.out, by simp, B0⟩
  case round =>
    obtain ⟨k, cur, hk, rfl, hh, hsz, htk, hb⟩ := hrel
    have HH := Lib.hid hh
    have HZ2 := Lib.hid hsz
    have HT := Lib.hid htk
    clear hh hsz htk
    by_cases hlt : k < bs.length
    · have hx := List.getElem?_eq_getElem hlt
      generalize bs[k] = b at hx
      obtain ⟨g, o, rfl, hgB, hcn, hcx, hcy⟩ := (hs.below (hb.mono hB)).at_ hx
      have HO := Lib.hid (fun w => toOp_any b w)
      obtain ⟨n, x, s⟩ := b
      dsimp only at hcn hcx hcy HO
      have HX : Hid ((bs.map opV)[k]? = some [.int .i64 n, .int .i64 x, str s]) := Lib.hid (by rw [List.getElem?_map, hx]; rfl)
      clear hx
      go_wp2_with fail
      refine (HO.out _).mono ?_
      rintro e w2 ⟨rfl, hb2⟩
      have hk' : k * 3 + 2 < cur.size := by have := HZ2.out; omega
      have HH2 : Hid (w2.heap[z]? = some (.cells cur 41 (0, 0))) := Lib.hid ((hb2.block z (Array.getElem?_eq_some_iff.1 HH.out).1).trans HH.out)
      have hc0 : w2.cell? ⟨z, k * 3, none⟩ = some cur[k * 3] := by rw [cell_of_row w2 _ (k * 3) cur _ (0, 0) HH2.out]; exact Array.getElem?_eq_getElem (by omega)
      have hc1 : w2.cell? ⟨z, k * 3 + 1, none⟩ = some cur[k * 3 + 1] := by rw [cell_of_row w2 _ (k * 3 + 1) cur _ (0, 0) HH2.out]; exact Array.getElem?_eq_getElem (by omega)
      have hc2 : w2.cell? ⟨z, k * 3 + 2, none⟩ = some cur[k * 3 + 2] := by rw [cell_of_row w2 _ (k * 3 + 2) cur _ (0, 0) HH2.out]; exact Array.getElem?_eq_getElem hk'
      have hf0 : w2.frozen? ⟨z, k * 3, none⟩ = false := frozen_row HH2.out
      have hf1 : w2.frozen? ⟨z, k * 3 + 1, none⟩ = false := frozen_row HH2.out
      have hf2 : w2.frozen? ⟨z, k * 3 + 2, none⟩ = false := frozen_row HH2.out
      generalize cur[k * 3]'(_) = q0 at hc0
      generalize cur[k * 3 + 1]'(_) = q1 at hc1
      generalize cur[k * 3 + 2]'(_) = q2 at hc2
      have hb3 := below_then hb hb2 (Nat.le_refl _)
      clear hs hcn hcx hcy hb2 hb
      go_wp2_with fail
      go_roundw
      case rel => exact ⟨k + 1, _, by omega, by go_num, heap_set (heap_set (heap_set HH2.out _) _) _, by simp only [Array.size_setIfInBounds]; exact HZ2.out, by rw [take_more_flat HX.out]; exact take_three HT.out hk', ((hb3.setCell (by have := HZ.out; simp; omega) _).setCell (by have := HZ.out; simp; omega) _).setCell (by have := HZ.out; simp; omega) _⟩
      case measure => simp [intOf]; omega
    · obtain rfl : bs.length = k := by omega
      go_wp2_with fail
      go_ret
      refine ⟨_, rfl, ⟨⟨by rw [flat_len (ops_three bs)], .inr ⟨z, bs.length, cur, by simp, by have := HZ.out; omega, HH.out, by simp, by unfold maxLen; omega, by rw [HZ2.out], ?_⟩⟩, ops_three bs⟩, hb⟩
      have := HT.out
      rw [List.take_of_length_le (i := bs.length) (by simp)] at this
      rw [List.length_map]
      exact this

end Go.Proofs.YtigcbegeaikfcaaGreatDoor
