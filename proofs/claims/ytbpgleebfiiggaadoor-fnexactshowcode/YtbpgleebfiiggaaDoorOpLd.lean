/- The laws' helpers on []Op: eqOpS, markOpS, heldOpS. No conditions but those typed. -/
import Derived.Test.YtbpgleebfiiggaaDoorOpR
import Derived.Test.YtbpgleebfiiggaaDoorLowT
import Derived.Test.YtbpgleebfiiggaaDoorLowA
namespace Go.Proofs.YtbpgleebfiiggaaDoor
open Go.RowKit
set_option linter.unusedVariables false

def eqOpl (a b : List Opv) : Bool := decide (a = b)
theorem eqOpl_same (a : List Opv) : eqOpl a a = true := by simp [eqOpl]
theorem takeO_more {xs ys : List Opv} {k : Nat} {x : Opv} (h : xs.take k = ys.take k) (hx : xs[k]? = some x) (hy : ys[k]? = some x) : xs.take (k + 1) = ys.take (k + 1) := by
  rw [List.take_add_one, List.take_add_one, h, hx, hy]

set_option maxHeartbeats 1000000 in
theorem eqOp_any (n n' : Txt) (x x' y y' : Int) (w : World) : Calls Tryd.prog 24 #[.agg #[.int .i64 x, .int .i64 y, str n], .agg #[.int .i64 x', .int .i64 y', str n']] w fun e w' => e = .returned (.bool (decide ((x, y, n) = (x', y', n')))) ∧ Below w.heap.size w w' := by
  have hbl : ∀ o o' : Obj, Below w.heap.size w ((w.alloc o).alloc o') := fun o o' => ((Below.refl _ _).alloc (Nat.le_refl _) _).alloc (by simp) _
  by_cases hx : x = x'
  · subst hx
    by_cases hy : y = y'
    · subst hy
      by_cases hn : n = n'
      · subst hn
        have h1 : (!(n == n)) = false := by simp
        go_enter Tryd.func24, Tryd.ntmps24
        go_wp2_with fail
        go_ret
        exact ⟨ret_bool (by simp), hbl _ _⟩
      · have h1 : (!(n == n')) = true := by simpa using hn
        have HE : Hid (decide ((x, y, n) = (x, y, n')) = false) := Lib.hid (by simp [hn])
        clear hn
        go_enter Tryd.func24, Tryd.ntmps24
        go_wp2_with fail
        go_ret
        exact ⟨ret_bool HE.out.symm, hbl _ _⟩
    · have h1 : (y != y') = true := by simpa using hy
      have HE : Hid (decide ((x, y, n) = (x, y', n')) = false) := Lib.hid (by simp [hy])
      clear hy
      go_enter Tryd.func24, Tryd.ntmps24
      go_wp2_with fail
      go_ret
      exact ⟨ret_bool HE.out.symm, hbl _ _⟩
  · have h1 : (x != x') = true := by simpa using hx
    have HE : Hid (decide ((x, y, n) = (x', y', n')) = false) := Lib.hid (by simp [hx])
    clear hx
    go_enter Tryd.func24, Tryd.ntmps24
    go_wp2_with fail
    go_ret
    exact ⟨ret_bool HE.out.symm, hbl _ _⟩

set_option maxHeartbeats 2000000 in
theorem eqOps_any (B : Nat) (va vb : Value) (xs ys : List Opv) (w : World) (hB : B ≤ w.heap.size) (ha : SeeOp w B va xs) (hb : SeeOp w B vb ys) :
    Calls Tryd.prog 13 #[va, vb] w (BoolLt w (eqOpl xs ys)) := by
  obtain ⟨A, ca, rfl⟩ := ha.shape
  obtain ⟨A', cb, rfl⟩ := hb.shape
  have hm := ha.len
  have hm' := hb.len
  unfold maxLen at hm hm'
  by_cases hl : xs.length = ys.length
  · have hb1 : ((xs.length : Int) != (ys.length : Int)) = false := by simp [hl]
    have Hl := Lib.hid hl
    clear hl
    go_enter Tryd.func13, Tryd.ntmps13
    go_wp2_with fail
    clear hb1
    go_loopw [5] (fun i wr => ∃ k : Nat, k ≤ xs.length ∧ i = .int .i64 k ∧ xs.take k = ys.take k ∧ Below w.heap.size w wr) (fun i _ => xs.length - (intOf i).toNat)
    case atStart => exact ⟨0, Nat.zero_le _, rfl, rfl, Below.refl _ _⟩
    case round =>
      obtain ⟨k, hk, rfl, ht, hbw⟩ := hrel
      have HT := Lib.hid ht
      clear ht
      by_cases hlt : k < xs.length
      · have hlt' : k < ys.length := by have := Hl.out; omega
        have hx := List.getElem?_eq_getElem hlt
        generalize xs[k] = b at hx
        have hy := List.getElem?_eq_getElem hlt'
        generalize ys[k] = d at hy
        obtain ⟨g, o, rfl, -, c0, c1, c2⟩ := (ha.below (hbw.mono hB)).at_ hx
        obtain ⟨g', o', rfl, -, d0, d1, d2⟩ := (hb.below (hbw.mono hB)).at_ hy
        obtain ⟨n, x, z⟩ := b
        obtain ⟨n', x', z'⟩ := d
        dsimp only at c0 c1 c2 d0 d1 d2
        have c0' := later_cell c0
        have c1' := later_cell c1
        have c2' := later_cell c2
        have d0' := later_cell d0
        have d1' := later_cell d1
        have d2' := later_cell d2
        have T1 : Hid (∀ i : Later wr, Calls Tryd.prog 24 #[.agg #[.int .i64 n, .int .i64 x, str z], .agg #[.int .i64 n', .int .i64 x', str z']] i.now fun e w' => e = .returned (.bool (decide ((n, x, z) = (n', x', z')))) ∧ Below i.now.heap.size i.now w') := Lib.hid fun i => eqOp_any z z' n n' x x' _
        clear ha hb c0 c1 c2 d0 d1 d2
        by_cases hq : (n, x, z) = (n', x', z')
        · have HR : Hid (xs.take (k + 1) = ys.take (k + 1)) := Lib.hid (takeO_more HT.out hx (by rw [hq]; exact hy))
          rw [decide_eq_true hq] at T1
          clear hx hy hq
          go_wp2_with fail
          refine region_later (by kernel_rfl) (by kernel_rfl) ?_
          repeat (go_big_quiet_step ((go_at_call 24; exact later_call (T1.out _))))
          refine wpQuiet_nil ?_
          rintro w2 ⟨⟨_, hbk⟩, rfl⟩
          go_wp2_with fail
          go_roundw
          case rel => exact ⟨k + 1, by omega, by go_num, HR.out, below_then hbw hbk (Nat.le_refl _)⟩
          case measure => simp [intOf]; omega
        · have HE : Hid (eqOpl xs ys = false) := Lib.hid (by
            unfold eqOpl
            rw [decide_eq_false_iff_not]
            intro h
            rw [h, hy] at hx
            injection hx with h2
            exact hq h2.symm)
          rw [decide_eq_false hq] at T1
          clear hx hy hq
          go_wp2_with fail
          refine region_later (by kernel_rfl) (by kernel_rfl) ?_
          repeat (go_big_quiet_step ((go_at_call 24; exact later_call (T1.out _))))
          refine wpQuiet_nil ?_
          rintro w2 ⟨⟨_, hbk⟩, rfl⟩
          go_wp2_with fail
          go_ret
          exact ⟨ret_bool HE.out.symm, below_then hbw hbk (Nat.le_refl _)⟩
      · have HE : Hid (eqOpl xs ys = true) := Lib.hid (by
          have h := HT.out
          rw [List.take_of_length_le (by omega), List.take_of_length_le (by have := Hl.out; omega)] at h
          simp [eqOpl, h])
        go_wp2_with fail
        go_ret
        exact ⟨ret_bool HE.out.symm, hbw⟩
  · have hb1 : ((xs.length : Int) != (ys.length : Int)) = true := by simp; omega
    have HE : Hid (eqOpl xs ys = false) := Lib.hid (by
      unfold eqOpl
      rw [decide_eq_false_iff_not]
      rintro rfl
      exact hl rfl)
    clear hl
    go_enter Tryd.func13, Tryd.ntmps13
    go_wp2_with fail
    go_ret
    exact ⟨ret_bool HE.out.symm, Below.refl _ _⟩

/-- Marked ops. -/
def mkO (s j : Nat) : Opv := (((s + j * 3 : Nat) : Int), ((s + j * 3 + 1 : Nat) : Int), mkT (s + j * 3 + 2))
def mkOs (s n : Nat) : List Opv := (List.range n).map fun j => mkO s j
theorem mkOs_length (s n : Nat) : (mkOs s n).length = n := by simp [mkOs]
theorem mkOs_at {s n k : Nat} (h : k < n) : (mkOs s n)[k]? = some (mkO s k) := by simp [mkOs, h]
theorem mkOs_succ (s k : Nat) : mkOs s (k + 1) = mkOs s k ++ [mkO s k] := by simp [mkOs, List.range_succ]
theorem take_three {cur : Array Value} {k : Nat} {u v x : Value} {l : List Value} (h : cur.toList.take (k * 3) = l) (hk : k * 3 + 2 < cur.size) :
    (((cur.setIfInBounds (k * 3) u).setIfInBounds (k * 3 + 1) v).setIfInBounds (k * 3 + 2) x).toList.take ((k + 1) * 3) = l ++ [u, v, x] := by
  have h1 := take_set (u := u) h (show k * 3 < cur.size by omega)
  have h2 := take_set (u := v) h1 (by rw [Array.size_setIfInBounds]; omega)
  have h3 := take_set (u := x) h2 (by rw [Array.size_setIfInBounds, Array.size_setIfInBounds]; omega)
  rw [show (k + 1) * 3 = k * 3 + 1 + 1 + 1 by omega, h3]
  simp

end Go.Proofs.YtbpgleebfiiggaaDoor
