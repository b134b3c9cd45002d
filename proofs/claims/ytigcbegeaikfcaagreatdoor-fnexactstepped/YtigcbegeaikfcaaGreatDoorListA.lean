/- Contracts of the laws' own helpers on lists of int64: equal, marked, held. -/
import Derived.Test.YtigcbegeaikfcaaGreatDoorRows
import Derived.Test.YtigcbegeaikfcaaGreatDoorLowA
import Derived.Deep.QuietTactic
import Derived.BigQuiet
namespace Go.Proofs.YtigcbegeaikfcaaGreatDoor
open Go.RowKit
set_option linter.unusedVariables false

set_option maxHeartbeats 1000000 in
theorem eqInts_any (B : Nat) (va vb : Value) (xs ys : List Int) (w : World) (ha : SeeI w B va xs) (hb : SeeI w B vb ys) :
    Calls Tryz.prog 78 #[va, vb] w fun e w' => e = .returned (.bool (eqI xs ys)) ∧ ∃ n, w' = w.drewN n := by
  obtain ⟨A, ca, rfl⟩ := ha.shape
  obtain ⟨A', cb, rfl⟩ := hb.shape
  have hm := ha.1
  have hm' := hb.1
  unfold maxLen at hm hm'
  by_cases hl : xs.length = ys.length
  · have hb1 : ((xs.length : Int) != (ys.length : Int)) = false := by simp [hl]
    have Hl := Lib.hid hl
    clear hl
    go_enter Tryz.func78, Tryz.ntmps78
    go_wp2
    clear hb1
    go_loopw [5] (fun i wr => ∃ k m : Nat, k ≤ xs.length ∧ i = .int .i64 k ∧ xs.take k = ys.take k ∧ wr = w.drewN m) (fun i _ => xs.length - (intOf i).toNat)
    case atStart => exact ⟨0, 0, Nat.zero_le _, rfl, rfl, rfl⟩
    case round =>
      obtain ⟨k, m, hk, rfl, ht, rfl⟩ := hrel
      have HT := Lib.hid ht
      clear ht
      by_cases hlt : k < xs.length
      · have hlt' : k < ys.length := by have := Hl.out; omega
        obtain ⟨g, o, x, rfl, -, hx, hcx⟩ := ha.at_ hlt
        obtain ⟨g', o', y, rfl, -, hy, hcy⟩ := hb.at_ hlt'
        have HX := Lib.hid hx
        have HY := Lib.hid hy
        clear hx hy ha hb
        by_cases hxy : x = y
        · subst hxy
          have hf : (x != x) = false := by simp
          go_wp2_with fail
          go_quiet (fail)
          go_wp2
          go_roundw
          case rel => exact ⟨k + 1, _, by omega, by go_num, take_more HT.out HX.out HY.out, rfl⟩
          case measure => simp [intOf]; omega
        · have hf : (x != y) = true := by simpa using hxy
          have HE : Hid (eqI xs ys = false) := Lib.hid (by
            unfold eqI
            rw [decide_eq_false_iff_not]
            intro h
            have h2 := HX.out
            rw [h, HY.out] at h2
            injection h2 with h2
            exact hxy h2.symm)
          clear hxy
          go_wp2_with fail
          go_quiet (fail)
          go_wp2
          go_ret
          rw [HE.out]
          exact ⟨rfl, _, World.drewN_drewN _ _ _⟩
      · have HE : Hid (eqI xs ys = true) := Lib.hid (by
          have h := HT.out
          rw [List.take_of_length_le (by omega), List.take_of_length_le (by have := Hl.out; omega)] at h
          simp [eqI, h])
        go_wp2_with fail
        go_ret
        rw [HE.out]
        exact ⟨rfl, _, rfl⟩
  · have hb1 : ((xs.length : Int) != (ys.length : Int)) = true := by simp; omega
    have HE : Hid (eqI xs ys = false) := Lib.hid (by
      unfold eqI
      rw [decide_eq_false_iff_not]
      rintro rfl
      exact hl rfl)
    clear hl
    go_enter Tryz.func78, Tryz.ntmps78
    go_wp2
    go_ret
    rw [HE.out]
    exact ⟨rfl, 0, rfl⟩

set_option maxHeartbeats 1000000 in
theorem likeInts_any (B : Nat) (va vb : Value) (xs ys : List Int) (w : World) (ha : SeeI w B va xs) (hb : SeeI w B vb ys) :
    Calls Tryz.prog 18 #[va, vb] w fun e w' => e = .returned (.bool (eqI xs ys)) ∧ ∃ n, w' = w.drewN n := by
  obtain ⟨A, ca, rfl⟩ := ha.shape
  obtain ⟨A', cb, rfl⟩ := hb.shape
  have hm := ha.1
  have hm' := hb.1
  unfold maxLen at hm hm'
  by_cases hl : xs.length = ys.length
  · have hb1 : ((xs.length : Int) != (ys.length : Int)) = false := by simp [hl]
    have Hl := Lib.hid hl
    clear hl
    go_enter Tryz.func18, Tryz.ntmps18
    go_wp2
    clear hb1
    go_loopw [5] (fun i wr => ∃ k m : Nat, k ≤ xs.length ∧ i = .int .i64 k ∧ xs.take k = ys.take k ∧ wr = w.drewN m) (fun i _ => xs.length - (intOf i).toNat)
    case atStart => exact ⟨0, 0, Nat.zero_le _, rfl, rfl, rfl⟩
    case round =>
      obtain ⟨k, m, hk, rfl, ht, rfl⟩ := hrel
      have HT := Lib.hid ht
      clear ht
      by_cases hlt : k < xs.length
      · have hlt' : k < ys.length := by have := Hl.out; omega
        obtain ⟨g, o, x, rfl, -, hx, hcx⟩ := ha.at_ hlt
        obtain ⟨g', o', y, rfl, -, hy, hcy⟩ := hb.at_ hlt'
        have HX := Lib.hid hx
        have HY := Lib.hid hy
        clear hx hy ha hb
        by_cases hxy : x = y
        · subst hxy
          have hf : (x != x) = false := by simp
          go_wp2_with fail
          go_quiet (fail)
          go_wp2
          go_roundw
          case rel => exact ⟨k + 1, _, by omega, by go_num, take_more HT.out HX.out HY.out, rfl⟩
          case measure => simp [intOf]; omega
        · have hf : (x != y) = true := by simpa using hxy
          have HE : Hid (eqI xs ys = false) := Lib.hid (by
            unfold eqI
            rw [decide_eq_false_iff_not]
            intro h
            have h2 := HX.out
            rw [h, HY.out] at h2
            injection h2 with h2
            exact hxy h2.symm)
          clear hxy
          go_wp2_with fail
          go_quiet (fail)
          go_wp2
          go_ret
          rw [HE.out]
          exact ⟨rfl, _, World.drewN_drewN _ _ _⟩
      · have HE : Hid (eqI xs ys = true) := Lib.hid (by
          have h := HT.out
          rw [List.take_of_length_le (by omega), List.take_of_length_le (by have := Hl.out; omega)] at h
          simp [eqI, h])
        go_wp2_with fail
        go_ret
        rw [HE.out]
        exact ⟨rfl, _, rfl⟩
  · have hb1 : ((xs.length : Int) != (ys.length : Int)) = true := by simp; omega
    have HE : Hid (eqI xs ys = false) := Lib.hid (by
      unfold eqI
      rw [decide_eq_false_iff_not]
      rintro rfl
      exact hl rfl)
    clear hl
    go_enter Tryz.func18, Tryz.ntmps18
    go_wp2
    go_ret
    rw [HE.out]
    exact ⟨rfl, 0, rfl⟩

set_option maxHeartbeats 1000000 in
theorem markInts_any (B : Nat) (e : TypeId) (v : Value) (zs : List Int) (s : Nat) (w : World) (h : OwnI w B e v zs) (hs : s + zs.length ≤ 4611686018427387904) :
    Calls Tryz.prog 81 #[v, .int .i64 s] w fun r w' => r = .returned (.int .i64 ((s + zs.length : Nat) : Int)) ∧ OwnI w' B e v (marks s zs.length) ∧ w.grownBy w' v.ownBlock := by
  obtain ⟨hl, h⟩ := h
  rcases h with ⟨rfl, hn⟩ | ⟨g, cap, cur, rfl, hB, hg, hnc, hcm, hcs, ht⟩
  · obtain rfl : zs = [] := List.eq_nil_of_length_eq_zero hn
    go_enter Tryz.func81, Tryz.ntmps81
    go_wp2
    go_loop [1, 5] (fun i j => i = .int .i64 s ∧ j = .int .i64 0) (fun _ _ => 0)
    case atStart => exact ⟨rfl, rfl⟩
    case round =>
      obtain ⟨rfl, rfl⟩ := hrel
      go_wp2
      go_ret
      exact ⟨rfl, OwnI.nil _ _ _, World.grownBy.refl _ _⟩
  · generalize hzn : zs.length = n at *
    have Hc := Lib.hid hcs
    have hcn : n ≤ cur.size := by omega
    unfold maxLen at hcm
    clear hl ht hcs hzn
    have Hg := Lib.hid hg
    clear hg
    go_enter Tryz.func81, Tryz.ntmps81
    go_wp2
    go_loopw [1, 5] (fun m i wr => ∃ (k : Nat) (cur' : Array Value), k ≤ n ∧ i = .int .i64 k ∧ m = .int .i64 ((s + k : Nat) : Int) ∧ wr.heap[g]? = some (.cells cur' e (0, 0)) ∧ cur'.size = cur.size ∧
      cur'.toList.take k = (marks s k).map (Value.int .i64) ∧ w.grownBy wr (some g)) (fun _ i _ => n - (intOf i).toNat)
    case atStart => exact ⟨0, cur, Nat.zero_le _, rfl, rfl, Hg.out, rfl, by simp [marks], World.grownBy.refl _ _⟩
    case round =>
      obtain ⟨k, cur', hk, rfl, rfl, hh, hsz, htk, hgr⟩ := hrel
      have HH := Lib.hid hh
      have HZ := Lib.hid hsz
      have HT := Lib.hid htk
      clear hh hsz htk
      by_cases hlt : k < n
      · have hk' : k < cur'.size := by have := HZ.out; omega
        have hcell : wr.cell? ⟨g, k, none⟩ = some cur'[k] := by rw [cell_of_row wr g k cur' e (0, 0) HH.out]; exact Array.getElem?_eq_getElem hk'
        have hfz : wr.frozen? ⟨g, k, none⟩ = false := frozen_row HH.out
        go_wp2
        go_roundw
        case rel => exact ⟨k + 1, _, by omega, by go_num, by go_num, heap_set HH.out _, by rw [Array.size_setIfInBounds]; exact HZ.out, by rw [marks_succ, List.map_append]; exact take_set HT.out hk', grown_set hgr _⟩
        case measure => simp [intOf]; omega
      · obtain rfl : n = k := by omega
        go_wp2
        go_ret
        refine ⟨rfl, ⟨by simp, .inr ⟨g, cap, cur', by simp, hB, HH.out, by simpa using hnc, by unfold maxLen; omega, by rw [HZ.out, Hc.out], ?_⟩⟩, hgr⟩
        simpa using HT.out

set_option maxHeartbeats 1000000 in
theorem heldInts_any (B : Nat) (v : Value) (s n : Nat) (w : World) (h : SeeI w B v (marks s n)) (hs : s + n ≤ 4611686018427387904) :
    Calls Tryz.prog 127 #[v, .int .i64 s] w fun r w' => r = .returned (.int .i64 ((s + n : Nat) : Int)) ∧ w = w' := by
  obtain ⟨A, c, rfl⟩ := h.shape
  have hm := h.1
  rw [marks_length] at hm
  unfold maxLen at hm
  simp only [marks_length] at h ⊢
  go_enter Tryz.func127, Tryz.ntmps127
  go_wp2
  go_loop [1, 5] (fun m i => ∃ k : Nat, k ≤ n ∧ i = .int .i64 k ∧ m = .int .i64 ((s + k : Nat) : Int)) (fun _ i => n - (intOf i).toNat)
  case atStart => exact ⟨0, Nat.zero_le _, rfl, rfl⟩
  case round =>
    obtain ⟨k, hk, rfl, rfl⟩ := hrel
    by_cases hlt : k < n
    · obtain ⟨g, o, x, rfl, -, hx, hc⟩ := h.at_ (k := k) (by simpa using hlt)
      rw [marks_at hlt] at hx
      injection hx with hx
      subst hx
      have hf : ((((s + k : Nat) : Int)) != (((s + k : Nat) : Int))) = false := by simp
      clear h
      go_wp2
      go_round
      case rel => exact ⟨k + 1, by omega, by go_num, by go_num⟩
      case measure => simp [intOf]; omega
    · obtain rfl : n = k := by omega
      clear h
      go_wp2
      go_ret
      exact ⟨rfl, rfl⟩

def risTo (zs : List Int) (n : Nat) : Prop := ∀ k : Nat, k + 1 < n → zs.getD k 0 < zs.getD (k + 1) 0
open Classical in
noncomputable def risB (zs : List Int) : Bool := decide (risTo zs zs.length)

def hasI (zs : List Int) (x : Int) : Bool := decide (x ∈ zs)

end Go.Proofs.YtigcbegeaikfcaaGreatDoor
