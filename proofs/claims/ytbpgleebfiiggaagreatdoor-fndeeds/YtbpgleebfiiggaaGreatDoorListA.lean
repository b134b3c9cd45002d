/- Contracts of the laws' own helpers on lists of int64: equal, marked, held. -/
import Derived.Test.YtbpgleebfiiggaaGreatDoorRows
import Derived.Test.YtbpgleebfiiggaaGreatDoorLowA
import Derived.Deep.QuietTactic
import Derived.BigQuiet
namespace Go.Proofs.YtbpgleebfiiggaaGreatDoor
open Go.RowKit
set_option linter.unusedVariables false

set_option maxHeartbeats 1000000 in
theorem likeInts_any (B : Nat) (va vb : Value) (xs ys : List Int) (w : World) (ha : SeeI w B va xs) (hb : SeeI w B vb ys) :
    Calls Tryz.prog 24 #[va, vb] w fun e w' => e = .returned (.bool (eqI xs ys)) ∧ ∃ n, w' = w.drewN n := by
  obtain ⟨A, ca, rfl⟩ := ha.shape
  obtain ⟨A', cb, rfl⟩ := hb.shape
  have hm := ha.1
  have hm' := hb.1
  unfold maxLen at hm hm'
  by_cases hl : xs.length = ys.length
  · have hb1 : ((xs.length : Int) != (ys.length : Int)) = false := by simp [hl]
    have Hl := Lib.hid hl
    clear hl
    go_enter Tryz.func24, Tryz.ntmps24
    go_wp2
    clear hb1
    go_loopw [5] (fun i wr => ∃ k m : Nat, k ≤ xs.length ∧ i = .int .i64 k ∧ xs.take k = ys.take k ∧ wr = w.drewN m) (fun i _ => xs.length - (intOf i).toNat)
    case atStart => exact ⟨0, 0, Nat.zero_le _, rfl, rfl, rfl⟩
    case round =>
      obtain ⟨k, m, hk, rfl, ht, rfl⟩ := hrel
      have HT := Lib.hid ht
      clear ht
      by_cases hlt : k < xs.length
      · have hlt' : k < ys.length := by have := Hl.out; omega
        obtain ⟨g, o, x, rfl, -, hx, hcx⟩ := ha.at_ hlt
        obtain ⟨g', o', y, rfl, -, hy, hcy⟩ := hb.at_ hlt'
        have HX := Lib.hid hx
        have HY := Lib.hid hy
        clear hx hy ha hb
        by_cases hxy : x = y
        · subst hxy
          have hf : (x != x) = false := by simp
          go_wp2_with fail
          go_quiet (fail)
          go_wp2
          go_roundw
          case rel => exact ⟨k + 1, _, by omega, by go_num, take_more HT.out HX.out HY.out, rfl⟩
          case measure => simp [intOf]; omega
        · have hf : (x != y) = true := by simpa using hxy
          have HE : Hid (eqI xs ys = false) := Lib.hid (by
            unfold eqI
            rw [decide_eq_false_iff_not]
            intro h
            have h2 := HX.out
            rw [h, HY.out] at h2
            injection h2 with h2
            exact hxy h2.symm)
          clear hxy
          go_wp2_with fail
          go_quiet (fail)
          go_wp2
          go_ret
          rw [HE.out]
          exact ⟨rfl, _, World.drewN_drewN _ _ _⟩
      · have HE : Hid (eqI xs ys = true) := Lib.hid (by
          have h := HT.out
          rw [List.take_of_length_le (by omega), List.take_of_length_le (by have := Hl.out; omega)] at h
          simp [eqI, h])
        go_wp2_with fail
        go_ret
        rw [HE.out]
        exact ⟨rfl, _, rfl⟩
  · have hb1 : ((xs.length : Int) != (ys.length : Int)) = true := by simp; omega
    have HE : Hid (eqI xs ys = false) := Lib.hid (by
      unfold eqI
      rw [decide_eq_false_iff_not]
      rintro rfl
      exact hl rfl)
    clear hl
    go_enter Tryz.func24, Tryz.ntmps24
    go_wp2
    go_ret
    rw [HE.out]
    exact ⟨rfl, 0, rfl⟩

def risTo (zs : List Int) (n : Nat) : Prop := ∀ k : Nat, k + 1 < n → zs.getD k 0 < zs.getD (k + 1) 0
open Classical in
noncomputable def risB (zs : List Int) : Bool := decide (risTo zs zs.length)

set_option maxHeartbeats 1000000 in
theorem rises_any (B : Nat) (v : Value) (zs : List Int) (w : World) (h : SeeI w B v zs) :
    Calls Tryz.prog 26 #[v] w fun e w' => e = .returned (.bool (risB zs)) ∧ ∃ n, w' = w.drewN n := by
  obtain ⟨A, c, rfl⟩ := h.shape
  have hm := h.1
  unfold maxLen at hm
  go_enter Tryz.func26, Tryz.ntmps26
  go_wp2
  go_loopw [3] (fun i wr => ∃ k m : Nat, (k = 0 ∨ k + 1 ≤ zs.length) ∧ i = .int .i64 ((k + 1 : Nat) : Int) ∧ risTo zs (k + 1) ∧ wr = w.drewN m) (fun i _ => zs.length - (intOf i).toNat)
  case atStart => exact ⟨0, 0, .inl rfl, rfl, fun k hk => by omega, rfl⟩
  case round =>
    obtain ⟨k, m, hk, rfl, ht, rfl⟩ := hrel
    have HT := Lib.hid ht
    clear ht
    have hk' : k ≤ zs.length := by omega
    clear hk
    by_cases hlt : k + 1 < zs.length
    · obtain ⟨g, o, x, rfl, -, hx, hcx⟩ := h.at_ hlt
      obtain ⟨g', o', y, he, -, hy, hcy⟩ := h.at_ (k := k) (by omega)
      injection he with he
      injection he with he1 he2
      subst he1 he2
      have HX := Lib.hid hx
      have HY := Lib.hid hy
      clear hx hy h
      by_cases hxy : x ≤ y
      · have HE : Hid (risB zs = false) := Lib.hid (by
          unfold risB
          rw [decide_eq_false_iff_not]
          intro h
          have h2 := h k hlt
          simp [HX.out, HY.out] at h2
          omega)
        go_wp2_with fail
        go_quiet (fail)
        go_wp2
        go_ret
        rw [HE.out]
        exact ⟨rfl, _, World.drewN_drewN _ _ _⟩
      · have HR : Hid (risTo zs (k + 1 + 1)) := Lib.hid (by
          intro j hj
          by_cases e : j = k
          · subst e
            simp [HX.out, HY.out]
            omega
          · exact HT.out j (by omega))
        go_wp2_with fail
        go_quiet (fail)
        go_wp2
        go_roundw
        case rel => exact ⟨k + 1, _, .inr (by omega), by go_num, HR.out, rfl⟩
        case measure => simp [intOf]; omega
    · have HE : Hid (risB zs = true) := Lib.hid (by
        unfold risB
        simp only [decide_eq_true_eq]
        intro j hj
        exact HT.out j (by omega))
      go_wp2_with fail
      go_ret
      rw [HE.out]
      exact ⟨rfl, _, rfl⟩

def hasI (zs : List Int) (x : Int) : Bool := decide (x ∈ zs)

set_option maxHeartbeats 1000000 in
theorem hasInt_any (B : Nat) (v : Value) (zs : List Int) (x : Int) (w : World) (h : SeeI w B v zs) :
    Calls Tryz.prog 27 #[v, .int .i64 x] w fun e w' => e = .returned (.bool (hasI zs x)) ∧ w = w' := by
  obtain ⟨A, c, rfl⟩ := h.shape
  have hm := h.1
  unfold maxLen at hm
  go_enter Tryz.func27, Tryz.ntmps27
  go_wp2
  go_loop [5] (fun i => ∃ k : Nat, k ≤ zs.length ∧ i = .int .i64 k ∧ ¬ x ∈ zs.take k) (fun i => zs.length - (intOf i).toNat)
  case atStart => exact ⟨0, Nat.zero_le _, rfl, by simp⟩
  case round =>
    obtain ⟨k, hk, rfl, ht⟩ := hrel
    have HT := Lib.hid ht
    clear ht
    by_cases hlt : k < zs.length
    · obtain ⟨g, o, y, rfl, -, hy, hcy⟩ := h.at_ hlt
      have HY := Lib.hid hy
      clear hy h
      by_cases hxy : y = x
      · subst hxy
        have hf : (y == y) = true := by simp
        have HE : Hid (hasI zs y = true) := Lib.hid (by
          unfold hasI
          rw [decide_eq_true_iff]
          exact List.mem_of_getElem? HY.out)
        go_wp2_with fail
        go_ret
        rw [HE.out]
        exact ⟨rfl, rfl⟩
      · have hf : (y == x) = false := by simpa using hxy
        have HR : Hid (¬ x ∈ zs.take (k + 1)) := Lib.hid (by
          rw [List.take_add_one, HY.out]
          simp only [Option.toList_some, List.mem_append, List.mem_singleton, not_or]
          exact ⟨HT.out, fun e => hxy e.symm⟩)
        clear hxy
        go_wp2_with fail
        go_round
        case rel => exact ⟨k + 1, by omega, by go_num, HR.out⟩
        case measure => simp [intOf]; omega
    · have HE : Hid (hasI zs x = false) := Lib.hid (by
        unfold hasI
        rw [decide_eq_false_iff_not]
        have := HT.out
        rwa [List.take_of_length_le (by omega)] at this)
      go_wp2_with fail
      go_ret
      rw [HE.out]
      exact ⟨rfl, rfl⟩

end Go.Proofs.YtbpgleebfiiggaaGreatDoor
