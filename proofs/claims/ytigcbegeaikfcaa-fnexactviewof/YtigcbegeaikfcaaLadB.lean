/- Contracts of the program's functions that turn a ladder over and carry it further. -/
import Derived.Test.YtigcbegeaikfcaaLadA
namespace Go.Proofs.Ytigcbegeaikfcaa
open Go.RowKit
set_option linter.unusedVariables false

def turnR (R : Nat → Nat → Bool) (a : Nat) : Nat → Nat → Bool := fun b x => decide (x < a) && R x b
def turnS (R : Nat → Nat → Bool) (a : Nat) (ms : List Int) (j : Nat) : Nat → Nat → Bool := fun b x => decide (x < a) && R x b || (x == a && decide ((b : Int) ∈ ms.take j))
theorem turnR_zero (R : Nat → Nat → Bool) : ladR zeroR = ladR (turnR R 0) := ladR_congr fun b x _ _ => by simp [turnR]
theorem turnS_zero (R : Nat → Nat → Bool) (a : Nat) (ms : List Int) : ladR (turnS R a ms 0) = ladR (turnR R a) := ladR_congr fun b x _ _ => by simp [turnR, turnS]
theorem turnS_all (R : Nat → Nat → Bool) (a : Nat) : ladR (turnS R a (memB (setN (R a))) (memB (setN (R a))).length) = ladR (turnR R (a + 1)) := by
  refine ladR_congr fun b x hb hx => ?_
  simp only [turnR, turnS, List.take_length]
  have h : decide ((b : Int) ∈ memB (setN (R a))) = R a b := by
    rw [mem_setN]
    cases hr : R a b
    · rw [decide_eq_false_iff_not]
      intro hm
      obtain ⟨j, _, h2, h3⟩ := mem_sel.1 hm
      obtain rfl : b = j := by omega
      rw [Int.toNat_natCast, hr] at h3; cases h3
    · rw [decide_eq_true_iff]
      exact mem_sel.2 ⟨b, hb, rfl, by rw [Int.toNat_natCast]; exact hr⟩
  rw [h]
  by_cases e : x = a
  · subst e; simp
  · have : (x < a + 1) = (x < a) := propext ⟨fun _ => by omega, fun _ => by omega⟩
    simp [e, this]
theorem turnS_succ (R : Nat → Nat → Bool) (a : Nat) (ms : List Int) (j k : Nat) (ha : a < 6) (hk : k < 6) (hj : ms[j]? = some (k : Int)) :
    (ladR (turnS R a ms j)).set k (bits BinOp.or IntKind.i64 ((ladR (turnS R a ms j)).getD k 0) (wrap64 (2 ^ a))) = ladR (turnS R a ms (j + 1)) := by
  rw [ladR_at _ k hk, setN_or _ a ha, ladR_set _ k hk]
  refine ladR_congr fun b x hb hx => ?_
  have h1 : ms.take (j + 1) = ms.take j ++ [(k : Int)] := by rw [List.take_add_one, hj]; rfl
  simp only [turnS, h1, List.mem_append, List.mem_singleton]
  by_cases e : b = k
  · subst e
    by_cases e' : x = a
    · subst e'; simp
    · have h2 : (x == a) = false := by simpa using e'
      simp [h2]
  · have : ¬ (b : Int) = (k : Int) := by omega
    simp [e, this]
theorem mem_small (s : Int) {j : Nat} {x : Int} (h : (memB s)[j]? = some x) : ∃ k : Nat, x = (k : Int) ∧ k < 6 := by
  obtain ⟨k, h1, h2, _⟩ := mem_sel.1 (List.mem_of_getElem? h)
  exact ⟨k, h2, h1⟩

set_option maxHeartbeats 2000000 in
set_option maxRecDepth 100000 in
theorem turned_any (R : Nat → Nat → Bool) (w : World) : Calls Try.prog 78 #[.agg (cellsI (ladR R))] w fun e w' => e = .returned (.agg (cellsI (ladR (turnR R 6)))) ∧ Below w.heap.size w w' := by
  have L0 := ((Lad.new (w.alloc (.cells (cellsI (ladR R)) 73)) 73 (ladR zeroR)).alloc (.cells (cellsI (ladR zeroR)) 73))
  have L2 := Lad.new ((w.alloc (.cells (cellsI (ladR R)) 73)).alloc (.cells (cellsI (ladR zeroR)) 73)) 73 (ladR zeroR)
  have b0 : Below w.heap.size w (((w.alloc (.cells (cellsI (ladR R)) 73)).alloc (.cells (cellsI (ladR zeroR)) 73)).alloc (.cells (cellsI (ladR zeroR)) 73)) := (((Below.refl _ _).alloc (Nat.le_refl _) _).alloc (by simp) _).alloc (by simp; omega) _
  rw [World.size_alloc] at L0
  rw [World.size_alloc, World.size_alloc] at L2
  rw [cells0] at L0 L2 b0
  rw [turnR_zero R] at L2
  rw [cells6 (ladR_len R)] at L0 L2 b0 ⊢
  go_enter Try.func78, Try.ntmps78
  go_wp2_with fail
  go_loopw [9] (fun i wr => ∃ a : Nat, a ≤ 6 ∧ i = .int .i64 a ∧ Lad wr (w.heap.size + 1) 73 (ladR zeroR) ∧ Lad wr (w.heap.size + 1 + 1) 73 (ladR (turnR R a)) ∧ Below w.heap.size w wr) (fun i _ => 6 - (intOf i).toNat)
  case atStart => exact ⟨0, Nat.zero_le _, rfl, L0, L2, b0⟩
  case round =>
    obtain ⟨a, hk, rfl, l1, l2, hb⟩ := hrel
    clear L0 L2 b0
    by_cases hlt : a < 6
    · have hix := index_lad (ladR_len R) a hlt
      have HE := Lib.hid (ladR_at R a hlt)
      rw [ladR_at R a hlt] at hix
      have hlen := memB_le (setN (R a))
      go_wp2_with fail
      refine (iMembers_any _ _).mono ?_
      rintro e w1 ⟨v, rfl, ho, hb1⟩
      obtain ⟨A, c, rfl⟩ := ho.see.shape
      have l1' := l1.below hb1 l1.lt
      have l2' := l2.below hb1 l2.lt
      have hlt2 := l2.lt
      have hb' := hb.trans (hb1.mono hb.size)
      rw [← turnS_zero R a (memB (setN (R a)))] at l2'
      clear l1 l2 hb hb1 hix
      go_wp2_with fail
      go_loopw [16] (fun i ws => ∃ j : Nat, j ≤ (memB (setN (R a))).length ∧ i = .int .i64 j ∧ Lad ws (w.heap.size + 1) 73 (ladR zeroR) ∧ Lad ws (w.heap.size + 1 + 1) 73 (ladR (turnS R a (memB (setN (R a))) j)) ∧ Below w.heap.size w ws ∧
        OwnI ws wr.heap.size 2 (.slice A (memB (setN (R a))).length c) (memB (setN (R a)))) (fun i _ => (memB (setN (R a))).length - (intOf i).toNat)
      case atStart => exact ⟨0, Nat.zero_le _, rfl, l1', l2', hb', ho⟩
      case round =>
        obtain ⟨j, hj, rfl, l1, l2, hb, ho⟩ := hrel
        clear l1' l2' hb'
        by_cases hjl : j < (memB (setN (R a))).length
        · obtain ⟨g, o, x, rfl, -, hx, hcx⟩ := ho.see.at_ hjl
          obtain ⟨k, rfl, hk6⟩ := mem_small _ hx
          have RR := Lib.hid (l2.set k (bits BinOp.or IntKind.i64 ((ladR (turnS R a (memB (setN (R a))) j)).getD k 0) (wrap64 (2 ^ a))))
          rw [turnS_succ R a _ j k hlt hk6 hx] at RR
          clear hx
          have hc := l2.cell (k := k) (by rw [ladR_len]; omega)
          have hf := l2.frozen k
          go_wp2_with fail
          refine (with_any _ _ (by omega) (by omega) _).mono ?_
          rintro e w' ⟨rfl, rfl⟩
          go_wp2_with fail
          go_roundw
          case rel => exact ⟨j + 1, by omega, by go_num, l1.far (by simp) _, RR.out, hb.setCell (by simp; omega) _, ho.far hlt2 _⟩
          case measure => simp [intOf]; omega
        · obtain rfl : j = (memB (setN (R a))).length := by omega
          rw [turnS_all] at l2
          go_wp2_with fail
          go_roundw
          case rel => exact ⟨a + 1, by omega, by go_num, l1, l2, hb⟩
          case measure => simp [intOf]; omega
    · obtain rfl : a = 6 := by omega
      obtain ⟨a0, a1, a2, a3, a4, a5⟩ := l2.six (ladR_len _)
      obtain ⟨c0, c1, c2, c3, c4, c5⟩ := l1.six (ladR_len _)
      obtain ⟨f0, f1, f2, f3, f4, f5⟩ := l1.free
      go_wp2_with fail
      refine bodyPost_ret (v := .agg (cellsI (ladR (turnR R 6)))) (by rw [cells6 (ladR_len _)]; simp [results, Try.results78, go_sem, c0, c1, c2, c3, c4, c5]) rfl ⟨rfl, ?_⟩
      (repeat refine Below.setCell ?_ (by simp) _)
      exact hb

def reachR (R : Nat → Nat → Bool) (b x : Nat) : Bool := (memB (setN (R b))).any fun i => R i.toNat x
def furR (R : Nat → Nat → Bool) (a : Nat) : Nat → Nat → Bool := fun b x => R b x || (decide (b < a) && reachR R b x)
def furS (R : Nat → Nat → Bool) (a : Nat) (ms : List Int) (j : Nat) : Nat → Nat → Bool := fun b x => R b x || (decide (b < a) && reachR R b x) || (b == a && (ms.take j).any fun i => R i.toNat x)
theorem furR_zero (R : Nat → Nat → Bool) : ladR R = ladR (furR R 0) := ladR_congr fun b x _ _ => by simp [furR]
theorem furS_zero (R : Nat → Nat → Bool) (a : Nat) (ms : List Int) : ladR (furS R a ms 0) = ladR (furR R a) := ladR_congr fun b x _ _ => by simp [furR, furS]
theorem furS_all (R : Nat → Nat → Bool) (a : Nat) : ladR (furS R a (memB (setN (R a))) (memB (setN (R a))).length) = ladR (furR R (a + 1)) := by
  refine ladR_congr fun b x hb hx => ?_
  simp only [furR, furS, List.take_length]
  by_cases e : b = a
  · subst e; simp [reachR]
  · have h2 : (b == a) = false := by simpa using e
    have : (b < a + 1) = (b < a) := propext ⟨fun _ => by omega, fun _ => by omega⟩
    simp [h2, this]
theorem furS_succ (R : Nat → Nat → Bool) (a : Nat) (ms : List Int) (j k : Nat) (ha : a < 6) (hk : k < 6) (hj : ms[j]? = some (k : Int)) :
    (ladR (furS R a ms j)).set a (bits BinOp.or IntKind.i64 ((ladR (furS R a ms j)).getD a 0) ((ladR R).getD k 0)) = ladR (furS R a ms (j + 1)) := by
  rw [ladR_at _ a ha, ladR_at _ k hk, setN_both, ladR_set _ a ha]
  refine ladR_congr fun b x hb hx => ?_
  have h1 : ms.take (j + 1) = ms.take j ++ [(k : Int)] := by rw [List.take_add_one, hj]; rfl
  simp only [furS, h1, List.any_append]
  by_cases e : b = a
  · subst e; simp [Bool.or_assoc]
  · have h2 : (b == a) = false := by simpa using e
    simp [e, h2]

set_option maxHeartbeats 2000000 in
set_option maxRecDepth 100000 in
theorem further_any (R : Nat → Nat → Bool) (w : World) : Calls Try.prog 82 #[.agg (cellsI (ladR R))] w fun e w' => e = .returned (.agg (cellsI (ladR (furR R 6)))) ∧ Below w.heap.size w w' := by
  have P0 := ((Lad.new w 73 (ladR R)).alloc (.cells (cellsI (ladR zeroR)) 73)).alloc (.cells (cellsI (ladR R)) 73)
  have L0 := ((Lad.new (w.alloc (.cells (cellsI (ladR R)) 73)) 73 (ladR zeroR)).alloc (.cells (cellsI (ladR R)) 73))
  have L2 := Lad.new ((w.alloc (.cells (cellsI (ladR R)) 73)).alloc (.cells (cellsI (ladR zeroR)) 73)) 73 (ladR R)
  have b0 : Below w.heap.size w (((w.alloc (.cells (cellsI (ladR R)) 73)).alloc (.cells (cellsI (ladR zeroR)) 73)).alloc (.cells (cellsI (ladR R)) 73)) := (((Below.refl _ _).alloc (Nat.le_refl _) _).alloc (by simp) _).alloc (by simp; omega) _
  rw [World.size_alloc] at L0
  rw [World.size_alloc, World.size_alloc] at L2
  rw [cells0] at P0 L0 L2 b0
  rw [cells6 (ladR_len R)] at P0 L0 L2 b0 ⊢
  go_enter Try.func82, Try.ntmps82
  go_wp2_with fail
  go_loopw [10] (fun i wr => ∃ a : Nat, a ≤ 6 ∧ i = .int .i64 a ∧ Lad wr w.heap.size 73 (ladR R) ∧ Lad wr (w.heap.size + 1) 73 (ladR zeroR) ∧ Lad wr (w.heap.size + 1 + 1) 73 (ladR (furR R a)) ∧ Below w.heap.size w wr) (fun i _ => 6 - (intOf i).toNat)
  case atStart => exact ⟨0, Nat.zero_le _, rfl, P0, L0, by rw [← furR_zero]; exact L2, b0⟩
  case round =>
    obtain ⟨a, hk, rfl, l0, l1, l2, hb⟩ := hrel
    clear P0 L0 L2 b0
    by_cases hlt : a < 6
    · have hix := index_lad (ladR_len R) a hlt
      rw [ladR_at R a hlt] at hix
      have hlen := memB_le (setN (R a))
      go_wp2_with fail
      refine (iMembers_any _ _).mono ?_
      rintro e w1 ⟨v, rfl, ho, hb1⟩
      obtain ⟨A, c, rfl⟩ := ho.see.shape
      have l0' := l0.below hb1 l0.lt
      have l1' := l1.below hb1 l1.lt
      have l2' := l2.below hb1 l2.lt
      have hlt2 := l2.lt
      have hb' := hb.trans (hb1.mono hb.size)
      rw [← furS_zero R a (memB (setN (R a)))] at l2'
      clear l0 l1 l2 hb hb1 hix
      go_wp2_with fail
      go_loopw [17] (fun i ws => ∃ j : Nat, j ≤ (memB (setN (R a))).length ∧ i = .int .i64 j ∧ Lad ws w.heap.size 73 (ladR R) ∧ Lad ws (w.heap.size + 1) 73 (ladR zeroR) ∧ Lad ws (w.heap.size + 1 + 1) 73 (ladR (furS R a (memB (setN (R a))) j)) ∧ Below w.heap.size w ws ∧
        OwnI ws wr.heap.size 2 (.slice A (memB (setN (R a))).length c) (memB (setN (R a)))) (fun i _ => (memB (setN (R a))).length - (intOf i).toNat)
      case atStart => exact ⟨0, Nat.zero_le _, rfl, l0', l1', l2', hb', ho⟩
      case round =>
        obtain ⟨j, hj, rfl, l0, l1, l2, hb, ho⟩ := hrel
        clear l0' l1' l2' hb'
        by_cases hjl : j < (memB (setN (R a))).length
        · obtain ⟨g, o, x, rfl, -, hx, hcx⟩ := ho.see.at_ hjl
          obtain ⟨k, rfl, hk6⟩ := mem_small _ hx
          have RR := Lib.hid (l2.set a (bits BinOp.or IntKind.i64 ((ladR (furS R a (memB (setN (R a))) j)).getD a 0) ((ladR R).getD k 0)))
          rw [furS_succ R a _ j k hlt hk6 hx] at RR
          clear hx
          have hc := l2.cell (k := a) (by rw [ladR_len]; omega)
          have hf := l2.frozen a
          have hd := l0.cell (k := k) (by rw [ladR_len]; omega)
          go_wp2_with fail
          go_region
          go_wp2_with fail
          go_roundw
          case rel => exact ⟨j + 1, by omega, by go_num, l0.far (by simp; omega) _, l1.far (by simp) _, RR.out, (hb.setCell (by simp; omega) _).drew, ho.far hlt2 _⟩
          case measure => simp [intOf]; omega
        · obtain rfl : j = (memB (setN (R a))).length := by omega
          rw [furS_all] at l2
          go_wp2_with fail
          go_roundw
          case rel => exact ⟨a + 1, by omega, by go_num, l0, l1, l2, hb⟩
          case measure => simp [intOf]; omega
    · obtain rfl : a = 6 := by omega
      obtain ⟨a0, a1, a2, a3, a4, a5⟩ := l2.six (ladR_len _)
      obtain ⟨c0, c1, c2, c3, c4, c5⟩ := l1.six (ladR_len _)
      obtain ⟨f0, f1, f2, f3, f4, f5⟩ := l1.free
      go_wp2_with fail
      refine bodyPost_ret (v := .agg (cellsI (ladR (furR R 6)))) (by rw [cells6 (ladR_len _)]; simp [results, Try.results82, go_sem, c0, c1, c2, c3, c4, c5]) rfl ⟨rfl, ?_⟩
      (repeat refine Below.setCell ?_ (by simp) _)
      exact hb

end Go.Proofs.Ytigcbegeaikfcaa
