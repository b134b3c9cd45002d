/- Contracts of the program's readers of an Order: how many ranks, which are there, its ladder (laidOut). -/
import Derived.Test.YtigcbegeaikfcaaLadB
namespace Go.Proofs.Ytigcbegeaikfcaa
open Go.RowKit
set_option linter.unusedVariables false

def LadOut (w : World) (L : List Int) (b : Bool) (e : Ending) (w' : World) : Prop := e = .returned (.tuple #[.agg (cellsI L), .bool b]) ∧ Below w.heap.size w w'

set_option maxHeartbeats 400000 in
theorem rankCount_any (A : Option Addr) (n c : Nat) (hn : n ≤ maxLen) (w : World) : Calls Try.prog 71 #[.agg #[.slice A n c]] w fun e w' => e = .returned (.int .i64 n) ∧ Below w.heap.size w w' := by
  unfold maxLen at hn
  go_enter Try.func71, Try.ntmps71
  go_wp2_with fail
  go_ret
  exact ⟨rfl, (Below.refl _ _).alloc (Nat.le_refl _) _⟩

set_option maxHeartbeats 400000 in
theorem isRankOf_any (A : Option Addr) (n c : Nat) (hn : n ≤ maxLen) (r : Int) (w : World) : Calls Try.prog 60 #[.agg #[.slice A n c], .int .i64 r] w fun e w' => e = .returned (.bool (decide (0 ≤ r ∧ r < n))) ∧ Below w.heap.size w w' := by
  by_cases h0 : 0 ≤ r
  · have hb : decide (0 ≤ r ∧ r < (n : Int)) = decide (r < (n : Int)) := by simp [h0]
    rw [hb]
    clear hb
    go_enter Try.func60, Try.ntmps60
    go_wp2_with fail
    refine (rankCount_any A n c hn _).mono ?_
    rintro e w' ⟨rfl, hb⟩
    go_wp2_with fail
    go_ret
    exact ⟨rfl, ((Below.refl _ _).alloc (Nat.le_refl _) _).trans (hb.mono (by simp))⟩
  · have hb : decide (0 ≤ r ∧ r < (n : Int)) = false := by simp [h0]
    rw [hb]
    clear hb
    go_enter Try.func60, Try.ntmps60
    go_wp2_with fail
    go_ret
    exact ⟨rfl, (Below.refl _ _).alloc (Nat.le_refl _) _⟩

/-- Who is in whose Ups, of the first k ranks. -/
def upK (us : List Int) (k : Nat) : Nat → Nat → Bool := fun a x => decide (a < k) && bitB (us.getD a 0) x
def upR (us : List Int) : Nat → Nat → Bool := upK us us.length
theorem upK_zero (us : List Int) : ladR zeroR = ladR (upK us 0) := ladR_congr fun b x _ _ => by simp [upK]
theorem upK_succ (us : List Int) (k : Nat) (hk : k < 6) (u : Int) (hu : us[k]? = some u) (h0 : 0 ≤ u) (h1 : u ≤ 63) : (ladR (upK us k)).set k u = ladR (upK us (k + 1)) := by
  have := ladR_set (upK us k) k hk (fun x => bitB u x)
  rw [setN_bits u h0 h1] at this
  rw [this]
  refine ladR_congr fun b x hb hx => ?_
  simp only [upK]
  by_cases h : b = k
  · subst h; simp [hu]
  · have : (b < k + 1) = (b < k) := propext ⟨fun _ => by omega, fun _ => by omega⟩
    simp [h, this]
/-- One to six sets of ranks there are. -/
def laidB (us : List Int) : Bool := decide (1 ≤ us.length ∧ us.length ≤ 6) && us.all fun u => decide (0 ≤ u ∧ u ≤ 2 ^ us.length - 1)

set_option maxHeartbeats 2000000 in
set_option maxRecDepth 100000 in
theorem laidOut_yes (B : Nat) (v : Value) (us : List Int) (w : World) (hs : SeeI w B v us) (hB : B ≤ w.heap.size) (h : laidB us = true) : Calls Try.prog 79 #[.agg #[v]] w (LadOut w (ladR (upR us)) true) := by
  obtain ⟨A, c, rfl⟩ := hs.shape
  simp only [laidB, Bool.and_eq_true, decide_eq_true_eq, List.all_eq_true] at h
  obtain ⟨⟨h1, h2⟩, h3⟩ := h
  have H3 := Lib.hid h3
  clear h3
  have HA : Hid (allB us.length = 2 ^ us.length - 1) := Lib.hid (by simp [allB]; omega)
  have HP : Hid ((2 : Int) ^ us.length ≤ 64) := Lib.hid (by have := (bit_small us.length (by omega) (by omega)).2.1; simpa using this)
  have hs2 : SeeI (((w.alloc (.cells #[.slice A us.length c] 30)).alloc (.cells (cellsI (ladR zeroR)) 73)).alloc (.cells (cellsI (ladR zeroR)) 73)) B (.slice A us.length c) us := ((hs.alloc hB _).alloc (by simp; omega) _).alloc (by simp; omega) _
  have L0 := ((Lad.new (w.alloc (.cells #[.slice A us.length c] 30)) 73 (ladR zeroR)).alloc (.cells (cellsI (ladR zeroR)) 73))
  have L2 := Lad.new ((w.alloc (.cells #[.slice A us.length c] 30)).alloc (.cells (cellsI (ladR zeroR)) 73)) 73 (ladR zeroR)
  have b0 : Below w.heap.size w (((w.alloc (.cells #[.slice A us.length c] 30)).alloc (.cells (cellsI (ladR zeroR)) 73)).alloc (.cells (cellsI (ladR zeroR)) 73)) := (((Below.refl _ _).alloc (Nat.le_refl _) _).alloc (by simp) _).alloc (by simp; omega) _
  rw [World.size_alloc] at L0
  rw [World.size_alloc, World.size_alloc] at L2
  rw [cells0] at L0 L2 b0 hs2
  rw [upK_zero us] at L2
  go_enter Try.func79, Try.ntmps79
  go_wp2_with fail
  refine (rankCount_any _ _ _ hs.1 _).mono ?_
  rintro e w1 ⟨rfl, hb1⟩
  have g1 := hb1.size
  simp at g1
  have r1 := (old_reads hb1).1
  have L0' := L0.below hb1 L0.lt
  have L2' := L2.below hb1 L2.lt
  have b0' := b0.trans (hb1.mono (by simp; omega))
  have hs' := hs2.below (hb1.mono (by simp; omega))
  clear L0 L2 b0 hs2 hs
  go_wp2_with fail
  clear r1 hb1
  go_loopw [20] (fun i wr => ∃ k : Nat, k ≤ us.length ∧ i = .int .i64 k ∧ Lad wr (w.heap.size + 1) 73 (ladR zeroR) ∧ Lad wr (w.heap.size + 1 + 1) 73 (ladR (upK us k)) ∧ Below w.heap.size w wr ∧ SeeI wr B (.slice A us.length c) us) (fun i _ => us.length - (intOf i).toNat)
  case atStart => exact ⟨0, Nat.zero_le _, rfl, L0', L2', b0', hs'⟩
  case round =>
    obtain ⟨k, hk, rfl, l1, l2, hb, hs⟩ := hrel
    clear L0' L2' b0' hs'
    by_cases hlt : k < us.length
    · obtain ⟨g, o, x, rfl, -, hx, hcx⟩ := hs.at_ hlt
      have hx0 := H3.out x (List.mem_of_getElem? hx)
      obtain ⟨q0, q1⟩ := hx0
      have Q1 := Lib.hid q1
      have q2 : x ≤ 63 := by have := HP.out; omega
      clear q1
      have RR := Lib.hid (l2.set k x)
      rw [upK_succ us k (by omega) x hx q0 q2] at RR
      clear hx
      have hc := l2.cell (k := k) (by rw [ladR_len]; omega)
      have hf := l2.frozen k
      go_wp2_with fail
      refine (iAllOf_any _ _).mono ?_
      rintro e w' ⟨rfl, rfl⟩
      rw [HA.out]
      have q1 : ¬ (2 : Int) ^ us.length - 1 < x := by have := Q1.out; omega
      go_wp2_with fail
      go_roundw
      case rel => exact ⟨k + 1, by omega, by go_num, l1.far (by simp) _, RR.out, hb.setCell (by simp; omega) _, hs.keep fun p hp => World.cell?_setCell_other _ _ p _ (fun e => by subst e; simp at hp; omega)⟩
      case measure => simp [intOf]; omega
    · obtain rfl : us.length = k := by omega
      obtain ⟨a0, a1, a2, a3, a4, a5⟩ := l2.six (ladR_len _)
      obtain ⟨c0, c1, c2, c3, c4, c5⟩ := l1.six (ladR_len _)
      obtain ⟨f0, f1, f2, f3, f4, f5⟩ := l1.free
      go_wp2_with fail
      refine bodyPost_ret (v := .tuple #[.agg (cellsI (ladR (upR us))), .bool true]) (by rw [cells6 (ladR_len _)]; simp [results, Try.results79, go_sem, c0, c1, c2, c3, c4, c5, upR]) rfl ⟨rfl, ?_⟩
      (repeat refine Below.setCell ?_ (by simp) _)
      exact hb

end Go.Proofs.Ytigcbegeaikfcaa
