/- The program's LatticeOk. -/
import Derived.Test.YtigcbegeaikfcaaLatA
import Derived.Test.YtigcbegeaikfcaaLatD
namespace Go.Proofs.Ytigcbegeaikfcaa
open Go.RowKit
set_option linter.unusedVariables false

theorem eachR_no {R : Nat → Nat → Bool} {n a b : Nat} (ha : a < n) (hb : b < a) (h : leastT R (bothR R a b) < 0) : eachR R n = false := by
  simp only [eachR, List.all_eq_false, List.mem_range]
  exact ⟨a, ha, by simp only [Bool.not_eq_true, List.all_eq_false, List.mem_range]; exact ⟨b, hb, decide_eq_false (by omega)⟩⟩

set_option maxHeartbeats 4000000 in
set_option maxRecDepth 100000 in
theorem joinsEachTwo_any (R : Nat → Nat → Bool) (hR : PosR R) (n : Nat) (hn : n ≤ 6) (w : World) : Calls Try.prog 77 #[.agg (cellsI (ladR R)), .int .i64 n] w (BoolOf w (eachR R n)) := by
  have L0 : Lad (w.alloc (.cells (cellsI (ladR R)) 73)) w.heap.size 73 (ladR R) := Lad.new _ _ _
  have b0 : Below w.heap.size w (w.alloc (.cells (cellsI (ladR R)) 73)) := (Below.refl _ _).alloc (Nat.le_refl _) _
  have HJ := Lib.hid fun (k j : Nat) (hk : k < 6) (hj : j < 6) W => joined_any R hR k j hk hj W
  simp only [cells6 (ladR_len R)] at HJ
  have F : Hid (∀ k j : Nat, decide (0 ≤ leastT R (bothR R k j)) = decide (0 ≤ leastT R (bothR R k j))) := Lib.hid fun _ _ => rfl
  rw [cells6 (ladR_len R)] at L0 b0 ⊢
  go_enter Try.func77, Try.ntmps77
  go_wp2_with fail
  generalize w.alloc _ = W at L0 b0 ⊢
  go_loopw [8] (fun i wr => ∃ k : Nat, k ≤ n ∧ i = .int .i64 k ∧ ((List.range k).all fun a => (List.range a).all fun b => decide (0 ≤ leastT R (bothR R a b))) = true ∧ Lad wr w.heap.size 73 (ladR R) ∧ Below w.heap.size w wr) (fun i _ => n - (intOf i).toNat)
  case atStart => exact ⟨0, Nat.zero_le _, rfl, rfl, L0, b0⟩
  case round =>
    obtain ⟨k, hk, rfl, hA, l1, b1⟩ := hrel
    have HA := Lib.hid hA
    clear L0 b0 hA
    by_cases hlt : k < n
    · have no : Hid (∀ j, j < k → leastT R (bothR R k j) < 0 → eachR R n = false) := Lib.hid fun j hj h => eachR_no hlt hj h
      go_wp2_with fail
      obtain ⟨wo, rfl⟩ : ∃ x, x = wr := ⟨_, rfl⟩
      go_loopw [12] (fun i wr => ∃ j : Nat, j ≤ k ∧ i = .int .i64 j ∧ ((List.range j).all fun b => decide (0 ≤ leastT R (bothR R k b))) = true ∧ Lad wr w.heap.size 73 (ladR R) ∧ Below w.heap.size w wr) (fun i _ => k - (intOf i).toNat)
      case atStart => exact ⟨0, Nat.zero_le _, rfl, rfl, l1, b1⟩
      case round =>
        obtain ⟨j, hj, rfl, hC, l2, b2⟩ := hrel
        have HC := Lib.hid hC
        clear l1 b1 hC
        by_cases hjl : j < k
        · have J := Lib.hid (HJ.out k j (by omega) (by omega) wr)
          obtain ⟨a0, a1, a2, a3, a4, a5⟩ := l2.reads
          by_cases p : leastT R (bothR R k j) < 0
          · have HE : Hid (eachR R n = false) := Lib.hid (no.out j hjl p)
            generalize leastT R (bothR R k j) = t at J p
            go_wp2_with fail
            refine J.out.mono ?_
            rintro e w3 ⟨rfl, hb3⟩
            go_wp2_with fail
            go_ret
            exact ⟨by rw [HE.out]; rfl, below_then b2 hb3 (Nat.le_refl _)⟩
          · have HR : Hid (((List.range (j + 1)).all fun b => decide (0 ≤ leastT R (bothR R k b))) = true) := Lib.hid (all_succ HC.out (decide_eq_true (by omega)))
            generalize leastT R (bothR R k j) = t at J p
            go_wp2_with fail
            refine J.out.mono ?_
            rintro e w3 ⟨rfl, hb3⟩
            have l3 := l2.below hb3 l2.lt
            have b3 := below_then b2 hb3 (Nat.le_refl _)
            go_wp2_with fail
            go_roundw
            case rel => exact ⟨j + 1, by omega, by go_num, HR.out, l3, b3⟩
            case measure => simp [intOf]; omega
        · obtain rfl : j = k := by omega
          have HR : Hid (((List.range (j + 1)).all fun a => (List.range a).all fun b => decide (0 ≤ leastT R (bothR R a b))) = true) := Lib.hid (all_succ HA.out HC.out)
          go_wp2_with fail
          go_roundw
          case rel => exact ⟨j + 1, by omega, by go_num, HR.out, l2, b2⟩
          case measure => simp [intOf]; omega
    · obtain rfl : k = n := by omega
      have HE : Hid (eachR R k = true) := Lib.hid HA.out
      go_wp2_with fail
      go_ret
      exact ⟨by rw [HE.out]; rfl, b1⟩

/-- The ladder that latticeOf hands back. -/
def latR (us : List Int) : Nat → Nat → Bool := if latS us then upR us else zeroR

set_option maxHeartbeats 4000000 in
set_option maxRecDepth 100000 in
theorem latticeOf_tt (B : Nat) (v : Value) (us : List Int) (w : World) (hs : SeeI w B v us) (hB : B ≤ w.heap.size) (ho : ordI us = true) (d : Bool) (hu : eachR (upR us) us.length = true) (hd : eachR (dnR us) us.length = true) :
    Calls Try.prog 67 #[.agg #[v]] w (LadOut w (ladR (upR us)) true) := by
  obtain ⟨A, c, rfl⟩ := hs.shape
  have hm := hs.1
  have hP := (ordI_iff us).1 ho
  have HL := Lib.hid hP.len
  have HU := Lib.hid fun W => joinsEachTwo_any (upR us) (pos_up hP) us.length HL.out.2 W
  have HD := Lib.hid fun W => joinsEachTwo_any (dnR us) (pos_dn hP) us.length HL.out.2 W
  have T1 := Lib.hid (fun W => turned_any (upR us) W)
  rw [hu] at HU
  rw [hd] at HD
  simp only [cells6 (ladR_len (upR us))] at HU T1
  simp only [cells6 (ladR_len (dnR us))] at HD
  simp only [cells6 (ladR_len (turnR (upR us) 6))] at T1
  clear hP hu hd
  go_enter Try.func67, Try.ntmps67
  go_wp2_with fail
  refine (ladderOf_t B _ us _ ((hs.alloc hB _).alloc (by simp; omega) _) (by simp; omega) ho).mono ?_
  rintro e w1 ⟨rfl, hb1⟩
  have g1 := hb1.size
  simp at g1
  have l0 := Lad.new w1 73 (ladR (upR us))
  have l1 : Lad (w1.alloc (.cells (cellsI (ladR (upR us))) 73)) (w.heap.size + 1) 73 (ladR zeroR) := Lad.alloc (by
    have := (Lad.new (w.alloc (.cells #[.slice A us.length c] 30)) 73 (ladR zeroR))
    rw [World.size_alloc, cells0] at this
    exact this.below hb1 (by simp)) _
  have lo : (w1.alloc (.cells (cellsI (ladR (upR us))) 73)).cell? ⟨w.heap.size, 0, none⟩ = some (.slice A us.length c) := by
    rw [World.cell?_alloc_lt _ _ _ (by simp; omega), (old_reads hb1).1 _ _ (by simp; omega)]
    rw [World.cell?_alloc_lt _ _ _ (by simp)]
    exact cell_of_row _ _ 0 _ _ (0, 0) (heap_alloc_new _ _)
  have b0 : Below w.heap.size w (w1.alloc (.cells (cellsI (ladR (upR us))) 73)) := ((((Below.refl _ _).alloc (Nat.le_refl _) _).alloc (by simp) _).trans (hb1.mono (by simp; omega))).alloc (by omega) _
  rw [cells6 (ladR_len (upR us))] at l0 l1 lo b0 ⊢
  clear hb1
  go_wp2_with fail
  generalize hW : w1.alloc _ = W0 at l0 l1 lo b0 ⊢
  clear hW
  refine (rankCount_any _ _ _ hm _).mono ?_
  rintro e w2 ⟨rfl, hb2⟩
  have k0 := l0.below hb2 l0.lt
  have k1 := l1.below hb2 l1.lt
  have b2 := below_then b0 hb2 (Nat.le_refl _)
  clear l0 l1 lo b0 hb2
  obtain ⟨a0, a1, a2, a3, a4, a5⟩ := k0.reads
  go_wp2_with fail
  refine (HU.out _).mono ?_
  rintro e w3 ⟨rfl, hb3⟩
  have m0 := k0.below hb3 k0.lt
  have m1 := k1.below hb3 k1.lt
  have b3 := below_then b2 hb3 (Nat.le_refl _)
  clear k0 k1 b2 hb3 a0 a1 a2 a3 a4 a5
  obtain ⟨a0, a1, a2, a3, a4, a5⟩ := m0.reads
  skip
  go_wp2_with fail
  refine (T1.out _).mono ?_; rintro e w4 ⟨rfl, hb4⟩; have n0 := m0.below hb4 m0.lt; have n1 := m1.below hb4 m1.lt; have b4 := below_then b3 hb4 (Nat.le_refl _); clear m0 m1 b3 hb4 a0 a1 a2 a3 a4 a5; go_wp2_with fail; refine (HD.out _).mono ?_; rintro e w5 ⟨rfl, hb5⟩; have m0 := n0.below hb5 n0.lt; have m1 := n1.below hb5 n1.lt; have b3 := below_then b4 hb5 (Nat.le_refl _); clear n0 n1 b4 hb5; obtain ⟨a0, a1, a2, a3, a4, a5⟩ := m0.reads; obtain ⟨c0, c1, c2, c3, c4, c5⟩ := m1.six (ladR_len _); obtain ⟨f0, f1, f2, f3, f4, f5⟩ := m1.free; go_wp2_with fail
  refine bodyPost_ret (v := .tuple #[.agg (cellsI (ladR (upR us))), .bool true]) (by rw [cells6 (ladR_len (upR us))]; simp [results, Try.results67, go_sem, c0, c1, c2, c3, c4, c5]) rfl ⟨rfl, ?_⟩
  (repeat refine Below.setCell ?_ (by simp) _)
  exact b3

set_option maxHeartbeats 4000000 in
set_option maxRecDepth 100000 in
theorem latticeOf_tf (B : Nat) (v : Value) (us : List Int) (w : World) (hs : SeeI w B v us) (hB : B ≤ w.heap.size) (ho : ordI us = true) (d : Bool) (hu : eachR (upR us) us.length = true) (hd : eachR (dnR us) us.length = false) :
    Calls Try.prog 67 #[.agg #[v]] w (LadOut w (ladR zeroR) false) := by
  obtain ⟨A, c, rfl⟩ := hs.shape
  have hm := hs.1
  have hP := (ordI_iff us).1 ho
  have HL := Lib.hid hP.len
  have HU := Lib.hid fun W => joinsEachTwo_any (upR us) (pos_up hP) us.length HL.out.2 W
  have HD := Lib.hid fun W => joinsEachTwo_any (dnR us) (pos_dn hP) us.length HL.out.2 W
  have T1 := Lib.hid (fun W => turned_any (upR us) W)
  rw [hu] at HU
  rw [hd] at HD
  simp only [cells6 (ladR_len (upR us))] at HU T1
  simp only [cells6 (ladR_len (dnR us))] at HD
  simp only [cells6 (ladR_len (turnR (upR us) 6))] at T1
  clear hP hu hd
  go_enter Try.func67, Try.ntmps67
  go_wp2_with fail
  refine (ladderOf_t B _ us _ ((hs.alloc hB _).alloc (by simp; omega) _) (by simp; omega) ho).mono ?_
  rintro e w1 ⟨rfl, hb1⟩
  have g1 := hb1.size
  simp at g1
  have l0 := Lad.new w1 73 (ladR (upR us))
  have l1 : Lad (w1.alloc (.cells (cellsI (ladR (upR us))) 73)) (w.heap.size + 1) 73 (ladR zeroR) := Lad.alloc (by
    have := (Lad.new (w.alloc (.cells #[.slice A us.length c] 30)) 73 (ladR zeroR))
    rw [World.size_alloc, cells0] at this
    exact this.below hb1 (by simp)) _
  have lo : (w1.alloc (.cells (cellsI (ladR (upR us))) 73)).cell? ⟨w.heap.size, 0, none⟩ = some (.slice A us.length c) := by
    rw [World.cell?_alloc_lt _ _ _ (by simp; omega), (old_reads hb1).1 _ _ (by simp; omega)]
    rw [World.cell?_alloc_lt _ _ _ (by simp)]
    exact cell_of_row _ _ 0 _ _ (0, 0) (heap_alloc_new _ _)
  have b0 : Below w.heap.size w (w1.alloc (.cells (cellsI (ladR (upR us))) 73)) := ((((Below.refl _ _).alloc (Nat.le_refl _) _).alloc (by simp) _).trans (hb1.mono (by simp; omega))).alloc (by omega) _
  rw [cells6 (ladR_len (upR us))] at l0 l1 lo b0 ⊢
  clear hb1
  go_wp2_with fail
  generalize hW : w1.alloc _ = W0 at l0 l1 lo b0 ⊢
  clear hW
  refine (rankCount_any _ _ _ hm _).mono ?_
  rintro e w2 ⟨rfl, hb2⟩
  have k0 := l0.below hb2 l0.lt
  have k1 := l1.below hb2 l1.lt
  have b2 := below_then b0 hb2 (Nat.le_refl _)
  clear l0 l1 lo b0 hb2
  obtain ⟨a0, a1, a2, a3, a4, a5⟩ := k0.reads
  go_wp2_with fail
  refine (HU.out _).mono ?_
  rintro e w3 ⟨rfl, hb3⟩
  have m0 := k0.below hb3 k0.lt
  have m1 := k1.below hb3 k1.lt
  have b3 := below_then b2 hb3 (Nat.le_refl _)
  clear k0 k1 b2 hb3 a0 a1 a2 a3 a4 a5
  obtain ⟨a0, a1, a2, a3, a4, a5⟩ := m0.reads
  skip
  go_wp2_with fail
  refine (T1.out _).mono ?_; rintro e w4 ⟨rfl, hb4⟩; have n0 := m0.below hb4 m0.lt; have n1 := m1.below hb4 m1.lt; have b4 := below_then b3 hb4 (Nat.le_refl _); clear m0 m1 b3 hb4 a0 a1 a2 a3 a4 a5; go_wp2_with fail; refine (HD.out _).mono ?_; rintro e w5 ⟨rfl, hb5⟩; have m0 := n0.below hb5 n0.lt; have m1 := n1.below hb5 n1.lt; have b3 := below_then b4 hb5 (Nat.le_refl _); clear n0 n1 b4 hb5; obtain ⟨a0, a1, a2, a3, a4, a5⟩ := m0.reads; obtain ⟨c0, c1, c2, c3, c4, c5⟩ := m1.six (ladR_len _); obtain ⟨f0, f1, f2, f3, f4, f5⟩ := m1.free; go_wp2_with fail
  refine bodyPost_ret (v := .tuple #[.agg (cellsI (ladR zeroR)), .bool false]) (by rw [cells0]; simp [results, Try.results67, go_sem, c0, c1, c2, c3, c4, c5]) rfl ⟨rfl, ?_⟩
  (repeat refine Below.setCell ?_ (by simp) _)
  exact b3

set_option maxHeartbeats 4000000 in
set_option maxRecDepth 100000 in
theorem latticeOf_f (B : Nat) (v : Value) (us : List Int) (w : World) (hs : SeeI w B v us) (hB : B ≤ w.heap.size) (ho : ordI us = true) (d : Bool) (hu : eachR (upR us) us.length = false) (hd : eachR (dnR us) us.length = d) :
    Calls Try.prog 67 #[.agg #[v]] w (LadOut w (ladR zeroR) false) := by
  obtain ⟨A, c, rfl⟩ := hs.shape
  have hm := hs.1
  have hP := (ordI_iff us).1 ho
  have HL := Lib.hid hP.len
  have HU := Lib.hid fun W => joinsEachTwo_any (upR us) (pos_up hP) us.length HL.out.2 W
  have HD := Lib.hid fun W => joinsEachTwo_any (dnR us) (pos_dn hP) us.length HL.out.2 W
  have T1 := Lib.hid (fun W => turned_any (upR us) W)
  rw [hu] at HU
  rw [hd] at HD
  simp only [cells6 (ladR_len (upR us))] at HU T1
  simp only [cells6 (ladR_len (dnR us))] at HD
  simp only [cells6 (ladR_len (turnR (upR us) 6))] at T1
  clear hP hu hd
  go_enter Try.func67, Try.ntmps67
  go_wp2_with fail
  refine (ladderOf_t B _ us _ ((hs.alloc hB _).alloc (by simp; omega) _) (by simp; omega) ho).mono ?_
  rintro e w1 ⟨rfl, hb1⟩
  have g1 := hb1.size
  simp at g1
  have l0 := Lad.new w1 73 (ladR (upR us))
  have l1 : Lad (w1.alloc (.cells (cellsI (ladR (upR us))) 73)) (w.heap.size + 1) 73 (ladR zeroR) := Lad.alloc (by
    have := (Lad.new (w.alloc (.cells #[.slice A us.length c] 30)) 73 (ladR zeroR))
    rw [World.size_alloc, cells0] at this
    exact this.below hb1 (by simp)) _
  have lo : (w1.alloc (.cells (cellsI (ladR (upR us))) 73)).cell? ⟨w.heap.size, 0, none⟩ = some (.slice A us.length c) := by
    rw [World.cell?_alloc_lt _ _ _ (by simp; omega), (old_reads hb1).1 _ _ (by simp; omega)]
    rw [World.cell?_alloc_lt _ _ _ (by simp)]
    exact cell_of_row _ _ 0 _ _ (0, 0) (heap_alloc_new _ _)
  have b0 : Below w.heap.size w (w1.alloc (.cells (cellsI (ladR (upR us))) 73)) := ((((Below.refl _ _).alloc (Nat.le_refl _) _).alloc (by simp) _).trans (hb1.mono (by simp; omega))).alloc (by omega) _
  rw [cells6 (ladR_len (upR us))] at l0 l1 lo b0 ⊢
  clear hb1
  go_wp2_with fail
  generalize hW : w1.alloc _ = W0 at l0 l1 lo b0 ⊢
  clear hW
  refine (rankCount_any _ _ _ hm _).mono ?_
  rintro e w2 ⟨rfl, hb2⟩
  have k0 := l0.below hb2 l0.lt
  have k1 := l1.below hb2 l1.lt
  have b2 := below_then b0 hb2 (Nat.le_refl _)
  clear l0 l1 lo b0 hb2
  obtain ⟨a0, a1, a2, a3, a4, a5⟩ := k0.reads
  go_wp2_with fail
  refine (HU.out _).mono ?_
  rintro e w3 ⟨rfl, hb3⟩
  have m0 := k0.below hb3 k0.lt
  have m1 := k1.below hb3 k1.lt
  have b3 := below_then b2 hb3 (Nat.le_refl _)
  clear k0 k1 b2 hb3 a0 a1 a2 a3 a4 a5
  obtain ⟨a0, a1, a2, a3, a4, a5⟩ := m0.reads
  obtain ⟨c0, c1, c2, c3, c4, c5⟩ := m1.six (ladR_len _); obtain ⟨f0, f1, f2, f3, f4, f5⟩ := m1.free
  go_wp2_with fail
  skip
  refine bodyPost_ret (v := .tuple #[.agg (cellsI (ladR zeroR)), .bool false]) (by rw [cells0]; simp [results, Try.results67, go_sem, c0, c1, c2, c3, c4, c5]) rfl ⟨rfl, ?_⟩
  (repeat refine Below.setCell ?_ (by simp) _)
  exact b3

theorem latticeOf_no (B : Nat) (v : Value) (us : List Int) (w : World) (hs : SeeI w B v us) (hB : B ≤ w.heap.size) (ho : ordI us = false) : Calls Try.prog 67 #[.agg #[v]] w (LadOut w (ladR zeroR) false) := by
  obtain ⟨A, c, rfl⟩ := hs.shape
  have hm := hs.1
  go_enter Try.func67, Try.ntmps67
  go_wp2_with fail
  refine (ladderOf_f B _ us _ ((hs.alloc hB _).alloc (by simp; omega) _) (by simp; omega) ho).mono ?_
  rintro e w1 ⟨rfl, hb1⟩
  have g1 := hb1.size
  simp at g1
  have l0 := Lad.new w1 73 (ladR zeroR)
  have l1 : Lad (w1.alloc (.cells (cellsI (ladR zeroR)) 73)) (w.heap.size + 1) 73 (ladR zeroR) := Lad.alloc (by
    have := (Lad.new (w.alloc (.cells #[.slice A us.length c] 30)) 73 (ladR zeroR))
    rw [World.size_alloc, cells0] at this
    exact this.below hb1 (by simp)) _
  have lo : (w1.alloc (.cells (cellsI (ladR zeroR)) 73)).cell? ⟨w.heap.size, 0, none⟩ = some (.slice A us.length c) := by
    rw [World.cell?_alloc_lt _ _ _ (by simp; omega), (old_reads hb1).1 _ _ (by simp; omega)]
    rw [World.cell?_alloc_lt _ _ _ (by simp)]
    exact cell_of_row _ _ 0 _ _ (0, 0) (heap_alloc_new _ _)
  have b0 : Below w.heap.size w (w1.alloc (.cells (cellsI (ladR zeroR)) 73)) := ((((Below.refl _ _).alloc (Nat.le_refl _) _).alloc (by simp) _).trans (hb1.mono (by simp; omega))).alloc (by omega) _
  rw [cells0] at l0 l1 lo b0 ⊢
  clear hb1
  go_wp2_with fail
  generalize hW : w1.alloc _ = W0 at l0 l1 lo b0 ⊢
  clear hW
  refine (rankCount_any _ _ _ hm _).mono ?_
  rintro e w2 ⟨rfl, hb2⟩
  have m1 := l1.below hb2 l1.lt
  have b3 := below_then b0 hb2 (Nat.le_refl _)
  clear l0 l1 lo b0 hb2
  obtain ⟨c0, c1, c2, c3, c4, c5⟩ := m1.six (ladR_len _)
  obtain ⟨f0, f1, f2, f3, f4, f5⟩ := m1.free
  go_wp2_with fail
  refine bodyPost_ret (v := .tuple #[.agg (cellsI (ladR zeroR)), .bool false]) (by rw [cells0]; simp [results, Try.results67, go_sem, c0, c1, c2, c3, c4, c5]) rfl ⟨rfl, ?_⟩
  (repeat refine Below.setCell ?_ (by simp) _)
  exact b3

theorem latticeOf_any (B : Nat) (v : Value) (us : List Int) (w : World) (hs : SeeI w B v us) (hB : B ≤ w.heap.size) : Calls Try.prog 67 #[.agg #[v]] w (LadOut w (ladR (latR us)) (latS us)) := by
  cases ho : ordI us
  · have e : latS us = false := by simp [latS, ← ordI_eq, ho]
    simp only [latR, e]
    exact latticeOf_no B v us w hs hB ho
  · have hS : ordS us = true := by rw [← ordI_eq, ho]
    cases hu : eachR (upR us) us.length
    · have e : latS us = false := by simp [latS, hu]
      simp only [latR, e]
      exact latticeOf_f B v us w hs hB ho _ hu rfl
    · cases hd : eachR (dnR us) us.length
      · have e : latS us = false := by simp [latS, hd]
        simp only [latR, e]
        exact latticeOf_tf B v us w hs hB ho true hu hd
      · have e : latS us = true := by simp [latS, hS, hu, hd]
        simp only [latR, e]
        exact latticeOf_tt B v us w hs hB ho true hu hd

set_option maxHeartbeats 1000000 in
theorem iLatticeOk_any (B : Nat) (v : Value) (us : List Int) (w : World) (hs : SeeI w B v us) (hB : B ≤ w.heap.size) : Calls Try.prog 54 #[.agg #[v]] w (BoolOf w (latS us)) := by
  obtain ⟨A, c, rfl⟩ := hs.shape
  go_enter Try.func54, Try.ntmps54
  go_wp2_with fail
  refine (latticeOf_any B _ us _ (hs.alloc hB _) (by simp; omega)).mono ?_
  rintro e w1 ⟨rfl, hb1⟩
  rw [cells6 (ladR_len _)]
  go_wp2_with fail
  go_ret
  exact ⟨rfl, (below_then ((Below.refl _ _).alloc (Nat.le_refl _) _) hb1 (Nat.le_refl _)).alloc (by have := hb1.size; simp at this; omega) _⟩

end Go.Proofs.Ytigcbegeaikfcaa
