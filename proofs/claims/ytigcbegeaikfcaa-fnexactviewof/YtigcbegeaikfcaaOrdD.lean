/- ladderOf: an Order's ladder, and whether it keeps the laws of orders. -/
import Derived.Test.YtigcbegeaikfcaaOrdC
import Derived.Test.YtigcbegeaikfcaaLowA
namespace Go.Proofs.Ytigcbegeaikfcaa
open Go.RowKit
set_option linter.unusedVariables false

theorem Lad.reads {w : World} {g : Nat} {t : TypeId} {R : Nat → Nat → Bool} (h : Lad w g t (ladR R)) :
    w.cell? ⟨g, 0, none⟩ = some (.int .i64 ((ladR R)[0]?.getD 0)) ∧ w.cell? ⟨g, 1, none⟩ = some (.int .i64 ((ladR R)[1]?.getD 0)) ∧ w.cell? ⟨g, 2, none⟩ = some (.int .i64 ((ladR R)[2]?.getD 0)) ∧
    w.cell? ⟨g, 3, none⟩ = some (.int .i64 ((ladR R)[3]?.getD 0)) ∧ w.cell? ⟨g, 4, none⟩ = some (.int .i64 ((ladR R)[4]?.getD 0)) ∧ w.cell? ⟨g, 5, none⟩ = some (.int .i64 ((ladR R)[5]?.getD 0)) := by
  have := h.six (ladR_len R)
  simpa using this

set_option maxHeartbeats 4000000 in
set_option maxRecDepth 100000 in
theorem ladderOf_yes (B : Nat) (v : Value) (us : List Int) (w : World) (hs : SeeI w B v us) (hB : B ≤ w.heap.size) (h : laidB us = true) (h1 :  ladR (inBothR (upR us) (turnR (upR us) 6) 6) = ladR (selfR us.length)) (h2 :  ladR (furR (upR us) 6) = ladR (upR us)) :
    Calls Try.prog 72 #[.agg #[v]] w (LadOut w (ladR (upR us)) true) := by
  obtain ⟨A, c, rfl⟩ := hs.shape
  have hm := hs.1
  have HL : Hid (us.length ≤ 6) := Lib.hid (by simp only [laidB, Bool.and_eq_true, decide_eq_true_eq] at h; exact h.1.2)
  have n1 : ∀ W, (binOp .neq 73 (.agg (cellsI (ladR (inBothR (upR us) (turnR (upR us) 6) 6)))) (.agg (cellsI (ladR (selfR us.length))))).run Try.prog W = .ok (.bool false) W := fun W => by
    rw [neq_lad (ladR_len _) (ladR_len _)]; simp [h1]
  have n2 : ∀ W, (binOp .neq 73 (.agg (cellsI (ladR (furR (upR us) 6)))) (.agg (cellsI (ladR (upR us))))).run Try.prog W = .ok (.bool false) W := fun W => by
    rw [neq_lad (ladR_len _) (ladR_len _)]; simp [h2]
  have t1 := fun W => turned_any (upR us) W
  have t2 := fun W => inBoth_any (upR us) (turnR (upR us) 6) W
  have t3 := fun W => further_any (upR us) W
  clear h1 h2
  have hl := laidOut_yes B (.slice A us.length c) us
  generalize upR us = R at *
  simp only [cells6 (ladR_len R)] at n2 t1 t2 t3
  have N1 := Lib.hid n1
  have N2 := Lib.hid n2
  have T1 := Lib.hid t1
  have T2 := Lib.hid t2
  have T3 := Lib.hid t3
  have HLL := Lib.hid hl
  clear n1 n2 t1 t2 t3 hl
  go_enter Try.func72, Try.ntmps72
  go_wp2_with fail
  refine (HLL.out _ ((hs.alloc hB _).alloc (by simp; omega) _) (by simp; omega) h).mono ?_
  clear HLL
  rintro e w1 ⟨rfl, hb1⟩
  rw [cells6 (ladR_len R)]
  have g1 := hb1.size
  simp at g1
  obtain ⟨r1, r2, -⟩ := old_reads hb1
  go_wp2_with fail
  have l0 := Lad.new w1 73 (ladR R)
  have l1 : Lad (w1.alloc (.cells (cellsI (ladR R)) 73)) (w.heap.size + 1) 73 (ladR zeroR) := Lad.alloc (by
    have := (Lad.new (w.alloc (.cells #[.slice A us.length c] 30)) 73 (ladR zeroR))
    rw [World.size_alloc, cells0] at this
    exact this.below hb1 (by simp)) _
  have lo : (w1.alloc (.cells (cellsI (ladR R)) 73)).cell? ⟨w.heap.size, 0, none⟩ = some (.slice A us.length c) := by
    rw [World.cell?_alloc_lt _ _ _ (by simp; omega), r1 _ _ (by simp; omega)]
    rw [World.cell?_alloc_lt _ _ _ (by simp)]
    exact cell_of_row _ _ 0 _ _ (0, 0) (heap_alloc_new _ _)
  have b0 : Below w.heap.size w (w1.alloc (.cells (cellsI (ladR R)) 73)) := ((((Below.refl _ _).alloc (Nat.le_refl _) _).alloc (by simp) _).trans (hb1.mono (by simp; omega))).alloc (by omega) _
  rw [cells6 (ladR_len R)] at l0 l1 lo b0
  clear r1 r2 hb1
  generalize hW : w1.alloc _ = W0 at l0 l1 lo b0 ⊢
  clear hW
  obtain ⟨a0, a1, a2, a3, a4, a5⟩ := l0.reads
  have d := later_cell lo
  have d0 := later_cell a0
  have d1 := later_cell a1
  have d2 := later_cell a2
  have d3 := later_cell a3
  have d4 := later_cell a4
  have d5 := later_cell a5
  have n1 := N1.out
  have n2 := N2.out
  refine region_later (by kernel_rfl) (by kernel_rfl) ?_
  repeat (go_big_quiet_step (first | (go_at_call 78; exact later_call (T1.out _)) | (go_at_call 80; exact later_call (T2.out _)) | (go_at_call 82; exact later_call (T3.out _)) | (go_at_call 71; exact later_call (rankCount_any _ _ _ hm _)) | (go_at_call 81; exact later_call (selves_any _ HL.out _))))
  refine wpQuiet_nil ?_
  rintro _ ⟨⟨w2, hbk⟩, rfl⟩
  clear N1 N2 T1 T2 T3 n1 n2 lo d d0 d1 d2 d3 d4 d5 a0 a1 a2 a3 a4 a5
  have l0' := l0.below hbk l0.lt
  have l1' := l1.below hbk l1.lt
  have b0' := below_then b0 hbk (Nat.le_refl _)
  clear l0 l1 b0 hbk
  obtain ⟨a0, a1, a2, a3, a4, a5⟩ := l0'.reads
  obtain ⟨c0, c1, c2, c3, c4, c5⟩ := l1'.six (ladR_len _)
  obtain ⟨f0, f1, f2, f3, f4, f5⟩ := l1'.free
  go_wp2_with fail
  refine bodyPost_ret (v := .tuple #[.agg (cellsI (ladR R)), .bool true]) (by rw [cells6 (ladR_len R)]; simp [results, Try.results72, go_sem, c0, c1, c2, c3, c4, c5]) rfl ⟨rfl, ?_⟩
  (repeat refine Below.setCell ?_ (by simp) _)
  exact b0'

set_option maxHeartbeats 4000000 in
set_option maxRecDepth 100000 in
theorem ladderOf_no2 (B : Nat) (v : Value) (us : List Int) (w : World) (hs : SeeI w B v us) (hB : B ≤ w.heap.size) (h : laidB us = true) (h1 :  ladR (inBothR (upR us) (turnR (upR us) 6) 6) = ladR (selfR us.length)) (h2 : ¬ ladR (furR (upR us) 6) = ladR (upR us)) :
    Calls Try.prog 72 #[.agg #[v]] w (LadOut w (ladR zeroR) false) := by
  obtain ⟨A, c, rfl⟩ := hs.shape
  have hm := hs.1
  have HL : Hid (us.length ≤ 6) := Lib.hid (by simp only [laidB, Bool.and_eq_true, decide_eq_true_eq] at h; exact h.1.2)
  have n1 : ∀ W, (binOp .neq 73 (.agg (cellsI (ladR (inBothR (upR us) (turnR (upR us) 6) 6)))) (.agg (cellsI (ladR (selfR us.length))))).run Try.prog W = .ok (.bool false) W := fun W => by
    rw [neq_lad (ladR_len _) (ladR_len _)]; simp [h1]
  have n2 : ∀ W, (binOp .neq 73 (.agg (cellsI (ladR (furR (upR us) 6)))) (.agg (cellsI (ladR (upR us))))).run Try.prog W = .ok (.bool true) W := fun W => by
    rw [neq_lad (ladR_len _) (ladR_len _)]; simp [h2]
  have t1 := fun W => turned_any (upR us) W
  have t2 := fun W => inBoth_any (upR us) (turnR (upR us) 6) W
  have t3 := fun W => further_any (upR us) W
  clear h1 h2
  have hl := laidOut_yes B (.slice A us.length c) us
  generalize upR us = R at *
  simp only [cells6 (ladR_len R)] at n2 t1 t2 t3
  have N1 := Lib.hid n1
  have N2 := Lib.hid n2
  have T1 := Lib.hid t1
  have T2 := Lib.hid t2
  have T3 := Lib.hid t3
  have HLL := Lib.hid hl
  clear n1 n2 t1 t2 t3 hl
  go_enter Try.func72, Try.ntmps72
  go_wp2_with fail
  refine (HLL.out _ ((hs.alloc hB _).alloc (by simp; omega) _) (by simp; omega) h).mono ?_
  clear HLL
  rintro e w1 ⟨rfl, hb1⟩
  rw [cells6 (ladR_len R)]
  have g1 := hb1.size
  simp at g1
  obtain ⟨r1, r2, -⟩ := old_reads hb1
  go_wp2_with fail
  have l0 := Lad.new w1 73 (ladR R)
  have l1 : Lad (w1.alloc (.cells (cellsI (ladR R)) 73)) (w.heap.size + 1) 73 (ladR zeroR) := Lad.alloc (by
    have := (Lad.new (w.alloc (.cells #[.slice A us.length c] 30)) 73 (ladR zeroR))
    rw [World.size_alloc, cells0] at this
    exact this.below hb1 (by simp)) _
  have lo : (w1.alloc (.cells (cellsI (ladR R)) 73)).cell? ⟨w.heap.size, 0, none⟩ = some (.slice A us.length c) := by
    rw [World.cell?_alloc_lt _ _ _ (by simp; omega), r1 _ _ (by simp; omega)]
    rw [World.cell?_alloc_lt _ _ _ (by simp)]
    exact cell_of_row _ _ 0 _ _ (0, 0) (heap_alloc_new _ _)
  have b0 : Below w.heap.size w (w1.alloc (.cells (cellsI (ladR R)) 73)) := ((((Below.refl _ _).alloc (Nat.le_refl _) _).alloc (by simp) _).trans (hb1.mono (by simp; omega))).alloc (by omega) _
  rw [cells6 (ladR_len R)] at l0 l1 lo b0
  clear r1 r2 hb1
  generalize hW : w1.alloc _ = W0 at l0 l1 lo b0 ⊢
  clear hW
  obtain ⟨a0, a1, a2, a3, a4, a5⟩ := l0.reads
  have d := later_cell lo
  have d0 := later_cell a0
  have d1 := later_cell a1
  have d2 := later_cell a2
  have d3 := later_cell a3
  have d4 := later_cell a4
  have d5 := later_cell a5
  have n1 := N1.out
  have n2 := N2.out
  refine region_later (by kernel_rfl) (by kernel_rfl) ?_
  repeat (go_big_quiet_step (first | (go_at_call 78; exact later_call (T1.out _)) | (go_at_call 80; exact later_call (T2.out _)) | (go_at_call 82; exact later_call (T3.out _)) | (go_at_call 71; exact later_call (rankCount_any _ _ _ hm _)) | (go_at_call 81; exact later_call (selves_any _ HL.out _))))
  refine wpQuiet_nil ?_
  rintro _ ⟨⟨w2, hbk⟩, rfl⟩
  clear N1 N2 T1 T2 T3 n1 n2 lo d d0 d1 d2 d3 d4 d5 a0 a1 a2 a3 a4 a5
  have l0' := l0.below hbk l0.lt
  have l1' := l1.below hbk l1.lt
  have b0' := below_then b0 hbk (Nat.le_refl _)
  clear l0 l1 b0 hbk
  obtain ⟨a0, a1, a2, a3, a4, a5⟩ := l0'.reads
  obtain ⟨c0, c1, c2, c3, c4, c5⟩ := l1'.six (ladR_len _)
  obtain ⟨f0, f1, f2, f3, f4, f5⟩ := l1'.free
  go_wp2_with fail
  refine bodyPost_ret (v := .tuple #[.agg (cellsI (ladR zeroR)), .bool false]) (by rw [cells0]; simp [results, Try.results72, go_sem, c0, c1, c2, c3, c4, c5]) rfl ⟨rfl, ?_⟩
  (repeat refine Below.setCell ?_ (by simp) _)
  exact b0'

set_option maxHeartbeats 4000000 in
set_option maxRecDepth 100000 in
theorem ladderOf_no1 (B : Nat) (v : Value) (us : List Int) (w : World) (hs : SeeI w B v us) (hB : B ≤ w.heap.size) (h : laidB us = true) (h1 : ¬ ladR (inBothR (upR us) (turnR (upR us) 6) 6) = ladR (selfR us.length)) (h2 :  ladR (furR (upR us) 6) = ladR (upR us)) :
    Calls Try.prog 72 #[.agg #[v]] w (LadOut w (ladR zeroR) false) := by
  obtain ⟨A, c, rfl⟩ := hs.shape
  have hm := hs.1
  have HL : Hid (us.length ≤ 6) := Lib.hid (by simp only [laidB, Bool.and_eq_true, decide_eq_true_eq] at h; exact h.1.2)
  have n1 : ∀ W, (binOp .neq 73 (.agg (cellsI (ladR (inBothR (upR us) (turnR (upR us) 6) 6)))) (.agg (cellsI (ladR (selfR us.length))))).run Try.prog W = .ok (.bool true) W := fun W => by
    rw [neq_lad (ladR_len _) (ladR_len _)]; simp [h1]
  have n2 : ∀ W, (binOp .neq 73 (.agg (cellsI (ladR (furR (upR us) 6)))) (.agg (cellsI (ladR (upR us))))).run Try.prog W = .ok (.bool false) W := fun W => by
    rw [neq_lad (ladR_len _) (ladR_len _)]; simp [h2]
  have t1 := fun W => turned_any (upR us) W
  have t2 := fun W => inBoth_any (upR us) (turnR (upR us) 6) W
  have t3 := fun W => further_any (upR us) W
  clear h1 h2
  have hl := laidOut_yes B (.slice A us.length c) us
  generalize upR us = R at *
  simp only [cells6 (ladR_len R)] at n2 t1 t2 t3
  have N1 := Lib.hid n1
  have N2 := Lib.hid n2
  have T1 := Lib.hid t1
  have T2 := Lib.hid t2
  have T3 := Lib.hid t3
  have HLL := Lib.hid hl
  clear n1 n2 t1 t2 t3 hl
  go_enter Try.func72, Try.ntmps72
  go_wp2_with fail
  refine (HLL.out _ ((hs.alloc hB _).alloc (by simp; omega) _) (by simp; omega) h).mono ?_
  clear HLL
  rintro e w1 ⟨rfl, hb1⟩
  rw [cells6 (ladR_len R)]
  have g1 := hb1.size
  simp at g1
  obtain ⟨r1, r2, -⟩ := old_reads hb1
  go_wp2_with fail
  have l0 := Lad.new w1 73 (ladR R)
  have l1 : Lad (w1.alloc (.cells (cellsI (ladR R)) 73)) (w.heap.size + 1) 73 (ladR zeroR) := Lad.alloc (by
    have := (Lad.new (w.alloc (.cells #[.slice A us.length c] 30)) 73 (ladR zeroR))
    rw [World.size_alloc, cells0] at this
    exact this.below hb1 (by simp)) _
  have lo : (w1.alloc (.cells (cellsI (ladR R)) 73)).cell? ⟨w.heap.size, 0, none⟩ = some (.slice A us.length c) := by
    rw [World.cell?_alloc_lt _ _ _ (by simp; omega), r1 _ _ (by simp; omega)]
    rw [World.cell?_alloc_lt _ _ _ (by simp)]
    exact cell_of_row _ _ 0 _ _ (0, 0) (heap_alloc_new _ _)
  have b0 : Below w.heap.size w (w1.alloc (.cells (cellsI (ladR R)) 73)) := ((((Below.refl _ _).alloc (Nat.le_refl _) _).alloc (by simp) _).trans (hb1.mono (by simp; omega))).alloc (by omega) _
  rw [cells6 (ladR_len R)] at l0 l1 lo b0
  clear r1 r2 hb1
  generalize hW : w1.alloc _ = W0 at l0 l1 lo b0 ⊢
  clear hW
  obtain ⟨a0, a1, a2, a3, a4, a5⟩ := l0.reads
  have d := later_cell lo
  have d0 := later_cell a0
  have d1 := later_cell a1
  have d2 := later_cell a2
  have d3 := later_cell a3
  have d4 := later_cell a4
  have d5 := later_cell a5
  have n1 := N1.out
  have n2 := N2.out
  refine region_later (by kernel_rfl) (by kernel_rfl) ?_
  repeat (go_big_quiet_step (first | (go_at_call 78; exact later_call (T1.out _)) | (go_at_call 80; exact later_call (T2.out _)) | (go_at_call 82; exact later_call (T3.out _)) | (go_at_call 71; exact later_call (rankCount_any _ _ _ hm _)) | (go_at_call 81; exact later_call (selves_any _ HL.out _))))
  refine wpQuiet_nil ?_
  rintro _ ⟨⟨w2, hbk⟩, rfl⟩
  clear N1 N2 T1 T2 T3 n1 n2 lo d d0 d1 d2 d3 d4 d5 a0 a1 a2 a3 a4 a5
  have l0' := l0.below hbk l0.lt
  have l1' := l1.below hbk l1.lt
  have b0' := below_then b0 hbk (Nat.le_refl _)
  clear l0 l1 b0 hbk
  obtain ⟨a0, a1, a2, a3, a4, a5⟩ := l0'.reads
  obtain ⟨c0, c1, c2, c3, c4, c5⟩ := l1'.six (ladR_len _)
  obtain ⟨f0, f1, f2, f3, f4, f5⟩ := l1'.free
  go_wp2_with fail
  refine bodyPost_ret (v := .tuple #[.agg (cellsI (ladR zeroR)), .bool false]) (by rw [cells0]; simp [results, Try.results72, go_sem, c0, c1, c2, c3, c4, c5]) rfl ⟨rfl, ?_⟩
  (repeat refine Below.setCell ?_ (by simp) _)
  exact b0'

set_option maxHeartbeats 4000000 in
set_option maxRecDepth 100000 in
theorem ladderOf_no0 (B : Nat) (v : Value) (us : List Int) (w : World) (hs : SeeI w B v us) (hB : B ≤ w.heap.size) (h : laidB us = true) (h1 : ¬ ladR (inBothR (upR us) (turnR (upR us) 6) 6) = ladR (selfR us.length)) (h2 : ¬ ladR (furR (upR us) 6) = ladR (upR us)) :
    Calls Try.prog 72 #[.agg #[v]] w (LadOut w (ladR zeroR) false) := by
  obtain ⟨A, c, rfl⟩ := hs.shape
  have hm := hs.1
  have HL : Hid (us.length ≤ 6) := Lib.hid (by simp only [laidB, Bool.and_eq_true, decide_eq_true_eq] at h; exact h.1.2)
  have n1 : ∀ W, (binOp .neq 73 (.agg (cellsI (ladR (inBothR (upR us) (turnR (upR us) 6) 6)))) (.agg (cellsI (ladR (selfR us.length))))).run Try.prog W = .ok (.bool true) W := fun W => by
    rw [neq_lad (ladR_len _) (ladR_len _)]; simp [h1]
  have n2 : ∀ W, (binOp .neq 73 (.agg (cellsI (ladR (furR (upR us) 6)))) (.agg (cellsI (ladR (upR us))))).run Try.prog W = .ok (.bool true) W := fun W => by
    rw [neq_lad (ladR_len _) (ladR_len _)]; simp [h2]
  have t1 := fun W => turned_any (upR us) W
  have t2 := fun W => inBoth_any (upR us) (turnR (upR us) 6) W
  have t3 := fun W => further_any (upR us) W
  clear h1 h2
  have hl := laidOut_yes B (.slice A us.length c) us
  generalize upR us = R at *
  simp only [cells6 (ladR_len R)] at n2 t1 t2 t3
  have N1 := Lib.hid n1
  have N2 := Lib.hid n2
  have T1 := Lib.hid t1
  have T2 := Lib.hid t2
  have T3 := Lib.hid t3
  have HLL := Lib.hid hl
  clear n1 n2 t1 t2 t3 hl
  go_enter Try.func72, Try.ntmps72
  go_wp2_with fail
  refine (HLL.out _ ((hs.alloc hB _).alloc (by simp; omega) _) (by simp; omega) h).mono ?_
  clear HLL
  rintro e w1 ⟨rfl, hb1⟩
  rw [cells6 (ladR_len R)]
  have g1 := hb1.size
  simp at g1
  obtain ⟨r1, r2, -⟩ := old_reads hb1
  go_wp2_with fail
  have l0 := Lad.new w1 73 (ladR R)
  have l1 : Lad (w1.alloc (.cells (cellsI (ladR R)) 73)) (w.heap.size + 1) 73 (ladR zeroR) := Lad.alloc (by
    have := (Lad.new (w.alloc (.cells #[.slice A us.length c] 30)) 73 (ladR zeroR))
    rw [World.size_alloc, cells0] at this
    exact this.below hb1 (by simp)) _
  have lo : (w1.alloc (.cells (cellsI (ladR R)) 73)).cell? ⟨w.heap.size, 0, none⟩ = some (.slice A us.length c) := by
    rw [World.cell?_alloc_lt _ _ _ (by simp; omega), r1 _ _ (by simp; omega)]
    rw [World.cell?_alloc_lt _ _ _ (by simp)]
    exact cell_of_row _ _ 0 _ _ (0, 0) (heap_alloc_new _ _)
  have b0 : Below w.heap.size w (w1.alloc (.cells (cellsI (ladR R)) 73)) := ((((Below.refl _ _).alloc (Nat.le_refl _) _).alloc (by simp) _).trans (hb1.mono (by simp; omega))).alloc (by omega) _
  rw [cells6 (ladR_len R)] at l0 l1 lo b0
  clear r1 r2 hb1
  generalize hW : w1.alloc _ = W0 at l0 l1 lo b0 ⊢
  clear hW
  obtain ⟨a0, a1, a2, a3, a4, a5⟩ := l0.reads
  have d := later_cell lo
  have d0 := later_cell a0
  have d1 := later_cell a1
  have d2 := later_cell a2
  have d3 := later_cell a3
  have d4 := later_cell a4
  have d5 := later_cell a5
  have n1 := N1.out
  have n2 := N2.out
  refine region_later (by kernel_rfl) (by kernel_rfl) ?_
  repeat (go_big_quiet_step (first | (go_at_call 78; exact later_call (T1.out _)) | (go_at_call 80; exact later_call (T2.out _)) | (go_at_call 82; exact later_call (T3.out _)) | (go_at_call 71; exact later_call (rankCount_any _ _ _ hm _)) | (go_at_call 81; exact later_call (selves_any _ HL.out _))))
  refine wpQuiet_nil ?_
  rintro _ ⟨⟨w2, hbk⟩, rfl⟩
  clear N1 N2 T1 T2 T3 n1 n2 lo d d0 d1 d2 d3 d4 d5 a0 a1 a2 a3 a4 a5
  have l0' := l0.below hbk l0.lt
  have l1' := l1.below hbk l1.lt
  have b0' := below_then b0 hbk (Nat.le_refl _)
  clear l0 l1 b0 hbk
  obtain ⟨a0, a1, a2, a3, a4, a5⟩ := l0'.reads
  obtain ⟨c0, c1, c2, c3, c4, c5⟩ := l1'.six (ladR_len _)
  obtain ⟨f0, f1, f2, f3, f4, f5⟩ := l1'.free
  go_wp2_with fail
  refine bodyPost_ret (v := .tuple #[.agg (cellsI (ladR zeroR)), .bool false]) (by rw [cells0]; simp [results, Try.results72, go_sem, c0, c1, c2, c3, c4, c5]) rfl ⟨rfl, ?_⟩
  (repeat refine Below.setCell ?_ (by simp) _)
  exact b0'

set_option maxHeartbeats 4000000 in
set_option maxRecDepth 100000 in
theorem ladderOf_bad (B : Nat) (v : Value) (us : List Int) (w : World) (hs : SeeI w B v us) (hB : B ≤ w.heap.size) (h : laidB us = false) :
    Calls Try.prog 72 #[.agg #[v]] w (LadOut w (ladR zeroR) false) := by
  obtain ⟨A, c, rfl⟩ := hs.shape
  go_enter Try.func72, Try.ntmps72
  go_wp2_with fail
  refine (laidOut_no B _ us _ ((hs.alloc hB _).alloc (by simp; omega) _) (by simp; omega) h).mono ?_
  rintro e w1 ⟨rfl, hb1⟩
  have g1 := hb1.size
  simp at g1
  obtain ⟨r1, r2, -⟩ := old_reads hb1
  rw [cells0]
  go_wp2_with fail
  have l1 : Lad (w1.alloc (.cells (cellsI (ladR zeroR)) 73)) (w.heap.size + 1) 73 (ladR zeroR) := Lad.alloc (by
    have := (Lad.new (w.alloc (.cells #[.slice A us.length c] 30)) 73 (ladR zeroR))
    rw [World.size_alloc, cells0] at this
    exact this.below hb1 (by simp)) _
  have b0 : Below w.heap.size w (w1.alloc (.cells (cellsI (ladR zeroR)) 73)) := ((((Below.refl _ _).alloc (Nat.le_refl _) _).alloc (by simp) _).trans (hb1.mono (by simp; omega))).alloc (by omega) _
  rw [cells0] at l1 b0
  clear r1 r2 hb1
  generalize hW : w1.alloc _ = W0 at l1 b0 ⊢
  clear hW
  refine region_later (by kernel_rfl) (by kernel_rfl) ?_
  repeat (go_big_quiet_step (fail))
  refine wpQuiet_nil ?_
  rintro _ ⟨⟨w2, hbk⟩, rfl⟩
  have l1' := l1.below hbk l1.lt
  have b0' := below_then b0 hbk (Nat.le_refl _)
  clear l1 b0 hbk
  obtain ⟨c0, c1, c2, c3, c4, c5⟩ := l1'.six (ladR_len _)
  obtain ⟨f0, f1, f2, f3, f4, f5⟩ := l1'.free
  go_wp2_with fail
  refine bodyPost_ret (v := .tuple #[.agg (cellsI (ladR zeroR)), .bool false]) (by rw [cells0]; simp [results, Try.results72, go_sem, c0, c1, c2, c3, c4, c5]) rfl ⟨rfl, ?_⟩
  (repeat refine Below.setCell ?_ (by simp) _)
  exact b0'

/-- Is it an order? (As the program asks it.) -/
def ordI (us : List Int) : Bool := laidB us && decide (ladR (inBothR (upR us) (turnR (upR us) 6) 6) = ladR (selfR us.length)) && decide (ladR (furR (upR us) 6) = ladR (upR us))

theorem ladderOf_t (B : Nat) (v : Value) (us : List Int) (w : World) (hs : SeeI w B v us) (hB : B ≤ w.heap.size) (h : ordI us = true) : Calls Try.prog 72 #[.agg #[v]] w (LadOut w (ladR (upR us)) true) := by
  simp only [ordI, Bool.and_eq_true, decide_eq_true_eq] at h
  exact ladderOf_yes B v us w hs hB h.1.1 h.1.2 h.2
theorem ladderOf_f (B : Nat) (v : Value) (us : List Int) (w : World) (hs : SeeI w B v us) (hB : B ≤ w.heap.size) (h : ordI us = false) : Calls Try.prog 72 #[.agg #[v]] w (LadOut w (ladR zeroR) false) := by
  cases h0 : laidB us
  · exact ladderOf_bad B v us w hs hB h0
  · by_cases h1 : ladR (inBothR (upR us) (turnR (upR us) 6) 6) = ladR (selfR us.length) <;> by_cases h2 : ladR (furR (upR us) 6) = ladR (upR us)
    · simp [ordI, h0, h1, h2] at h
    · exact ladderOf_no2 B v us w hs hB h0 h1 h2
    · exact ladderOf_no1 B v us w hs hB h0 h1 h2
    · exact ladderOf_no0 B v us w hs hB h0 h1 h2

end Go.Proofs.Ytigcbegeaikfcaa
