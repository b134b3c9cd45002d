/- The program's Join and Meet. -/
import Derived.Test.YtigcbegeaikfcaaHeapE
import Derived.Test.YtigcbegeaikfcaaLatM
namespace Go.Proofs.Ytigcbegeaikfcaa
open Go.RowKit
set_option linter.unusedVariables false

set_option maxHeartbeats 2000000 in
set_option maxRecDepth 100000 in
theorem joined_any (R : Nat → Nat → Bool) (hR : PosR R) (a b : Nat) (ha : a < 6) (hb : b < 6) (w : World) : Calls Try.prog 86 #[.agg (cellsI (ladR R)), .int .i64 a, .int .i64 b] w (IntOf w (leastT R (bothR R a b))) := by
  have hA : bits BinOp.and IntKind.i64 (setN (R a)) (setN (R b)) = setN (bothR R a b) := setN_and _ _
  have L0 : Lad (w.alloc (.cells (cellsI (ladR R)) 73)) w.heap.size 73 (ladR R) := Lad.new _ _ _
  have b0 : Below w.heap.size w (w.alloc (.cells (cellsI (ladR R)) 73)) := (Below.refl _ _).alloc (Nat.le_refl _) _
  have T1 := Lib.hid (fun W => leastOf_any R hR (bothR R a b) W)
  have ca := L0.cell (k := a) (by rw [ladR_len]; exact ha)
  have cb := L0.cell (k := b) (by rw [ladR_len]; exact hb)
  rw [ladR_at _ _ ha] at ca
  rw [ladR_at _ _ hb] at cb
  obtain ⟨a0, a1, a2, a3, a4, a5⟩ := L0.reads
  rw [cells6 (ladR_len R)] at a0 a1 a2 a3 a4 a5 ca cb b0 L0 ⊢
  simp only [cells6 (ladR_len R)] at T1
  have i1 : (a : Int) < 6 := by omega
  have i2 : (b : Int) < 6 := by omega
  clear L0
  go_enter Try.func86, Try.ntmps86
  go_wp2_with fail
  generalize w.alloc _ = W at a0 a1 a2 a3 a4 a5 ca cb b0 ⊢
  have d0 := later_cell a0
  have d1 := later_cell a1
  have d2 := later_cell a2
  have d3 := later_cell a3
  have d4 := later_cell a4
  have d5 := later_cell a5
  have da := later_cell ca
  have db := later_cell cb
  refine region_later (by kernel_rfl) (by kernel_rfl) ?_
  repeat (go_big_quiet_step ((go_at_call 90; exact later_call (T1.out _))))
  refine wpQuiet_nil ?_
  rintro _ ⟨⟨w2, hbk⟩, rfl⟩
  go_wp2_with fail
  go_ret
  exact ⟨rfl, below_then b0 hbk (Nat.le_refl _)⟩

end Go.Proofs.Ytigcbegeaikfcaa
