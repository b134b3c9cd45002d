/- Arrays of six sets compared; ladderOf. -/
import Derived.Test.YtigcbegeaikfcaaOrdA
namespace Go.Proofs.Ytigcbegeaikfcaa
open Go.RowKit
set_option linter.unusedVariables false

theorem part_0 (x0 x1 x2 x3 x4 x5 : Int) (W : World) : (part 71 #[.int .i64 x0, .int .i64 x1, .int .i64 x2, .int .i64 x3, .int .i64 x4, .int .i64 x5] 0).run Try.prog W = .ok (.int .i64 x0) W := by kernel_rfl
theorem part_1 (x0 x1 x2 x3 x4 x5 : Int) (W : World) : (part 71 #[.int .i64 x0, .int .i64 x1, .int .i64 x2, .int .i64 x3, .int .i64 x4, .int .i64 x5] 1).run Try.prog W = .ok (.int .i64 x1) W := by kernel_rfl
theorem part_2 (x0 x1 x2 x3 x4 x5 : Int) (W : World) : (part 71 #[.int .i64 x0, .int .i64 x1, .int .i64 x2, .int .i64 x3, .int .i64 x4, .int .i64 x5] 2).run Try.prog W = .ok (.int .i64 x2) W := by kernel_rfl
theorem part_3 (x0 x1 x2 x3 x4 x5 : Int) (W : World) : (part 71 #[.int .i64 x0, .int .i64 x1, .int .i64 x2, .int .i64 x3, .int .i64 x4, .int .i64 x5] 3).run Try.prog W = .ok (.int .i64 x3) W := by kernel_rfl
theorem part_4 (x0 x1 x2 x3 x4 x5 : Int) (W : World) : (part 71 #[.int .i64 x0, .int .i64 x1, .int .i64 x2, .int .i64 x3, .int .i64 x4, .int .i64 x5] 4).run Try.prog W = .ok (.int .i64 x4) W := by kernel_rfl
theorem part_5 (x0 x1 x2 x3 x4 x5 : Int) (W : World) : (part 71 #[.int .i64 x0, .int .i64 x1, .int .i64 x2, .int .i64 x3, .int .i64 x4, .int .i64 x5] 5).run Try.prog W = .ok (.int .i64 x5) W := by kernel_rfl

set_option maxHeartbeats 400000 in
theorem equal6 (d : Nat) (x0 x1 x2 x3 x4 x5 y0 y1 y2 y3 y4 y5 : Int) (W : World) :
    (Op.equalIn (d + 1 + 1) 73 (.agg #[.int .i64 x0, .int .i64 x1, .int .i64 x2, .int .i64 x3, .int .i64 x4, .int .i64 x5]) (.agg #[.int .i64 y0, .int .i64 y1, .int .i64 y2, .int .i64 y3, .int .i64 y4, .int .i64 y5])).run Try.prog W =
      .ok (x0 == y0 && x1 == y1 && x2 == y2 && x3 == y3 && x4 == y4 && x5 == y5) W := by
  have hu := Try.underlying73
  have he := Try.underlying71
  have hz : (sizeOf 71).run Try.prog W = .ok 1 W := by kernel_rfl
  rw [Op.equalIn]
  simp only [Sem.run_bind, run_underlying hu, Result.andThen_ok, hz]
  have he2 := fun a b => run_equalIn_int (P := Try.prog) W d 71 .i64 .i64 a b he
  rw [Std.Legacy.Range.forIn_eq_forIn_range']
  simp only [Std.Legacy.Range.size, List.range', List.forIn_cons, List.forIn_nil, Nat.zero_mul, Sem.run_bind, part_0, Result.andThen_ok, he2]
  cases h0 : (x0 == y0)
  · simp
  cases h1 : (x1 == y1)
  · simp [h1, he2, part_1]
  cases h2 : (x2 == y2)
  · simp [h1, h2, he2, part_1, part_2]
  cases h3 : (x3 == y3)
  · simp [h1, h2, h3, he2, part_1, part_2, part_3]
  cases h4 : (x4 == y4)
  · simp [h1, h2, h3, h4, he2, part_1, part_2, part_3, part_4]
  cases h5 : (x5 == y5)
  · simp [h1, h2, h3, h4, h5, he2, part_1, part_2, part_3, part_4, part_5]
  simp [h1, h2, h3, h4, h5, he2, part_1, part_2, part_3, part_4, part_5]

theorem neq_lad {L M : List Int} (hL : L.length = 6) (hM : M.length = 6) (W : World) : (binOp .neq 73 (.agg (cellsI L)) (.agg (cellsI M))).run Try.prog W = .ok (.bool (!decide (L = M))) W := by
  match L, M, hL, hM with
  | [a0, a1, a2, a3, a4, a5], [b0, b1, b2, b3, b4, b5], _, _ =>
    have := equal6 9998 a0 a1 a2 a3 a4 a5 b0 b1 b2 b3 b4 b5 W
    rw [run_neq_struct]
    show ((Op.equalIn (9998 + 1 + 1) 73 (.agg #[.int .i64 a0, .int .i64 a1, .int .i64 a2, .int .i64 a3, .int .i64 a4, .int .i64 a5]) (.agg #[.int .i64 b0, .int .i64 b1, .int .i64 b2, .int .i64 b3, .int .i64 b4, .int .i64 b5])).run Try.prog W).andThen _ = _
    rw [this]
    have e : (a0 == b0 && a1 == b1 && a2 == b2 && a3 == b3 && a4 == b4 && a5 == b5) = decide ([a0, a1, a2, a3, a4, a5] = [b0, b1, b2, b3, b4, b5]) := by
      rw [Bool.eq_iff_iff]; simp [and_assoc]
    rw [e]
    rfl
theorem eql_lad {L M : List Int} (hL : L.length = 6) (hM : M.length = 6) (W : World) : (binOp .eql 73 (.agg (cellsI L)) (.agg (cellsI M))).run Try.prog W = .ok (.bool (decide (L = M))) W := by
  match L, M, hL, hM with
  | [a0, a1, a2, a3, a4, a5], [b0, b1, b2, b3, b4, b5], _, _ =>
    have := equal6 9998 a0 a1 a2 a3 a4 a5 b0 b1 b2 b3 b4 b5 W
    rw [run_eql_struct]
    show ((Op.equalIn (9998 + 1 + 1) 73 (.agg #[.int .i64 a0, .int .i64 a1, .int .i64 a2, .int .i64 a3, .int .i64 a4, .int .i64 a5]) (.agg #[.int .i64 b0, .int .i64 b1, .int .i64 b2, .int .i64 b3, .int .i64 b4, .int .i64 b5])).run Try.prog W).andThen _ = _
    rw [this]
    have e : (a0 == b0 && a1 == b1 && a2 == b2 && a3 == b3 && a4 == b4 && a5 == b5) = decide ([a0, a1, a2, a3, a4, a5] = [b0, b1, b2, b3, b4, b5]) := by
      rw [Bool.eq_iff_iff]; simp [and_assoc]
    rw [e]
    rfl

end Go.Proofs.Ytigcbegeaikfcaa
