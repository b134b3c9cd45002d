/- The laws' own helpers on Steps: whether two are equal, marks in them. No conditions but those typed. -/
import Derived.Test.YtpmdfogncoapjaaGreatDoorCoreZ
namespace Go.Proofs.YtpmdfogncoapjaaGreatDoor
open Go.RowKit
set_option linter.unusedVariables false

set_option maxHeartbeats 2000000 in
theorem eqStep_same (B : Nat) (x y g t : Int) (b : Bool) (v1 v2 v3 u1 u2 u3 : Value) (zs : List Int) (bs : List Bx) (rs : List Int) (w : World) (hB : B ≤ w.heap.size)
    (s1 : SeeI w B v1 zs) (s2 : SeeBx w B v2 bs) (s3 : SeeI w B v3 rs) (t1 : SeeI w B u1 zs) (t2 : SeeBx w B u2 bs) (t3 : SeeI w B u3 rs) :
    Calls Tryz.prog 32 #[stepVal x v1 v2 v3 y b g t, stepVal x u1 u2 u3 y b g t] w fun e w' => e = .returned (.bool true) ∧ Below w.heap.size w w' := by
  obtain ⟨A1, c1, rfl⟩ := s1.shape
  obtain ⟨A2, c2, rfl⟩ := s2.shape
  obtain ⟨A3, c3, rfl⟩ := s3.shape
  obtain ⟨A4, c4, rfl⟩ := t1.shape
  obtain ⟨A5, c5, rfl⟩ := t2.shape
  obtain ⟨A6, c6, rfl⟩ := t3.shape
  have H0 : Hid (∃ W, W = (w.alloc (.cells #[.int .i64 x, .slice A1 zs.length c1, .slice A2 bs.length c2, .slice A3 rs.length c3, .int .i64 y, .bool b, .int .i64 g, .int .i64 t] 33)).alloc (.cells #[.int .i64 x, .slice A4 zs.length c4, .slice A5 bs.length c5, .slice A6 rs.length c6, .int .i64 y, .bool b, .int .i64 g, .int .i64 t] 33) ∧
      W.heap[w.heap.size]? = some (.cells #[.int .i64 x, .slice A1 zs.length c1, .slice A2 bs.length c2, .slice A3 rs.length c3, .int .i64 y, .bool b, .int .i64 g, .int .i64 t] 33 (0, 0)) ∧
      W.heap[w.heap.size + 1]? = some (.cells #[.int .i64 x, .slice A4 zs.length c4, .slice A5 bs.length c5, .slice A6 rs.length c6, .int .i64 y, .bool b, .int .i64 g, .int .i64 t] 33 (0, 0)) ∧ Below w.heap.size w W) :=
    Lib.hid ⟨_, rfl, alloc_old (heap_alloc_new _ _) _, alloc_at _ _ (by simp) rfl, ((Below.refl _ _).alloc (Nat.le_refl _) _).alloc (by simp) _⟩
  have hgg : (g != g) = false := by simp
  have htt : (t != t) = false := by simp
  have hbb : (b != b) = false := by simp
  go_enter Tryz.func32, Tryz.ntmps32
  go_wp2_with fail
  obtain ⟨W, hW, h1, h2, bW⟩ := H0.out
  rw [← hW]
  clear hW H0
  refine (eqCore_same B x y _ _ _ _ _ _ zs bs rs W (Nat.le_trans hB bW.size) (s1.below (bW.mono hB)) (s2.below (bW.mono hB)) (s3.below (bW.mono hB)) (t1.below (bW.mono hB)) (t2.below (bW.mono hB)) (t3.below (bW.mono hB))).mono ?_
  rintro e w1 ⟨rfl, b1⟩
  replace bW := below_then bW b1 (Nat.le_refl _)
  obtain ⟨p0, p1, p2, p3, p4, p5, p6, p7⟩ := cells8 (row_later h1 b1)
  obtain ⟨q0, q1, q2, q3, q4, q5, q6, q7⟩ := cells8 (row_later h2 b1)
  clear h1 h2 b1
  go_wp2_with fail
  go_ret
  exact ⟨rfl, bW⟩

set_option maxHeartbeats 2000000 in
theorem markStep_any (B : Nat) (x y gt t : Int) (b : Bool) (u1 u2 u3 : Value) (zs : List Int) (bs : List Bx) (rs : List Int) (s : Nat) (w : World) (h : OwnC w B u1 u2 u3 zs bs rs) (h1 : 1 ≤ s) (hs : s + nC zs bs rs ≤ 4194304) :
    Calls Tryz.prog 39 #[stepVal x u1 u2 u3 y b gt t, .int .i64 s] w fun r w' => r = .returned (.int .i64 ((s + nC zs bs rs : Nat) : Int)) ∧
      OwnC w' B u1 u2 u3 (marks s zs.length) (mkBs (s + zs.length) bs.length) (marks (s + zs.length + bs.length * 2) rs.length) ∧ Only (rowsC u1 u2 u3) w w' := by
  have B0 : Only (rowsC u1 u2 u3) w (w.alloc (.cells #[.int .i64 x, u1, u2, u3, .int .i64 y, .bool b, .int .i64 gt, .int .i64 t] 33)) := Only.of_below (below_new _ _)
  have h0 := h.later (below_new w (.cells #[.int .i64 x, u1, u2, u3, .int .i64 y, .bool b, .int .i64 gt, .int .i64 t] 33))
  obtain ⟨A1, c1, rfl⟩ := h.o1.see.shape
  obtain ⟨A2, c2, rfl⟩ := h.o2.see.shape
  obtain ⟨A3, c3, rfl⟩ := h.o3.see.shape
  have HC := Lib.hid (fun W q => markCore_any B x y (.slice A1 zs.length c1) (.slice A2 bs.length c2) (.slice A3 rs.length c3) zs bs rs s W q h1 hs)
  generalize nC zs bs rs = n at *
  go_enter Tryz.func39, Tryz.ntmps39
  go_wp2_with fail
  generalize w.alloc _ = W at *
  refine (HC.out _ h0).mono ?_
  rintro e w1 ⟨rfl, o1, on1⟩
  go_wp2_with fail
  go_ret
  exact ⟨rfl, o1, B0.trans on1⟩

set_option maxHeartbeats 2000000 in
theorem heldStep_any (B : Nat) (x y gt t : Int) (b : Bool) (u1 u2 u3 : Value) (n1 n2 n3 s : Nat) (w : World) (s1 : SeeI w B u1 (marks s n1)) (s2 : SeeBx w B u2 (mkBs (s + n1) n2)) (s3 : SeeI w B u3 (marks (s + n1 + n2 * 2) n3)) (hB : B ≤ w.heap.size) (h1 : 1 ≤ s) (hs : s + n1 + n2 * 2 + n3 ≤ 4194304) :
    Calls Tryz.prog 40 #[stepVal x u1 u2 u3 y b gt t, .int .i64 s] w fun r w' => r = .returned (.int .i64 ((s + n1 + n2 * 2 + n3 : Nat) : Int)) ∧ Below w.heap.size w w' := by
  have bA := below_new w (.cells #[.int .i64 x, u1, u2, u3, .int .i64 y, .bool b, .int .i64 gt, .int .i64 t] 33)
  have k1 := s1.below (bA.mono hB)
  have k2 := s2.below (bA.mono hB)
  have k3 := s3.below (bA.mono hB)
  obtain ⟨A1, c1, e1⟩ := s1.shape
  obtain ⟨A2, c2, e2⟩ := s2.shape
  obtain ⟨A3, c3, e3⟩ := s3.shape
  rw [marks_length] at e1 e3
  rw [mkBs_length] at e2
  subst e1 e2 e3
  have HC := Lib.hid (fun W q1 q2 q3 q4 => heldCore_any B x y (.slice A1 n1 c1) (.slice A2 n2 c2) (.slice A3 n3 c3) n1 n2 n3 s W q1 q2 q3 q4 h1 hs)
  have hge : ¬ (((s + n1 + n2 * 2 + n3 : Nat) : Int)) < 0 := by omega
  generalize s + n1 + n2 * 2 + n3 = tot at *
  clear s1 s2 s3
  go_enter Tryz.func40, Tryz.ntmps40
  go_wp2_with fail
  generalize w.alloc _ = W at *
  refine (HC.out _ k1 k2 k3 (Nat.le_trans hB bA.size)).mono ?_
  rintro e w1 ⟨rfl, b1⟩
  go_wp2_with fail
  go_ret
  exact ⟨rfl, below_then bA b1 (Nat.le_refl _)⟩

end Go.Proofs.YtpmdfogncoapjaaGreatDoor
