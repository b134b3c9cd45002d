/- Layer 9 (the player): NewCore of the program and of the model; the walks of FnExactCoreOk, FnExactSameCore and FnExactNewCore. No conditions but those typed. -/
import Derived.Test.YtjcmfdgphhonhaaCoreC
import Derived.Deep.RegionHeld3
import Derived.Deep.CutRange
namespace Go.Proofs.Ytjcmfdgphhonhaa
open Go.RowKit
set_option linter.unusedVariables false

theorem hold10 {W w' : World} {n m : Nat} {a0 a1 a2 a3 a4 b0 b1 b2 b3 b4 : Value} {t u : TypeId} (R : W.heap[n]? = some (.cells #[a0, a1, a2, a3, a4] t (0, 0))) (S : W.heap[m]? = some (.cells #[b0, b1, b2, b3, b4] u (0, 0))) (k : Below W.heap.size W w') :
    (w'.cell? ⟨n, 0, none⟩ = some a0 ∧ w'.cell? ⟨n, 1, none⟩ = some a1 ∧ w'.cell? ⟨n, 2, none⟩ = some a2 ∧ w'.cell? ⟨n, 3, none⟩ = some a3 ∧ w'.cell? ⟨n, 4, none⟩ = some a4) ∧
    (w'.cell? ⟨m, 0, none⟩ = some b0 ∧ w'.cell? ⟨m, 1, none⟩ = some b1 ∧ w'.cell? ⟨m, 2, none⟩ = some b2 ∧ w'.cell? ⟨m, 3, none⟩ = some b3 ∧ w'.cell? ⟨m, 4, none⟩ = some b4) ∧ Below W.heap.size W w' :=
  ⟨cells5 (row_later R k), cells5 (row_later S k), k⟩

set_option maxHeartbeats 4000000 in
theorem coreOk_law (x y : Int) (v1 v2 v3 : Value) (zs : List Int) (bs : List Bx) (rs : List Int) (w : World) (s1 : SeeI w w.heap.size v1 zs) (s2 : SeeBx w w.heap.size v2 bs) (s3 : SeeI w w.heap.size v3 rs) (hF : fitB bs) :
    Calls Try.prog 3 #[.agg #[.int .i64 x, v1, v2, v3, .int .i64 y]] w fun e w' => e = .returned (.bool true) ∧ Below w.heap.size w w' := by
  have B0 := below_new w (.cells #[.int .i64 x, v1, v2, v3, .int .i64 y] 25)
  have R0 := heap_alloc_new w (.cells #[.int .i64 x, v1, v2, v3, .int .i64 y] 25)
  obtain ⟨A1, c1, rfl⟩ := s1.shape
  obtain ⟨A2, c2, rfl⟩ := s2.shape
  obtain ⟨A3, c3, rfl⟩ := s3.shape
  replace s1 := s1.below B0
  replace s2 := s2.below B0
  replace s3 := s3.below B0
  have HF := szC_fits (left := 1048576) (zs := zs) (bs := bs) (rs := rs) (by decide) (by decide)
  go_enter Try.func3, Try.ntmps3
  go_wp2_with fail
  generalize w.alloc _ = W at *
  generalize hN : w.heap.size = N at *
  have HN := Lib.hid hN
  clear hN
  refine (szCore_any N x y _ _ _ zs bs rs 1048576 (by decide) (by decide) W s1 s2 s3 (by have := HN.out; have := B0.size; omega) hF).mono ?_
  rintro e w1 ⟨rfl, b1⟩
  replace R0 := row_later R0 b1
  replace s1 := s1.below (b1.mono (by have := HN.out; have := B0.size; omega))
  replace s2 := s2.below (b1.mono (by have := HN.out; have := B0.size; omega))
  replace s3 := s3.below (b1.mono (by have := HN.out; have := B0.size; omega))
  replace B0 := below_then B0 b1 (by have := HN.out; omega)
  clear b1
  generalize szC 1048576 zs bs rs = z at *
  rcases HF with rfl | ⟨h0, -, h1, h2, h3, hS⟩
  · go_wp2_with fail
    go_ret
    exact ⟨rfl, by rw [HN.out]; exact B0⟩
  have hz : ¬ z < 0 := by omega
  obtain ⟨p0, p1, p2, p3, p4⟩ := cells5 R0
  go_wp2_with fail
  clear p0 p1 p2 p3 p4 hz h0
  refine (toCore_any N x y _ _ _ zs bs rs w1 s1 s2 s3 (by have := HN.out; have := B0.size; omega) (by omega) (by omega) (by omega)).mono ?_
  rintro e w2 ⟨u1, u2, u3, rfl, o1, o2, o3, -, -, -, b2⟩
  have C2 := Lib.hid (sCoreOk_any w2.heap.size x y u1 u2 u3 zs bs rs w2 o1.see o2.see o3.see (Nat.le_refl _) hS)
  obtain ⟨A4, c4, rfl⟩ := o1.see.shape
  obtain ⟨A5, c5, rfl⟩ := o2.see.shape
  obtain ⟨A6, c6, rfl⟩ := o3.see.shape
  replace R0 := row_later R0 b2
  replace s1 := s1.below (b2.mono (by have := HN.out; have := B0.size; omega))
  replace s2 := s2.below (b2.mono (by have := HN.out; have := B0.size; omega))
  replace s3 := s3.below (b2.mono (by have := HN.out; have := B0.size; omega))
  replace B0 := below_then B0 b2 (by have := HN.out; omega)
  clear b2 o1 o2 o3
  go_wp2_with fail
  refine C2.out.mono ?_
  rintro e w3 ⟨rfl, b3⟩
  clear C2
  replace R0 := row_later R0 b3
  replace s1 := s1.below (b3.mono (by have := HN.out; have := B0.size; omega))
  replace s2 := s2.below (b3.mono (by have := HN.out; have := B0.size; omega))
  replace s3 := s3.below (b3.mono (by have := HN.out; have := B0.size; omega))
  replace B0 := below_then B0 b3 (by have := HN.out; omega)
  clear b3
  obtain ⟨p0, p1, p2, p3, p4⟩ := cells5 R0
  go_wp2_with fail
  clear p0 p1 p2 p3 p4
  refine (toCore_any N x y _ _ _ zs bs rs w3 s1 s2 s3 (by have := HN.out; have := B0.size; omega) (by omega) (by omega) (by omega)).mono ?_
  rintro e w4 ⟨u1, u2, u3, rfl, o1, o2, o3, -, -, -, b4⟩
  obtain ⟨A7, c7, rfl⟩ := o1.see.shape
  obtain ⟨A8, c8, rfl⟩ := o2.see.shape
  obtain ⟨A9, c9, rfl⟩ := o3.see.shape
  replace R0 := row_later R0 b4
  replace s1 := s1.below (b4.mono (by have := HN.out; have := B0.size; omega))
  replace s2 := s2.below (b4.mono (by have := HN.out; have := B0.size; omega))
  replace s3 := s3.below (b4.mono (by have := HN.out; have := B0.size; omega))
  replace B0 := below_then B0 b4 (by have := HN.out; omega)
  have h4 := B0.size
  have Bn := below_new w4 (.cells #[.int .i64 x, .slice A7 zs.length c7, .slice A8 bs.length c8, .slice A9 rs.length c9, .int .i64 y] 30)
  have R1 := heap_alloc_new w4 (.cells #[.int .i64 x, .slice A7 zs.length c7, .slice A8 bs.length c8, .slice A9 rs.length c9, .int .i64 y] 30)
  replace o1 := o1.see.below Bn
  replace o2 := o2.see.below Bn
  replace o3 := o3.see.below Bn
  replace R0 := row_later R0 Bn
  replace s1 := s1.below (Bn.mono (by have := HN.out; have := B0.size; omega))
  replace s2 := s2.below (Bn.mono (by have := HN.out; have := B0.size; omega))
  replace s3 := s3.below (Bn.mono (by have := HN.out; have := B0.size; omega))
  replace B0 := below_then B0 Bn (by have := HN.out; omega)
  have hn4 := Bn.size
  clear b4
  go_wp2_with fail
  generalize w4.alloc _ = W4 at *
  generalize w4.heap.size = M at *
  have C6 := Lib.hid (iCoreOk_any M x y _ _ _ zs bs rs W4 o1 o2 o3 hn4 hS)
  generalize coreB x zs bs rs y = bo at *
  refine C6.out.mono ?_
  rintro e w6 ⟨rfl, b6⟩
  replace R0 := row_later R0 b6
  replace R1 := row_later R1 b6
  replace o1 := o1.below (b6.mono hn4)
  replace o2 := o2.below (b6.mono hn4)
  replace o3 := o3.below (b6.mono hn4)
  replace s1 := s1.below (b6.mono (by have := HN.out; have := B0.size; omega))
  replace s2 := s2.below (b6.mono (by have := HN.out; have := B0.size; omega))
  replace s3 := s3.below (b6.mono (by have := HN.out; have := B0.size; omega))
  replace B0 := below_then B0 b6 (by have := HN.out; omega)
  have hM6 : M ≤ w6.heap.size := Nat.le_trans hn4 b6.size
  have hN6 : N ≤ w6.heap.size := by have := HN.out; have := B0.size; omega
  clear b6 C6 hn4 Bn h4
  have hbb : (bo != bo) = false := by simp
  have k0 : Below w6.heap.size w6 w6.drew := (Below.refl _ _).drew
  go_wp2_with fail
  go_region_held3 (fun w' => (w'.cell? ⟨M, 0, none⟩ = some (.int .i64 x) ∧ w'.cell? ⟨M, 1, none⟩ = some (.slice A7 zs.length c7) ∧ w'.cell? ⟨M, 2, none⟩ = some (.slice A8 bs.length c8) ∧ w'.cell? ⟨M, 3, none⟩ = some (.slice A9 rs.length c9) ∧ w'.cell? ⟨M, 4, none⟩ = some (.int .i64 y)) ∧
      (w'.cell? ⟨N, 0, none⟩ = some (.int .i64 x) ∧ w'.cell? ⟨N, 1, none⟩ = some (.slice A1 zs.length c1) ∧ w'.cell? ⟨N, 2, none⟩ = some (.slice A2 bs.length c2) ∧ w'.cell? ⟨N, 3, none⟩ = some (.slice A3 rs.length c3) ∧ w'.cell? ⟨N, 4, none⟩ = some (.int .i64 y)) ∧ Below w6.heap.size w6 w')
    (first | exact hold10 R1 R0 k0 | exact hold10 R1 R0 k7 | exact hold10 R1 R0 k8)
    (first | (go_at_call 8; refine (toCore_any N x y _ _ _ zs bs rs _ (s1.below (k0.mono hN6)) (s2.below (k0.mono hN6)) (s3.below (k0.mono hN6)) (Nat.le_trans hN6 k0.size) (by omega) (by omega) (by omega)).mono ?_; rintro e w7 ⟨u1, u2, u3, rfl, q1, q2, q3, -, -, -, b7⟩; have k7 := below_then k0 b7 (Nat.le_refl _)) |
      (go_at_call 10; refine (eqCore_same _ x y _ _ _ _ _ _ zs bs rs _ (Nat.le_refl _) ((o1.below (k7.mono hM6)).more (Nat.le_trans hM6 k7.size)) ((o2.below (k7.mono hM6)).more (Nat.le_trans hM6 k7.size)) ((o3.below (k7.mono hM6)).more (Nat.le_trans hM6 k7.size)) q1.see q2.see q3.see).mono ?_; rintro e w8 ⟨rfl, b8⟩; have k8 := below_then k7 b8 (Nat.le_refl _)))
  go_wp2_with fail
  go_ret
  exact ⟨rfl, by have h := below_then B0 k8 (by have := HN.out; omega); rw [HN.out]; exact h⟩

set_option maxHeartbeats 8000000 in
theorem sameCore_law (x y x' y' : Int) (v1 v2 v3 u1 u2 u3 : Value) (zs : List Int) (bs : List Bx) (rs : List Int) (zs' : List Int) (bs' : List Bx) (rs' : List Int) (w : World)
    (s1 : SeeI w w.heap.size v1 zs) (s2 : SeeBx w w.heap.size v2 bs) (s3 : SeeI w w.heap.size v3 rs) (hF : fitB bs)
    (t1 : SeeI w w.heap.size u1 zs') (t2 : SeeBx w w.heap.size u2 bs') (t3 : SeeI w w.heap.size u3 rs') (hF' : fitB bs') :
    Calls Try.prog 5 #[.agg #[.int .i64 x, v1, v2, v3, .int .i64 y], .agg #[.int .i64 x', u1, u2, u3, .int .i64 y']] w fun e w' => e = .returned (.bool true) ∧ Below w.heap.size w w' := by
  obtain ⟨A1, c1, rfl⟩ := s1.shape
  obtain ⟨A2, c2, rfl⟩ := s2.shape
  obtain ⟨A3, c3, rfl⟩ := s3.shape
  obtain ⟨A4, c4, rfl⟩ := t1.shape
  obtain ⟨A5, c5, rfl⟩ := t2.shape
  obtain ⟨A6, c6, rfl⟩ := t3.shape
  have H0 : Hid (∃ W, W = (w.alloc (.cells #[.int .i64 x, .slice A1 zs.length c1, .slice A2 bs.length c2, .slice A3 rs.length c3, .int .i64 y] 25)).alloc (.cells #[.int .i64 x', .slice A4 zs'.length c4, .slice A5 bs'.length c5, .slice A6 rs'.length c6, .int .i64 y'] 25) ∧
      W.heap[w.heap.size]? = some (.cells #[.int .i64 x, .slice A1 zs.length c1, .slice A2 bs.length c2, .slice A3 rs.length c3, .int .i64 y] 25 (0, 0)) ∧
      W.heap[w.heap.size + 1]? = some (.cells #[.int .i64 x', .slice A4 zs'.length c4, .slice A5 bs'.length c5, .slice A6 rs'.length c6, .int .i64 y'] 25 (0, 0)) ∧ Below w.heap.size w W) :=
    Lib.hid ⟨_, rfl, alloc_old (heap_alloc_new _ _) _, by have := heap_alloc_new (w.alloc (.cells #[.int .i64 x, .slice A1 zs.length c1, .slice A2 bs.length c2, .slice A3 rs.length c3, .int .i64 y] 25)) (.cells #[.int .i64 x', .slice A4 zs'.length c4, .slice A5 bs'.length c5, .slice A6 rs'.length c6, .int .i64 y'] 25); rwa [World.size_alloc] at this,
      ((Below.refl _ _).alloc (Nat.le_refl _) _).alloc (by simp) _⟩
  have HFA := szC_fits (left := 1048576) (zs := zs) (bs := bs) (rs := rs) (by decide) (by decide)
  have HFB := Lib.hid (fun left (h0 : 0 ≤ left) (h1 : left ≤ 1048576) => szC_fits (left := left) (zs := zs') (bs := bs') (rs := rs') h0 h1)
  go_enter Try.func5, Try.ntmps5
  go_wp2_with fail
  obtain ⟨W, hW, RA, RB, B0⟩ := H0.out
  rw [← hW]
  clear hW H0
  generalize hN : w.heap.size = N at *
  have HN := Lib.hid hN
  clear hN
  replace s1 := s1.below B0
  replace s2 := s2.below B0
  replace s3 := s3.below B0
  replace t1 := t1.below B0
  replace t2 := t2.below B0
  replace t3 := t3.below B0
  refine (szCore_any N x y _ _ _ zs bs rs 1048576 (by decide) (by decide) W s1 s2 s3 (by have := HN.out; have := B0.size; omega) hF).mono ?_
  rintro e w1 ⟨rfl, b1⟩
  replace RA := row_later RA b1
  replace RB := row_later RB b1
  replace s1 := s1.below (b1.mono (by have := HN.out; have := B0.size; omega))
  replace s2 := s2.below (b1.mono (by have := HN.out; have := B0.size; omega))
  replace s3 := s3.below (b1.mono (by have := HN.out; have := B0.size; omega))
  replace t1 := t1.below (b1.mono (by have := HN.out; have := B0.size; omega))
  replace t2 := t2.below (b1.mono (by have := HN.out; have := B0.size; omega))
  replace t3 := t3.below (b1.mono (by have := HN.out; have := B0.size; omega))
  replace B0 := below_then B0 b1 (by have := HN.out; omega)
  clear b1
  generalize szC 1048576 zs bs rs = z at *
  rcases HFA with rfl | ⟨h0, hz1, h1, h2, h3, hS⟩
  · go_wp2_with fail
    go_ret
    exact ⟨rfl, by rw [HN.out]; exact B0⟩
  have hz : ¬ z < 0 := by omega
  replace HFB := HFB.out z h0 hz1
  have C1 := Lib.hid (fun W a1 a2 a3 a4 => szCore_any N x' y' (.slice A4 zs'.length c4) (.slice A5 bs'.length c5) (.slice A6 rs'.length c6) zs' bs' rs' z h0 hz1 W a1 a2 a3 a4 hF')
  have HZ1 := Lib.hid hz1
  clear h0 hz1
  obtain ⟨p0, p1, p2, p3, p4⟩ := cells5 RA
  obtain ⟨q0, q1, q2, q3, q4⟩ := cells5 RB
  go_wp2_with fail
  clear p0 p1 p2 p3 p4 q0 q1 q2 q3 q4
  refine (C1.out _ t1 t2 t3 (by have := HN.out; have := B0.size; omega)).mono ?_
  clear hz C1
  rintro e w2 ⟨rfl, b2⟩
  replace RA := row_later RA b2
  replace RB := row_later RB b2
  replace s1 := s1.below (b2.mono (by have := HN.out; have := B0.size; omega))
  replace s2 := s2.below (b2.mono (by have := HN.out; have := B0.size; omega))
  replace s3 := s3.below (b2.mono (by have := HN.out; have := B0.size; omega))
  replace t1 := t1.below (b2.mono (by have := HN.out; have := B0.size; omega))
  replace t2 := t2.below (b2.mono (by have := HN.out; have := B0.size; omega))
  replace t3 := t3.below (b2.mono (by have := HN.out; have := B0.size; omega))
  replace B0 := below_then B0 b2 (by have := HN.out; omega)
  clear b2
  generalize szC z zs' bs' rs' = z2 at *
  rcases HFB with rfl | ⟨h0, hz1, h1', h2', h3', hS'⟩
  · go_wp2_with fail
    go_ret
    exact ⟨rfl, by rw [HN.out]; exact B0⟩
  have hz : ¬ z2 < 0 := by omega
  have L1 : zs.length ≤ 1048576 := by omega
  have L2 : bs.length ≤ 1048576 := by omega
  have L3 : rs.length ≤ 1048576 := by omega
  have L4 : zs'.length ≤ 1048576 := by have := HZ1.out; omega
  have L5 : bs'.length ≤ 1048576 := by have := HZ1.out; omega
  have L6 : rs'.length ≤ 1048576 := by have := HZ1.out; omega
  clear h1 h2 h3 h1' h2' h3' hz1
  obtain ⟨p0, p1, p2, p3, p4⟩ := cells5 RA
  obtain ⟨q0, q1, q2, q3, q4⟩ := cells5 RB
  go_upto_region 8 with fail
  clear p0 p1 p2 p3 p4 q0 q1 q2 q3 q4 h0 hz
  obtain ⟨bo, hbo⟩ : ∃ b, b = sameB x zs bs rs y x' zs' bs' rs' y' := ⟨_, rfl⟩
  have HBO := Lib.hid hbo
  clear hbo
  have hN2 : N ≤ w2.heap.size := by have := HN.out; have := B0.size; omega
  go_cut [6] from 10 (fun s6 wc => s6 = .bool bo ∧ Below w2.heap.size w2 wc)
  case first =>
    have k0 : Below w2.heap.size w2 w2.drew := (Below.refl _ _).drew
    go_region_held3 (fun w' => (w'.cell? ⟨N, 0, none⟩ = some (.int .i64 x) ∧ w'.cell? ⟨N, 1, none⟩ = some (.slice A1 zs.length c1) ∧ w'.cell? ⟨N, 2, none⟩ = some (.slice A2 bs.length c2) ∧ w'.cell? ⟨N, 3, none⟩ = some (.slice A3 rs.length c3) ∧ w'.cell? ⟨N, 4, none⟩ = some (.int .i64 y)) ∧
        (w'.cell? ⟨N + 1, 0, none⟩ = some (.int .i64 x') ∧ w'.cell? ⟨N + 1, 1, none⟩ = some (.slice A4 zs'.length c4) ∧ w'.cell? ⟨N + 1, 2, none⟩ = some (.slice A5 bs'.length c5) ∧ w'.cell? ⟨N + 1, 3, none⟩ = some (.slice A6 rs'.length c6) ∧ w'.cell? ⟨N + 1, 4, none⟩ = some (.int .i64 y')) ∧ Below w2.heap.size w2 w')
      (first | exact hold10 RA RB k0 | exact hold10 RA RB k9 | exact hold10 RA RB k2 | exact hold10 RA RB k1)
      (first | (go_at_call 8; refine (toCore_any N x' y' _ _ _ zs' bs' rs' _ (t1.below (kA.mono hN2)) (t2.below (kA.mono hN2)) (t3.below (kA.mono hN2)) (Nat.le_trans hN2 kA.size) L4 L5 L6).mono ?_; rintro e wb ⟨u1, u2, u3, rfl, e1, e2, e3, -, -, -, bb⟩; have k2 := below_then kA bb (Nat.le_refl _)) |
        (go_at_call 8; refine (toCore_any N x y _ _ _ zs bs rs _ (s1.below (kB.mono hN2)) (s2.below (kB.mono hN2)) (s3.below (kB.mono hN2)) (Nat.le_trans hN2 kB.size) L1 L2 L3).mono ?_; rintro e wa ⟨v1, v2, v3, rfl, g1, g2, g3, -, -, -, ba⟩; have k2 := below_then kB ba (Nat.le_refl _)) |
        (go_at_call 8; refine (toCore_any N x y _ _ _ zs bs rs _ (s1.below (k0.mono hN2)) (s2.below (k0.mono hN2)) (s3.below (k0.mono hN2)) (Nat.le_trans hN2 k0.size) L1 L2 L3).mono ?_; rintro e wa ⟨v1, v2, v3, rfl, d1, d2, d3, -, -, -, ba⟩; have kA := below_then k0 ba (Nat.le_refl _); have k1 := kA) |
        (go_at_call 8; refine (toCore_any N x' y' _ _ _ zs' bs' rs' _ (t1.below (k0.mono hN2)) (t2.below (k0.mono hN2)) (t3.below (k0.mono hN2)) (Nat.le_trans hN2 k0.size) L4 L5 L6).mono ?_; rintro e wb ⟨u1, u2, u3, rfl, f1, f2, f3, -, -, -, bb⟩; have kB := below_then k0 bb (Nat.le_refl _); have k1 := kB) |
        (go_at_call 15; refine (sSameCore_any _ x y x' y' _ _ _ _ _ _ zs bs rs zs' bs' rs' _ (Nat.le_refl _) ((d1.see.below bb).more bb.size) ((d2.see.below bb).more bb.size) ((d3.see.below bb).more bb.size) e1.see e2.see e3.see).mono ?_; rintro e wc ⟨rfl, bc⟩; rw [← HBO.out]; have k9 := below_then k2 bc (Nat.le_refl _)) |
        (go_at_call 15; refine (sSameCore_any _ x y x' y' _ _ _ _ _ _ zs bs rs zs' bs' rs' _ (Nat.le_refl _) g1.see g2.see g3.see ((f1.see.below ba).more ba.size) ((f2.see.below ba).more ba.size) ((f3.see.below ba).more ba.size)).mono ?_; rintro e wc ⟨rfl, bc⟩; rw [← HBO.out]; have k9 := below_then k2 bc (Nat.le_refl _)))
    all_goals (
      go_wp2_with fail
      go_meet
      case rel => exact ⟨rfl, k9⟩)
  case rest =>
  obtain ⟨rfl, b5⟩ := hcut
  replace RA := row_later RA b5
  replace RB := row_later RB b5
  replace s1 := s1.below (b5.mono (by have := HN.out; have := B0.size; omega))
  replace s2 := s2.below (b5.mono (by have := HN.out; have := B0.size; omega))
  replace s3 := s3.below (b5.mono (by have := HN.out; have := B0.size; omega))
  replace t1 := t1.below (b5.mono (by have := HN.out; have := B0.size; omega))
  replace t2 := t2.below (b5.mono (by have := HN.out; have := B0.size; omega))
  replace t3 := t3.below (b5.mono (by have := HN.out; have := B0.size; omega))
  replace B0 := below_then B0 b5 (by have := HN.out; omega)
  clear b5
  obtain ⟨p0, p1, p2, p3, p4⟩ := cells5 RA
  obtain ⟨q0, q1, q2, q3, q4⟩ := cells5 RB
  go_wp2_with fail
  clear p0 p1 p2 p3 p4 q0 q1 q2 q3 q4
  refine (toCore_any N x y _ _ _ zs bs rs _ s1 s2 s3 (by have := HN.out; have := B0.size; omega) L1 L2 L3).mono ?_
  rintro e w6 ⟨u1, u2, u3, rfl, o1, o2, o3, -, -, -, b6⟩
  have a1 := o1.see
  have a2 := o2.see
  have a3 := o3.see
  obtain ⟨Ad, cd, rfl⟩ := a1.shape
  obtain ⟨Ae, ce, rfl⟩ := a2.shape
  obtain ⟨Af, cf, rfl⟩ := a3.shape
  replace RA := row_later RA b6
  replace RB := row_later RB b6
  replace s1 := s1.below (b6.mono (by have := HN.out; have := B0.size; omega))
  replace s2 := s2.below (b6.mono (by have := HN.out; have := B0.size; omega))
  replace s3 := s3.below (b6.mono (by have := HN.out; have := B0.size; omega))
  replace t1 := t1.below (b6.mono (by have := HN.out; have := B0.size; omega))
  replace t2 := t2.below (b6.mono (by have := HN.out; have := B0.size; omega))
  replace t3 := t3.below (b6.mono (by have := HN.out; have := B0.size; omega))
  replace B0 := below_then B0 b6 (by have := HN.out; omega)
  clear b6 o1 o2 o3
  have bx := below_new w6 (.cells #[.int .i64 x, .slice Ad zs.length cd, .slice Ae bs.length ce, .slice Af rs.length cf, .int .i64 y] 30)
  have X0 := heap_alloc_new w6 (.cells #[.int .i64 x, .slice Ad zs.length cd, .slice Ae bs.length ce, .slice Af rs.length cf, .int .i64 y] 30)
  replace a1 := (a1.below bx).more bx.size
  replace a2 := (a2.below bx).more bx.size
  replace a3 := (a3.below bx).more bx.size
  replace RA := row_later RA bx
  replace RB := row_later RB bx
  replace s1 := s1.below (bx.mono (by have := HN.out; have := B0.size; omega))
  replace s2 := s2.below (bx.mono (by have := HN.out; have := B0.size; omega))
  replace s3 := s3.below (bx.mono (by have := HN.out; have := B0.size; omega))
  replace t1 := t1.below (bx.mono (by have := HN.out; have := B0.size; omega))
  replace t2 := t2.below (bx.mono (by have := HN.out; have := B0.size; omega))
  replace t3 := t3.below (bx.mono (by have := HN.out; have := B0.size; omega))
  replace B0 := below_then B0 bx (by have := HN.out; omega)
  clear bx
  obtain ⟨p0, p1, p2, p3, p4⟩ := cells5 RA
  obtain ⟨q0, q1, q2, q3, q4⟩ := cells5 RB
  go_wp2_with fail
  clear p0 p1 p2 p3 p4 q0 q1 q2 q3 q4
  generalize w6.alloc _ = W6 at *
  generalize w6.heap.size = M at *
  refine (toCore_any N x' y' _ _ _ zs' bs' rs' _ t1 t2 t3 (by have := HN.out; have := B0.size; omega) L4 L5 L6).mono ?_
  rintro e w7 ⟨u1, u2, u3, rfl, o1, o2, o3, -, -, -, b7⟩
  replace X0 := row_later X0 b7
  replace a1 := (a1.below b7).more b7.size
  replace a2 := (a2.below b7).more b7.size
  replace a3 := (a3.below b7).more b7.size
  have d1 := o1.see
  have d2 := o2.see
  have d3 := o3.see
  obtain ⟨Ag, cg, rfl⟩ := d1.shape
  obtain ⟨Ah, ch, rfl⟩ := d2.shape
  obtain ⟨Ai, ci, rfl⟩ := d3.shape
  replace RA := row_later RA b7
  replace RB := row_later RB b7
  replace s1 := s1.below (b7.mono (by have := HN.out; have := B0.size; omega))
  replace s2 := s2.below (b7.mono (by have := HN.out; have := B0.size; omega))
  replace s3 := s3.below (b7.mono (by have := HN.out; have := B0.size; omega))
  replace t1 := t1.below (b7.mono (by have := HN.out; have := B0.size; omega))
  replace t2 := t2.below (b7.mono (by have := HN.out; have := B0.size; omega))
  replace t3 := t3.below (b7.mono (by have := HN.out; have := B0.size; omega))
  replace B0 := below_then B0 b7 (by have := HN.out; omega)
  clear b7 o1 o2 o3
  have bx := below_new w7 (.cells #[.int .i64 x', .slice Ag zs'.length cg, .slice Ah bs'.length ch, .slice Ai rs'.length ci, .int .i64 y'] 30)
  have X1 := heap_alloc_new w7 (.cells #[.int .i64 x', .slice Ag zs'.length cg, .slice Ah bs'.length ch, .slice Ai rs'.length ci, .int .i64 y'] 30)
  replace X0 := row_later X0 bx
  replace a1 := (a1.below bx).more bx.size
  replace a2 := (a2.below bx).more bx.size
  replace a3 := (a3.below bx).more bx.size
  replace d1 := (d1.below bx).more bx.size
  replace d2 := (d2.below bx).more bx.size
  replace d3 := (d3.below bx).more bx.size
  replace RA := row_later RA bx
  replace RB := row_later RB bx
  replace s1 := s1.below (bx.mono (by have := HN.out; have := B0.size; omega))
  replace s2 := s2.below (bx.mono (by have := HN.out; have := B0.size; omega))
  replace s3 := s3.below (bx.mono (by have := HN.out; have := B0.size; omega))
  replace t1 := t1.below (bx.mono (by have := HN.out; have := B0.size; omega))
  replace t2 := t2.below (bx.mono (by have := HN.out; have := B0.size; omega))
  replace t3 := t3.below (bx.mono (by have := HN.out; have := B0.size; omega))
  replace B0 := below_then B0 bx (by have := HN.out; omega)
  clear bx
  obtain ⟨p0, p1, p2, p3, p4⟩ := cells5 X0
  go_wp2_with fail
  clear p0 p1 p2 p3 p4
  generalize w7.alloc _ = W7 at *
  generalize w7.heap.size = M1 at *
  have CI := Lib.hid (iSameCore_any W7.heap.size x y x' y' _ _ _ _ _ _ zs bs rs zs' bs' rs' W7 (Nat.le_refl _) a1 a2 a3 d1 d2 d3)
  refine CI.out.mono ?_
  clear CI
  rintro e w8 ⟨rfl, b8⟩
  rw [← HBO.out]
  replace X0 := row_later X0 b8
  replace X1 := row_later X1 b8
  replace a1 := (a1.below b8).more b8.size
  replace a2 := (a2.below b8).more b8.size
  replace a3 := (a3.below b8).more b8.size
  replace d1 := (d1.below b8).more b8.size
  replace d2 := (d2.below b8).more b8.size
  replace d3 := (d3.below b8).more b8.size
  replace RA := row_later RA b8
  replace RB := row_later RB b8
  replace s1 := s1.below (b8.mono (by have := HN.out; have := B0.size; omega))
  replace s2 := s2.below (b8.mono (by have := HN.out; have := B0.size; omega))
  replace s3 := s3.below (b8.mono (by have := HN.out; have := B0.size; omega))
  replace t1 := t1.below (b8.mono (by have := HN.out; have := B0.size; omega))
  replace t2 := t2.below (b8.mono (by have := HN.out; have := B0.size; omega))
  replace t3 := t3.below (b8.mono (by have := HN.out; have := B0.size; omega))
  replace B0 := below_then B0 b8 (by have := HN.out; omega)
  clear b8
  have hbb : (bo != bo) = false := by simp
  have k0 : Below w8.heap.size w8 w8.drew := (Below.refl _ _).drew
  have hN8 : N ≤ w8.heap.size := by have := HN.out; have := B0.size; omega
  go_wp2_with fail
  go_region_held3 (fun w' => (w'.cell? ⟨M, 0, none⟩ = some (.int .i64 x) ∧ w'.cell? ⟨M, 1, none⟩ = some (.slice Ad zs.length cd) ∧ w'.cell? ⟨M, 2, none⟩ = some (.slice Ae bs.length ce) ∧ w'.cell? ⟨M, 3, none⟩ = some (.slice Af rs.length cf) ∧ w'.cell? ⟨M, 4, none⟩ = some (.int .i64 y)) ∧
      (w'.cell? ⟨N, 0, none⟩ = some (.int .i64 x) ∧ w'.cell? ⟨N, 1, none⟩ = some (.slice A1 zs.length c1) ∧ w'.cell? ⟨N, 2, none⟩ = some (.slice A2 bs.length c2) ∧ w'.cell? ⟨N, 3, none⟩ = some (.slice A3 rs.length c3) ∧ w'.cell? ⟨N, 4, none⟩ = some (.int .i64 y)) ∧ Below w8.heap.size w8 w')
    (first | exact hold10 X0 RA k0 | exact hold10 X0 RA k7 | exact hold10 X0 RA k8)
    (first | (go_at_call 8; refine (toCore_any N x y _ _ _ zs bs rs _ (s1.below (k0.mono hN8)) (s2.below (k0.mono hN8)) (s3.below (k0.mono hN8)) (Nat.le_trans hN8 k0.size) L1 L2 L3).mono ?_; rintro e w9 ⟨u1, u2, u3, rfl, q1, q2, q3, -, -, -, b9⟩; have k7 := below_then k0 b9 (Nat.le_refl _)) |
      (go_at_call 10; refine (eqCore_same _ x y _ _ _ _ _ _ zs bs rs _ (Nat.le_refl _) ((a1.below k7).more k7.size) ((a2.below k7).more k7.size) ((a3.below k7).more k7.size) q1.see q2.see q3.see).mono ?_; rintro e w10 ⟨rfl, b10⟩; have k8 := below_then k7 b10 (Nat.le_refl _)))
  clear hbb k0 k7 a1 a2 a3 q1 q2 q3 b9 b10
  replace X1 := row_later X1 k8
  replace d1 := (d1.below k8).more k8.size
  replace d2 := (d2.below k8).more k8.size
  replace d3 := (d3.below k8).more k8.size
  replace RA := row_later RA k8
  replace RB := row_later RB k8
  replace s1 := s1.below (k8.mono (by have := HN.out; have := B0.size; omega))
  replace s2 := s2.below (k8.mono (by have := HN.out; have := B0.size; omega))
  replace s3 := s3.below (k8.mono (by have := HN.out; have := B0.size; omega))
  replace t1 := t1.below (k8.mono (by have := HN.out; have := B0.size; omega))
  replace t2 := t2.below (k8.mono (by have := HN.out; have := B0.size; omega))
  replace t3 := t3.below (k8.mono (by have := HN.out; have := B0.size; omega))
  replace B0 := below_then B0 k8 (by have := HN.out; omega)
  clear k8 X0
  generalize w10 = wz at *
  have k0 : Below wz.heap.size wz wz.drew := (Below.refl _ _).drew
  have hNz : N ≤ wz.heap.size := by have := HN.out; have := B0.size; omega
  go_wp2_with fail
  go_region_held3 (fun w' => (w'.cell? ⟨M1, 0, none⟩ = some (.int .i64 x') ∧ w'.cell? ⟨M1, 1, none⟩ = some (.slice Ag zs'.length cg) ∧ w'.cell? ⟨M1, 2, none⟩ = some (.slice Ah bs'.length ch) ∧ w'.cell? ⟨M1, 3, none⟩ = some (.slice Ai rs'.length ci) ∧ w'.cell? ⟨M1, 4, none⟩ = some (.int .i64 y')) ∧
      (w'.cell? ⟨N + 1, 0, none⟩ = some (.int .i64 x') ∧ w'.cell? ⟨N + 1, 1, none⟩ = some (.slice A4 zs'.length c4) ∧ w'.cell? ⟨N + 1, 2, none⟩ = some (.slice A5 bs'.length c5) ∧ w'.cell? ⟨N + 1, 3, none⟩ = some (.slice A6 rs'.length c6) ∧ w'.cell? ⟨N + 1, 4, none⟩ = some (.int .i64 y')) ∧ Below wz.heap.size wz w')
    (first | exact hold10 X1 RB k0 | exact hold10 X1 RB k7 | exact hold10 X1 RB k8)
    (first | (go_at_call 8; refine (toCore_any N x' y' _ _ _ zs' bs' rs' _ (t1.below (k0.mono hNz)) (t2.below (k0.mono hNz)) (t3.below (k0.mono hNz)) (Nat.le_trans hNz k0.size) L4 L5 L6).mono ?_; rintro e w9 ⟨u1, u2, u3, rfl, q1, q2, q3, -, -, -, b9⟩; have k7 := below_then k0 b9 (Nat.le_refl _)) |
      (go_at_call 10; refine (eqCore_same _ x' y' _ _ _ _ _ _ zs' bs' rs' _ (Nat.le_refl _) ((d1.below k7).more k7.size) ((d2.below k7).more k7.size) ((d3.below k7).more k7.size) q1.see q2.see q3.see).mono ?_; rintro e w10 ⟨rfl, b10⟩; have k8 := below_then k7 b10 (Nat.le_refl _)))
  go_wp2_with fail
  go_ret
  exact ⟨rfl, by have h := below_then B0 k8 (by have := HN.out; omega); rw [HN.out]; exact h⟩

end Go.Proofs.Ytjcmfdgphhonhaa
