/- Layer 9 (the player): SameCore and NewCore, of the program and of the model, by the same functions. No conditions but those typed. -/
import Derived.Test.YtpmdfogncoapjaaGreatDoorCoreB
import Derived.Laws.StructEq
namespace Go.Proofs.YtpmdfogncoapjaaGreatDoor
open Go.RowKit
set_option linter.unusedVariables false

/-- Are two cores one? -/
def sameB (x : Int) (zs : List Int) (bs : List Bx) (rs : List Int) (y x' : Int) (zs' : List Int) (bs' : List Bx) (rs' : List Int) (y' : Int) : Bool :=
  decide (x = x') && eqI zs zs' && eqBx bs bs' && eqI rs rs' && decide (y = y')

theorem neq_box (n n' : List UInt8) (x x' : Int) (W : World) : (binOp .neq 92 (.agg #[str n, .int .i64 x]) (.agg #[str n', .int .i64 x'])).run Tryz.prog W = .ok (.bool (!decide ((n, x) = (n', x')))) W := by
  have u3 := Tryz.underlying9
  have u4 := Tryz.underlying2
  have a3 := Tryz.isAgg9
  have z3 := Tryz.sizeOf9
  have a4 := Tryz.isAgg2
  have z4 := Tryz.sizeOf2
  have hS : Tryz.prog.underlying 92 = some (.struct (Tryz.prog.fieldsOf 92)) := by kernel_rfl
  have hp : Tryz.prog.stoodInHeld 92 = false := by kernel_rfl
  rw [run_neq_struct, show (10000 : Nat) = 9999 + 1 from rfl, run_equalIn_agg W 9999 92 _ _ hS hp]
  simp only [Program.fieldsOf, Tryz.underlying92]
  go_simp
  by_cases h1 : n = n' <;> by_cases h2 : x = x' <;> simp [h1, h2]

theorem guard_box (op : BinOp) (a b : Operand) (n n' : List UInt8) (x x' : Int) (W : World) : (eqGuard op 92 a b (.agg #[str n, .int .i64 x]) (.agg #[str n', .int .i64 x'])).run Tryz.prog W = .ok () W :=
  run_eqGuard_agg W op _ a b _ _ (by kernel_rfl)

set_option maxHeartbeats 1000000 in
theorem equalI_any (B : Nat) (va vb : Value) (xs ys : List Int) (w : World) (ha : SeeI w B va xs) (hb : SeeI w B vb ys) :
    Calls Tryz.prog 64 #[va, vb] w fun e w' => e = .returned (.bool (eqI xs ys)) ∧ ∃ n, w' = w.drewN n := by
  obtain ⟨A, ca, rfl⟩ := ha.shape
  obtain ⟨A', cb, rfl⟩ := hb.shape
  have hm := ha.1
  have hm' := hb.1
  unfold maxLen at hm hm'
  by_cases hl : xs.length = ys.length
  · have hb1 : ((xs.length : Int) != (ys.length : Int)) = false := by simp [hl]
    have Hl := Lib.hid hl
    clear hl
    go_enter Tryz.func64, Tryz.ntmps64
    go_wp2
    clear hb1
    go_loopw [5, 13] (fun _ i wr => ∃ k m : Nat, k ≤ xs.length ∧ i = .int .i64 k ∧ xs.take k = ys.take k ∧ wr = w.drewN m) (fun _ i _ => xs.length - (intOf i).toNat)
    case atStart => exact ⟨0, 0, Nat.zero_le _, rfl, rfl, rfl⟩
    case round =>
      obtain ⟨k, m, hk, rfl, ht, rfl⟩ := hrel
      have HT := Lib.hid ht
      clear ht
      by_cases hlt : k < xs.length
      · have hlt' : k < ys.length := by have := Hl.out; omega
        obtain ⟨g, o, x, rfl, -, hx, hcx⟩ := ha.at_ hlt
        obtain ⟨g', o', y, rfl, -, hy, hcy⟩ := hb.at_ hlt'
        have HX := Lib.hid hx
        have HY := Lib.hid hy
        clear hx hy ha hb
        by_cases hxy : x = y
        · subst hxy
          have hf : (x != x) = false := by simp
          go_wp2_with fail
          go_quiet (fail)
          go_wp2
          go_roundw
          case rel => exact ⟨k + 1, _, by omega, by go_num, take_more HT.out HX.out HY.out, rfl⟩
          case measure => simp [intOf]; omega
        · have hf : (x != y) = true := by simpa using hxy
          have HE : Hid (eqI xs ys = false) := Lib.hid (by
            unfold eqI
            rw [decide_eq_false_iff_not]
            intro h
            have h2 := HX.out
            rw [h, HY.out] at h2
            injection h2 with h2
            exact hxy h2.symm)
          clear hxy
          go_wp2_with fail
          go_quiet (fail)
          go_wp2
          go_ret
          rw [HE.out]
          exact ⟨rfl, _, World.drewN_drewN _ _ _⟩
      · have HE : Hid (eqI xs ys = true) := Lib.hid (by
          have h := HT.out
          rw [List.take_of_length_le (by omega), List.take_of_length_le (by have := Hl.out; omega)] at h
          simp [eqI, h])
        go_wp2_with fail
        go_ret
        rw [HE.out]
        exact ⟨rfl, _, rfl⟩
  · have hb1 : ((xs.length : Int) != (ys.length : Int)) = true := by simp; omega
    have HE : Hid (eqI xs ys = false) := Lib.hid (by
      unfold eqI
      rw [decide_eq_false_iff_not]
      rintro rfl
      exact hl rfl)
    clear hl
    go_enter Tryz.func64, Tryz.ntmps64
    go_wp2
    go_ret
    rw [HE.out]
    exact ⟨rfl, 0, rfl⟩

set_option maxHeartbeats 1000000 in
theorem sameI_any (B : Nat) (va vb : Value) (xs ys : List Int) (w : World) (ha : SeeI w B va xs) (hb : SeeI w B vb ys) :
    Calls Tryz.prog 66 #[va, vb] w fun e w' => e = .returned (.bool (eqI xs ys)) ∧ ∃ n, w' = w.drewN n := by
  obtain ⟨A, ca, rfl⟩ := ha.shape
  obtain ⟨A', cb, rfl⟩ := hb.shape
  have hm := ha.1
  have hm' := hb.1
  unfold maxLen at hm hm'
  by_cases hl : xs.length = ys.length
  · have hb1 : ((xs.length : Int) != (ys.length : Int)) = false := by simp [hl]
    have Hl := Lib.hid hl
    clear hl
    go_enter Tryz.func66, Tryz.ntmps66
    go_wp2
    clear hb1
    go_loopw [5] (fun i wr => ∃ k m : Nat, k ≤ xs.length ∧ i = .int .i64 k ∧ xs.take k = ys.take k ∧ wr = w.drewN m) (fun i _ => xs.length - (intOf i).toNat)
    case atStart => exact ⟨0, 0, Nat.zero_le _, rfl, rfl, rfl⟩
    case round =>
      obtain ⟨k, m, hk, rfl, ht, rfl⟩ := hrel
      have HT := Lib.hid ht
      clear ht
      by_cases hlt : k < xs.length
      · have hlt' : k < ys.length := by have := Hl.out; omega
        obtain ⟨g, o, x, rfl, -, hx, hcx⟩ := ha.at_ hlt
        obtain ⟨g', o', y, rfl, -, hy, hcy⟩ := hb.at_ hlt'
        have HX := Lib.hid hx
        have HY := Lib.hid hy
        clear hx hy ha hb
        by_cases hxy : x = y
        · subst hxy
          have hf : (x != x) = false := by simp
          go_wp2_with fail
          go_quiet (fail)
          go_wp2
          go_roundw
          case rel => exact ⟨k + 1, _, by omega, by go_num, take_more HT.out HX.out HY.out, rfl⟩
          case measure => simp [intOf]; omega
        · have hf : (x != y) = true := by simpa using hxy
          have HE : Hid (eqI xs ys = false) := Lib.hid (by
            unfold eqI
            rw [decide_eq_false_iff_not]
            intro h
            have h2 := HX.out
            rw [h, HY.out] at h2
            injection h2 with h2
            exact hxy h2.symm)
          clear hxy
          go_wp2_with fail
          go_quiet (fail)
          go_wp2
          go_ret
          rw [HE.out]
          exact ⟨rfl, _, World.drewN_drewN _ _ _⟩
      · have HE : Hid (eqI xs ys = true) := Lib.hid (by
          have h := HT.out
          rw [List.take_of_length_le (by omega), List.take_of_length_le (by have := Hl.out; omega)] at h
          simp [eqI, h])
        go_wp2_with fail
        go_ret
        rw [HE.out]
        exact ⟨rfl, _, rfl⟩
  · have hb1 : ((xs.length : Int) != (ys.length : Int)) = true := by simp; omega
    have HE : Hid (eqI xs ys = false) := Lib.hid (by
      unfold eqI
      rw [decide_eq_false_iff_not]
      rintro rfl
      exact hl rfl)
    clear hl
    go_enter Tryz.func66, Tryz.ntmps66
    go_wp2
    go_ret
    rw [HE.out]
    exact ⟨rfl, 0, rfl⟩

set_option maxHeartbeats 1000000 in
theorem equalB_any (B : Nat) (va vb : Value) (xs ys : List Bx) (w : World) (ha : SeeBx w B va xs) (hb : SeeBx w B vb ys) :
    Calls Tryz.prog 65 #[va, vb] w fun e w' => e = .returned (.bool (eqBx xs ys)) ∧ ∃ n, w' = w.drewN n := by
  obtain ⟨A, ca, rfl⟩ := ha.shape
  obtain ⟨A', cb, rfl⟩ := hb.shape
  have hm := ha.len
  have hm' := hb.len
  unfold maxLen at hm hm'
  by_cases hl : xs.length = ys.length
  · have hb1 : ((xs.length : Int) != (ys.length : Int)) = false := by simp [hl]
    have Hl := Lib.hid hl
    clear hl
    go_enter Tryz.func65, Tryz.ntmps65
    go_wp2
    clear hb1
    go_loopw [5, 13] (fun _ i wr => ∃ k m : Nat, k ≤ xs.length ∧ i = .int .i64 k ∧ xs.take k = ys.take k ∧ wr = w.drewN m) (fun _ i _ => xs.length - (intOf i).toNat)
    case atStart => exact ⟨0, 0, Nat.zero_le _, rfl, rfl, rfl⟩
    case round =>
      obtain ⟨k, m, hk, rfl, ht, rfl⟩ := hrel
      have HT := Lib.hid ht
      clear ht
      by_cases hlt : k < xs.length
      · have hlt' : k < ys.length := by have := Hl.out; omega
        have hx := List.getElem?_eq_getElem hlt
        generalize xs[k] = b at hx
        have hy := List.getElem?_eq_getElem hlt'
        generalize ys[k] = d at hy
        obtain ⟨g, o, rfl, -, c0, c1⟩ := ha.at_ hx
        obtain ⟨g', o', rfl, -, d0, d1⟩ := hb.at_ hy
        obtain ⟨n, x⟩ := b
        obtain ⟨n', x'⟩ := d
        dsimp only at c0 c1 d0 d1
        have HX := Lib.hid hx
        have HY := Lib.hid hy
        have hne := fun W => neq_box n n' x x' W
        have hgd := fun op a b W => guard_box op a b n n' x x' W
        clear hx hy ha hb
        by_cases hxy : (n, x) = (n', x')
        · have HR : Hid (xs.take (k + 1) = ys.take (k + 1)) := Lib.hid (takes_more HT.out HX.out (by rw [hxy]; exact HY.out))
          rw [decide_eq_true hxy] at hne
          simp only [Bool.not_true] at hne
          clear hxy
          go_wp2_with fail
          go_quiet (fail)
          go_wp2
          go_roundw
          case rel => exact ⟨k + 1, _, by omega, by go_num, HR.out, rfl⟩
          case measure => simp [intOf]; omega
        · have HE : Hid (eqBx xs ys = false) := Lib.hid (by
            unfold eqBx
            rw [decide_eq_false_iff_not]
            intro h
            have h2 := HX.out
            rw [h, HY.out] at h2
            injection h2 with h2
            exact hxy h2.symm)
          rw [decide_eq_false hxy] at hne
          simp only [Bool.not_false] at hne
          clear hxy
          go_wp2_with fail
          go_quiet (fail)
          go_wp2
          go_ret
          rw [HE.out]
          exact ⟨rfl, _, World.drewN_drewN _ _ _⟩
      · have HE : Hid (eqBx xs ys = true) := Lib.hid (by
          have h := HT.out
          rw [List.take_of_length_le (by omega), List.take_of_length_le (by have := Hl.out; omega)] at h
          simp [eqBx, h])
        go_wp2_with fail
        go_ret
        rw [HE.out]
        exact ⟨rfl, _, rfl⟩
  · have hb1 : ((xs.length : Int) != (ys.length : Int)) = true := by simp; omega
    have HE : Hid (eqBx xs ys = false) := Lib.hid (by
      unfold eqBx
      rw [decide_eq_false_iff_not]
      rintro rfl
      exact hl rfl)
    clear hl
    go_enter Tryz.func65, Tryz.ntmps65
    go_wp2
    go_ret
    rw [HE.out]
    exact ⟨rfl, 0, rfl⟩

set_option maxHeartbeats 4000000 in
theorem iSameCore_any (B : Nat) (x y x' y' : Int) (v1 v2 v3 u1 u2 u3 : Value) (zs : List Int) (bs : List Bx) (rs : List Int) (zs' : List Int) (bs' : List Bx) (rs' : List Int) (w : World) (hB : B ≤ w.heap.size)
    (s1 : SeeI w B v1 zs) (s2 : SeeBx w B v2 bs) (s3 : SeeI w B v3 rs) (t1 : SeeI w B u1 zs') (t2 : SeeBx w B u2 bs') (t3 : SeeI w B u3 rs') :
    Calls Tryz.prog 14 #[.agg #[.int .i64 x, v1, v2, v3, .int .i64 y], .agg #[.int .i64 x', u1, u2, u3, .int .i64 y']] w (BoolLt w (sameB x zs bs rs y x' zs' bs' rs' y')) := by
  obtain ⟨A1, c1, rfl⟩ := s1.shape
  obtain ⟨A2, c2, rfl⟩ := s2.shape
  obtain ⟨A3, c3, rfl⟩ := s3.shape
  obtain ⟨A4, c4, rfl⟩ := t1.shape
  obtain ⟨A5, c5, rfl⟩ := t2.shape
  obtain ⟨A6, c6, rfl⟩ := t3.shape
  have H0 : Hid (∃ W, W = (w.alloc (.cells #[.int .i64 x, .slice A1 zs.length c1, .slice A2 bs.length c2, .slice A3 rs.length c3, .int .i64 y] 27)).alloc (.cells #[.int .i64 x', .slice A4 zs'.length c4, .slice A5 bs'.length c5, .slice A6 rs'.length c6, .int .i64 y'] 27) ∧
      W.heap[w.heap.size]? = some (.cells #[.int .i64 x, .slice A1 zs.length c1, .slice A2 bs.length c2, .slice A3 rs.length c3, .int .i64 y] 27 (0, 0)) ∧
      W.heap[w.heap.size + 1]? = some (.cells #[.int .i64 x', .slice A4 zs'.length c4, .slice A5 bs'.length c5, .slice A6 rs'.length c6, .int .i64 y'] 27 (0, 0)) ∧ Below w.heap.size w W) :=
    Lib.hid ⟨_, rfl, alloc_old (heap_alloc_new _ _) _, by have := heap_alloc_new (w.alloc (.cells #[.int .i64 x, .slice A1 zs.length c1, .slice A2 bs.length c2, .slice A3 rs.length c3, .int .i64 y] 27)) (.cells #[.int .i64 x', .slice A4 zs'.length c4, .slice A5 bs'.length c5, .slice A6 rs'.length c6, .int .i64 y'] 27); rwa [World.size_alloc] at this,
      ((Below.refl _ _).alloc (Nat.le_refl _) _).alloc (by simp) _⟩
  have HE : Hid (sameB x zs bs rs y x' zs' bs' rs' y' = (decide (x = x') && eqI zs zs' && eqBx bs bs' && eqI rs rs' && decide (y = y'))) := Lib.hid rfl
  by_cases hx : x = x'
  · have hxx : (x == x') = true := by simpa using hx
    rw [decide_eq_true hx] at HE
    have HX := Lib.hid hx
    clear hx
    go_enter Tryz.func14, Tryz.ntmps14
    go_wp2_with fail
    obtain ⟨W, hW, h1, h2, bW⟩ := H0.out
    rw [← hW]
    clear hW H0
    replace s1 := s1.below (bW.mono hB)
    replace s2 := s2.below (bW.mono hB)
    replace s3 := s3.below (bW.mono hB)
    replace t1 := t1.below (bW.mono hB)
    replace t2 := t2.below (bW.mono hB)
    replace t3 := t3.below (bW.mono hB)
    refine (equalI_any B _ _ zs zs' _ s1 t1).mono ?_
    rintro e w' ⟨rfl, n, rfl⟩
    have C2 := Lib.hid (equalB_any B _ _ bs bs' (W.drewN n) (s2.below (below_drewN (Below.refl _ _) n)) (t2.below (below_drewN (Below.refl _ _) n)))
    have C3 := Lib.hid (fun m => equalI_any B _ _ rs rs' ((W.drewN n).drewN m) ((s3.drewN n).drewN m) ((t3.drewN n).drewN m))
    have B2 := below_drewN bW n
    have B3 := Lib.hid (fun m => below_drewN (below_drewN bW n) m)
    have k1 : (W.drewN n).heap[w.heap.size]? = _ := h1
    have k2 : (W.drewN n).heap[w.heap.size + 1]? = _ := h2
    generalize W.drewN n = W1 at *
    obtain ⟨p0, p1, p2, p3, p4⟩ := cells5 k1
    obtain ⟨q0, q1, q2, q3, q4⟩ := cells5 k2
    generalize eqI zs zs' = e1 at *
    generalize eqBx bs bs' = e2 at *
    generalize eqI rs rs' = e3 at *
    clear h1 h2 s1 t1 s2 t2 s3 t3
    cases e1
    · go_wp2_with fail
      go_ret
      exact ⟨ret_bool (by rw [HE.out]; simp), B2⟩
    go_wp2_with fail
    refine C2.out.mono ?_
    rintro e w2 ⟨rfl, m, rfl⟩
    cases e2
    · go_wp2_with fail
      go_ret
      exact ⟨ret_bool (by rw [HE.out]; simp), B3.out m⟩
    go_wp2_with fail
    refine (C3.out m).mono ?_
    rintro e w3 ⟨rfl, k, rfl⟩
    cases e3
    · go_wp2_with fail
      go_ret
      exact ⟨ret_bool (by rw [HE.out]; simp), B3.out (m + k)⟩
    by_cases hy : y = y'
    · have hyy : (y == y') = true := by simpa using hy
      rw [decide_eq_true hy] at HE
      clear hy
      go_wp2_with fail
      go_ret
      exact ⟨ret_bool (by rw [HE.out]; simp), B3.out (m + k)⟩
    · have hyy : (y == y') = false := by simpa using hy
      rw [decide_eq_false hy] at HE
      clear hy
      go_wp2_with fail
      go_ret
      exact ⟨ret_bool (by rw [HE.out]; simp), B3.out (m + k)⟩
  · have hxx : (x == x') = false := by simpa using hx
    rw [decide_eq_false hx] at HE
    clear hx
    go_enter Tryz.func14, Tryz.ntmps14
    go_wp2_with fail
    go_ret
    exact ⟨ret_bool (by rw [HE.out]; simp), ((Below.refl _ _).alloc (Nat.le_refl _) _).alloc (by simp) _⟩

theorem prefix_eq {bs bs' : List Bx} (h : bs.take bs.length = bs'.take bs.length) (hl : bs.length = bs'.length) : eqBx bs bs' = true := by
  rw [List.take_length, hl, List.take_length] at h
  simp [eqBx, h]
theorem at_ne {bs bs' : List Bx} {k : Nat} {b d : Bx} (hb : bs[k]? = some b) (hd : bs'[k]? = some d) (h : ¬ b = d) : eqBx bs bs' = false := by
  unfold eqBx
  rw [decide_eq_false_iff_not]
  rintro rfl
  rw [hb] at hd
  injection hd with hd
  exact h hd

set_option maxHeartbeats 4000000 in
theorem sSameCore_any (B : Nat) (x y x' y' : Int) (v1 v2 v3 u1 u2 u3 : Value) (zs : List Int) (bs : List Bx) (rs : List Int) (zs' : List Int) (bs' : List Bx) (rs' : List Int) (w : World) (hB : B ≤ w.heap.size)
    (s1 : SeeI w B v1 zs) (s2 : SeeBx w B v2 bs) (s3 : SeeI w B v3 rs) (t1 : SeeI w B u1 zs') (t2 : SeeBx w B u2 bs') (t3 : SeeI w B u3 rs') :
    Calls Tryz.prog 15 #[.agg #[.int .i64 x, v1, v2, v3, .int .i64 y], .agg #[.int .i64 x', u1, u2, u3, .int .i64 y']] w (BoolLt w (sameB x zs bs rs y x' zs' bs' rs' y')) := by
  have m2 := s2.len
  have m5 := t2.len
  unfold maxLen at m2 m5
  obtain ⟨A1, c1, rfl⟩ := s1.shape
  obtain ⟨A2, c2, rfl⟩ := s2.shape
  obtain ⟨A3, c3, rfl⟩ := s3.shape
  obtain ⟨A4, c4, rfl⟩ := t1.shape
  obtain ⟨A5, c5, rfl⟩ := t2.shape
  obtain ⟨A6, c6, rfl⟩ := t3.shape
  have H0 : Hid (∃ W, W = (w.alloc (.cells #[.int .i64 x, .slice A1 zs.length c1, .slice A2 bs.length c2, .slice A3 rs.length c3, .int .i64 y] 27)).alloc (.cells #[.int .i64 x', .slice A4 zs'.length c4, .slice A5 bs'.length c5, .slice A6 rs'.length c6, .int .i64 y'] 27) ∧
      W.heap[w.heap.size]? = some (.cells #[.int .i64 x, .slice A1 zs.length c1, .slice A2 bs.length c2, .slice A3 rs.length c3, .int .i64 y] 27 (0, 0)) ∧
      W.heap[w.heap.size + 1]? = some (.cells #[.int .i64 x', .slice A4 zs'.length c4, .slice A5 bs'.length c5, .slice A6 rs'.length c6, .int .i64 y'] 27 (0, 0)) ∧ Below w.heap.size w W) :=
    Lib.hid ⟨_, rfl, alloc_old (heap_alloc_new _ _) _, by have := heap_alloc_new (w.alloc (.cells #[.int .i64 x, .slice A1 zs.length c1, .slice A2 bs.length c2, .slice A3 rs.length c3, .int .i64 y] 27)) (.cells #[.int .i64 x', .slice A4 zs'.length c4, .slice A5 bs'.length c5, .slice A6 rs'.length c6, .int .i64 y'] 27); rwa [World.size_alloc] at this,
      ((Below.refl _ _).alloc (Nat.le_refl _) _).alloc (by simp) _⟩
  have HE : Hid (sameB x zs bs rs y x' zs' bs' rs' y' = (decide (x = x') && eqI zs zs' && eqBx bs bs' && eqI rs rs' && decide (y = y'))) := Lib.hid rfl
  have HL : Hid (¬ bs.length = bs'.length → eqBx bs bs' = false) := Lib.hid (fun h => by
    unfold eqBx
    rw [decide_eq_false_iff_not]
    rintro rfl
    exact h rfl)
  by_cases hx : x = x'
  · have hxx : (x != x') = false := by simpa using hx
    rw [decide_eq_true hx] at HE
    clear hx
    go_enter Tryz.func15, Tryz.ntmps15
    go_wp2_with fail
    obtain ⟨W, hW, h1, h2, bW⟩ := H0.out
    rw [← hW]
    clear hW H0
    replace s1 := s1.below (bW.mono hB)
    replace s2 := s2.below (bW.mono hB)
    replace s3 := s3.below (bW.mono hB)
    replace t1 := t1.below (bW.mono hB)
    replace t2 := t2.below (bW.mono hB)
    replace t3 := t3.below (bW.mono hB)
    refine (sameI_any B _ _ zs zs' _ s1 t1).mono ?_
    rintro e w' ⟨rfl, n, rfl⟩
    have C3 := Lib.hid (sameI_any B _ _ rs rs' (W.drewN n) (s3.drewN n) (t3.drewN n))
    have S2 := Lib.hid (fun m => (s2.below (below_drewN (Below.refl _ _) n)).below (below_drewN (Below.refl _ _) m))
    have T2 := Lib.hid (fun m => (t2.below (below_drewN (Below.refl _ _) n)).below (below_drewN (Below.refl _ _) m))
    have B2 := below_drewN bW n
    have B3 := Lib.hid (fun m => below_drewN (below_drewN bW n) m)
    have k1 : (W.drewN n).heap[w.heap.size]? = _ := h1
    have k2 : (W.drewN n).heap[w.heap.size + 1]? = _ := h2
    generalize W.drewN n = W1 at *
    obtain ⟨p0, p1, p2, p3, p4⟩ := cells5 k1
    obtain ⟨q0, q1, q2, q3, q4⟩ := cells5 k2
    generalize eqI zs zs' = e1 at *
    generalize eqI rs rs' = e3 at *
    clear h1 h2 s1 t1 s2 t2 s3 t3
    cases e1
    · go_wp2_with fail
      go_ret
      exact ⟨ret_bool (by rw [HE.out]; simp), B2⟩
    go_wp2_with fail
    refine C3.out.mono ?_
    rintro e w2 ⟨rfl, m, rfl⟩
    cases e3
    · go_wp2_with fail
      go_ret
      exact ⟨ret_bool (by rw [HE.out]; simp), B3.out m⟩
    by_cases hy : y = y'
    · have hyy : (y != y') = false := by simpa using hy
      rw [decide_eq_true hy] at HE
      clear hy
      by_cases hl : bs.length = bs'.length
      · have hll : ((bs.length : Int) != (bs'.length : Int)) = false := by simp [hl]
        have HLN := Lib.hid hl
        clear hl HL
        replace S2 := Lib.hid (S2.out m)
        replace T2 := Lib.hid (T2.out m)
        have bb := B3.out m
        clear B3 B2 C3
        replace k1 : (W1.drewN m).heap[w.heap.size]? = _ := k1
        replace k2 : (W1.drewN m).heap[w.heap.size + 1]? = _ := k2
        go_wp2_with fail
        generalize W1.drewN m = W2 at *
        clear p0 p1 p2 p3 p4 q0 q1 q2 q3 q4 hll
        obtain ⟨p0, p1, p2, p3, p4⟩ := cells5 k1
        obtain ⟨q0, q1, q2, q3, q4⟩ := cells5 k2
        clear p0 p1 p3 p4 q0 q1 q3 q4 k1 k2
        go_loopw [5] (fun i wr => ∃ k m : Nat, k ≤ bs.length ∧ i = .int .i64 k ∧ bs.take k = bs'.take k ∧ wr = W2.drewN m) (fun i _ => bs.length - (intOf i).toNat)
        case atStart => exact ⟨0, 0, Nat.zero_le _, rfl, rfl, rfl⟩
        case round =>
          obtain ⟨k, j, hk, rfl, ht, rfl⟩ := hrel
          have HT := Lib.hid ht
          clear ht
          by_cases hlt : k < bs.length
          · have hlt' : k < bs'.length := by have := HLN.out; omega
            have hb := List.getElem?_eq_getElem hlt
            generalize bs[k] = b at hb
            have hd := List.getElem?_eq_getElem hlt'
            generalize bs'[k] = d at hd
            obtain ⟨g, o, rfl, -, c0, c1'⟩ := S2.out.at_ hb
            obtain ⟨g', o', rfl, -, d0, d1'⟩ := T2.out.at_ hd
            obtain ⟨na, xa⟩ := b
            obtain ⟨nb, xb⟩ := d
            dsimp only at c0 c1' d0 d1'
            have HX := Lib.hid hb
            have HY := Lib.hid hd
            have hne := fun W => neq_box na nb xa xb W
            have hgd := fun op a b W => guard_box op a b na nb xa xb W
            clear hb hd
            by_cases hxy : (na, xa) = (nb, xb)
            · have HR : Hid (bs.take (k + 1) = bs'.take (k + 1)) := Lib.hid (takes_more HT.out HX.out (by rw [hxy]; exact HY.out))
              rw [decide_eq_true hxy] at hne
              simp only [Bool.not_true] at hne
              clear hxy
              go_wp2_with fail
              go_quiet (fail)
              go_wp2
              go_roundw
              case rel => exact ⟨k + 1, _, by omega, by go_num, HR.out, rfl⟩
              case measure => simp [intOf]; omega
            · have HQ : Hid (eqBx bs bs' = false) := Lib.hid (at_ne HX.out HY.out hxy)
              rw [decide_eq_false hxy] at hne
              simp only [Bool.not_false] at hne
              clear hxy
              go_wp2_with fail
              go_quiet (fail)
              go_wp2
              go_ret
              exact ⟨ret_bool (by rw [HE.out, HQ.out]; simp), below_drewN (below_drewN bb _) _⟩
          · have HQ : Hid (eqBx bs bs' = true) := Lib.hid (prefix_eq (by have := HT.out; rwa [show k = bs.length by omega] at this) HLN.out)
            go_wp2_with fail
            go_ret
            exact ⟨ret_bool (by rw [HE.out, HQ.out]; simp), below_drewN bb _⟩
      · have hll : ((bs.length : Int) != (bs'.length : Int)) = true := by simp; omega
        have HQ := Lib.hid (HL.out hl)
        clear hl
        go_wp2_with fail
        go_ret
        exact ⟨ret_bool (by rw [HE.out, HQ.out]; simp), B3.out m⟩
    · have hyy : (y != y') = true := by simpa using hy
      rw [decide_eq_false hy] at HE
      clear hy
      go_wp2_with fail
      go_ret
      exact ⟨ret_bool (by rw [HE.out]; simp), B3.out m⟩
  · have hxx : (x != x') = true := by simpa using hx
    rw [decide_eq_false hx] at HE
    clear hx
    go_enter Tryz.func15, Tryz.ntmps15
    go_wp2_with fail
    go_ret
    exact ⟨ret_bool (by rw [HE.out]; simp), ((Below.refl _ _).alloc (Nat.le_refl _) _).alloc (by simp) _⟩

end Go.Proofs.YtpmdfogncoapjaaGreatDoor
