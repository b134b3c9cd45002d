/- Layer 6 (sums): the model's l6Sum and SumOf. No conditions but those typed. -/
import Derived.Test.YtblnonlcjfcblaaGreatDoorSumB
import Derived.OwnWalk
namespace Go.Proofs.YtblnonlcjfcblaaGreatDoor
open Go.RowKit
set_option linter.unusedVariables false

theorem at_leaf {ss : List (List UInt8)} {k : Nat} {s : List UInt8} (h : SumAt ss k (.leaf s)) : ss[k]? = some s ∧ opN s = 0 ∧ leafB s = true := by
  obtain ⟨h1, rest, h2⟩ := h
  have : (ss.drop k)[0]? = some s := by rw [h2]; rfl
  rw [List.getElem?_drop] at this
  exact ⟨this, h1.1, h1.2⟩
theorem at_op {ss : List (List UInt8)} {k : Nat} {s : List UInt8} {a b : Sum} (h : SumAt ss k (.op s a b)) : ss[k]? = some s ∧ ¬ opN s = 0 ∧ SumAt ss (k + 1) a ∧ SumAt ss (k + 1 + a.flat.length) b := by
  obtain ⟨h1, rest, h2⟩ := h
  have h3 : ss.drop k = s :: (a.flat ++ (b.flat ++ rest)) := by rw [h2]; simp [Sum.flat]
  have h4 : (ss.drop k)[0]? = some s := by rw [h3]; rfl
  rw [List.getElem?_drop] at h4
  have h5 : ss.drop (k + 1) = a.flat ++ (b.flat ++ rest) := by
    rw [← List.drop_drop, h3]; rfl
  refine ⟨h4, h1.1, ⟨h1.2.1, _, h5⟩, h1.2.2, rest, ?_⟩
  rw [← List.drop_drop, h5, List.drop_left' rfl]

def SumOut (r : Option Int) (k : Nat) (w : World) (e : Ending) (w' : World) : Prop := e = .returned (.tuple #[.int .i64 (r.getD 0), .int .i64 (k : Int), .bool r.isSome]) ∧ Below w.heap.size w w'
theorem sum_ret {x : Int} {y : Int} {b : Bool} {r : Option Int} {k : Nat} (h1 : x = r.getD 0) (h2 : y = (k : Int)) (h3 : b = r.isSome) : Ending.returned (.tuple #[.int .i64 x, .int .i64 y, .bool b]) = .returned (.tuple #[.int .i64 (r.getD 0), .int .i64 (k : Int), .bool r.isSome]) := by rw [h1, h2, h3]
theorem eval_no1 {bs : List Bx} {s : List UInt8} {a b : Sum} (h : evalT bs a = none) : evalT bs (.op s a b) = none := by rw [evalT, h]
theorem eval_no2 {bs : List Bx} {s : List UInt8} {a b : Sum} (h : evalT bs b = none) : evalT bs (.op s a b) = none := by
  rw [evalT, h]
  cases evalT bs a <;> rfl
theorem eval_did {bs : List Bx} {s : List UInt8} {a b : Sum} {x y : Int} (ha : evalT bs a = some x) (hb : evalT bs b = some y) : evalT bs (.op s a b) = if (didS (opN s) x y).2 = true then some (didS (opN s) x y).1 else none := by
  rw [evalT, ha, hb]
theorem did_zero {o a b v : Int} (h : didS o a b = (v, false)) : v = 0 := by
  unfold didS didV at h
  repeat' split at h
  all_goals first | (cases h; rfl) | cases h
theorem did_val {o x y v : Int} {is : Bool} {r : Option Int} (hd : didS o x y = (v, is)) (hr : r = if (didS o x y).2 = true then some (didS o x y).1 else none) : v = r.getD 0 ∧ is = r.isSome := by
  rw [hd] at hr
  cases is with
  | true => subst hr; exact ⟨rfl, rfl⟩
  | false => subst hr; exact ⟨did_zero hd, rfl⟩

/-- The model's l6Sum is right at a sum. -/
def SumGood (ss : List (List UInt8)) (bs : List Bx) (t : Sum) : Prop := ∀ (k B : Nat) (v u : Value) (w : World), SumAt ss k t → SeeV w B v (ss.map str) → SeeBx w B u bs → B ≤ w.heap.size →
  Calls Tryz.prog 73 #[v, .int .i64 k, u] w (SumOut (evalT bs t) (k + t.flat.length) w)

set_option maxHeartbeats 4000000 in
theorem l6Sum_leaf (ss : List (List UInt8)) (bs : List Bx) (hS : shortS ss) (hn : ss.length ≤ 1048576) (s : List UInt8) : SumGood ss bs (.leaf s) := by
  intro k B v u w ht h hu hB
  obtain ⟨A, c, e⟩ := strs_shape h
  subst e
  obtain ⟨Au, cu, e⟩ := hu.shape
  subst e
  have hl := sum_len ht
  obtain ⟨hx, ho, hlf⟩ := at_leaf ht
  have hsx := hS s (List.mem_of_getElem? hx)
  obtain ⟨g, o, rfl, hgB, hcx⟩ := strs_at h hx
  have hk : k < ss.length := (List.getElem?_eq_some_iff.1 hx).1
  have c1 := fun W (q : Below w.heap.size w W) => (q.cell (p := ⟨g, o + k, none⟩) (World.block_lt_of_cell? w _ hcx)).trans hcx
  have HE : Hid (evalT bs (.leaf s) = some ((rdS s).getD (valueS bs s))) := Lib.hid rfl
  have HK : Hid (k + (Sum.leaf s).flat.length = k + 1) := Lib.hid rfl
  rw [HK.out, HE.out]
  clear hx hl
  have HO := Lib.hid (l6Op_any s w)
  rw [ho] at HO
  clear ho hlf
  cases hr : rdS s with
  | some y =>
    have HR := Lib.hid hr
    clear hr
    go_enter Tryz.func73, Tryz.ntmps73
    go_wp2_with fail
    refine HO.out.mono ?_
    rintro e w1 ⟨rfl, b1⟩
    have hc1 := c1 _ b1
    go_wp2_with fail
    refine (sReadWord_any s hsx _).mono ?_
    rintro e w' ⟨rfl, rfl⟩
    rw [HR.out]
    go_wp2_with fail
    go_ret3
    exact ⟨sum_ret rfl (by go_num) rfl, b1⟩
  | none =>
    have HR := Lib.hid hr
    clear hr
    go_enter Tryz.func73, Tryz.ntmps73
    go_wp2_with fail
    refine HO.out.mono ?_
    rintro e w1 ⟨rfl, b1⟩
    have hc1 := c1 _ b1
    go_wp2_with fail
    refine (sReadWord_any s hsx _).mono ?_
    rintro e w' ⟨rfl, rfl⟩
    rw [HR.out]
    go_wp2_with fail
    refine (sValueIn_any B _ bs s _ (hu.below (b1.mono hB))).mono ?_
    rintro e w' ⟨rfl, rfl⟩
    go_wp2_with fail
    go_ret3
    exact ⟨sum_ret rfl (by go_num) rfl, b1⟩

set_option maxHeartbeats 4000000 in
theorem l6Sum_op (ss : List (List UInt8)) (bs : List Bx) (hS : shortS ss) (hn : ss.length ≤ 1048576) (s : List UInt8) (a b : Sum) (ia : SumGood ss bs a) (ib : SumGood ss bs b) : SumGood ss bs (.op s a b) := by
  intro k B v u w ht h hu hB
  obtain ⟨A, c, e⟩ := strs_shape h
  subst e
  obtain ⟨Au, cu, e⟩ := hu.shape
  subst e
  obtain ⟨hx, ho, ha, hb⟩ := at_op ht
  have hsx := hS s (List.mem_of_getElem? hx)
  have lb := sum_len hb
  have HK : Hid (k + (Sum.op s a b).flat.length = k + 1 + a.flat.length + b.flat.length) := Lib.hid (by simp [Sum.flat]; omega)
  rw [HK.out]
  have IA := fun W h1 h2 h3 => ia (k + 1) B (.slice A ss.length c) (.slice Au bs.length cu) W ha h1 h2 h3
  have IB := fun W h1 h2 h3 => ib (k + 1 + a.flat.length) B (.slice A ss.length c) (.slice Au bs.length cu) W hb h1 h2 h3
  have HIA := Lib.hid IA
  have HIB := Lib.hid IB
  clear IA IB ha hb ht ia ib
  obtain ⟨g, o, rfl, hgB, hcx⟩ := strs_at h hx
  have hk : k < ss.length := (List.getElem?_eq_some_iff.1 hx).1
  clear hx
  have hpa := a.pos
  obtain ⟨r0, r1⟩ := opN_range s
  have hop : 0 < opN s := by omega
  have HN1 : Hid (evalT bs a = none → evalT bs (.op s a b) = none) := Lib.hid eval_no1
  have HN2 : Hid (evalT bs b = none → evalT bs (.op s a b) = none) := Lib.hid eval_no2
  have HD : Hid (∀ x y, evalT bs a = some x → evalT bs b = some y → evalT bs (.op s a b) = if (didS (opN s) x y).2 = true then some (didS (opN s) x y).1 else none) := Lib.hid fun x y h1 h2 => eval_did h1 h2
  generalize evalT bs (.op s a b) = R at HN1 HN2 HD ⊢
  generalize evalT bs a = ra at HIA HN1 HD
  generalize evalT bs b = rb at HIB HN2 HD
  generalize a.flat.length = m at *
  generalize b.flat.length = m' at *
  have HO := Lib.hid (l6Op_any s w)
  generalize opN s = op at *
  go_enter Tryz.func73, Tryz.ntmps73
  go_wp2_with fail
  refine HO.out.mono ?_
  rintro e w1 ⟨rfl, b1⟩
  go_wp2_with fail
  refine (HIA.out _ (h.below (b1.mono hB)) (hu.below (b1.mono hB)) (Nat.le_trans hB b1.size)).mono ?_
  rintro e w2 ⟨rfl, b2⟩
  replace b2 := below_then b1 b2 (Nat.le_refl _)
  clear b1
  go_wp2_with fail
  refine (HIB.out _ (h.below (b2.mono hB)) (hu.below (b2.mono hB)) (Nat.le_trans hB b2.size)).mono ?_
  rintro e w3 ⟨rfl, b3⟩
  replace b3 := below_then b2 b3 (Nat.le_refl _)
  clear b2
  cases ra with
  | none =>
    have HR := Lib.hid (HN1.out rfl)
    go_wp2_with fail
    go_ret3
    exact ⟨sum_ret (by rw [HR.out]; rfl) (by go_num) (by rw [HR.out]; rfl), b3⟩
  | some x =>
    cases rb with
    | none =>
      have HR := Lib.hid (HN2.out rfl)
      go_wp2_with fail
      go_ret3
      exact ⟨sum_ret (by rw [HR.out]; rfl) (by go_num) (by rw [HR.out]; rfl), b3⟩
    | some y =>
      have HR := Lib.hid (HD.out x y rfl rfl)
      generalize hdd : didS op x y = dd
      have HDD := Lib.hid hdd
      clear hdd
      obtain ⟨z, is⟩ := dd
      obtain ⟨q1, q2⟩ := did_val HDD.out HR.out
      have Q1 := Lib.hid q1
      have Q2 := Lib.hid q2
      clear q1 q2
      go_wp2_with fail
      refine (sDid_any op x y _).mono ?_
      rintro e w' ⟨rfl, rfl⟩
      rw [HDD.out]
      go_wp2_with fail
      go_ret3
      exact ⟨sum_ret Q1.out (by go_num) Q2.out, b3⟩

theorem l6Sum_good (ss : List (List UInt8)) (bs : List Bx) (hS : shortS ss) (hn : ss.length ≤ 1048576) (t : Sum) : SumGood ss bs t := by
  induction t with
  | leaf s => exact l6Sum_leaf ss bs hS hn s
  | op s a b ia ib => exact l6Sum_op ss bs hS hn s a b ia ib
theorem l6Sum_any (ss : List (List UInt8)) (bs : List Bx) (hS : shortS ss) (hn : ss.length ≤ 1048576) (t : Sum) (k B : Nat) (v u : Value) (w : World) : SumAt ss k t → SeeV w B v (ss.map str) → SeeBx w B u bs → B ≤ w.heap.size →
    Calls Tryz.prog 73 #[v, .int .i64 k, u] w (SumOut (evalT bs t) (k + t.flat.length) w) := l6Sum_good ss bs hS hn t k B v u w

def RdLt (r : Option Int) (w : World) (e : Ending) (w' : World) : Prop := e = .returned (.tuple #[.int .i64 (r.getD 0), .bool r.isSome]) ∧ Below w.heap.size w w'

set_option maxHeartbeats 2000000 in
theorem sSumOf_any (ss : List (List UInt8)) (bs : List Bx) (a : Int) (B : Nat) (v u : Value) (w : World) (h : SeeV w B v (ss.map str)) (hu : SeeBx w B u bs) (hB : B ≤ w.heap.size) (hS : shortS ss) (hn : ss.length ≤ 1048576) (hSb : shortB bs) :
    Calls Tryz.prog 44 #[v, .int .i64 a, u] w (RdLt (sumOfS ss a bs) w) := by
  obtain ⟨A, c, e⟩ := strs_shape h
  subst e
  obtain ⟨Au, cu, e⟩ := hu.shape
  subst e
  rcases end_dec ss a with hq | hq
  · have HE := Lib.hid (sumOf_no (bs := bs) (.inl (show sumEndS ss a < 0 by omega)))
    have HQ := Lib.hid hq
    clear hq
    generalize sumOfS ss a bs = R at HE ⊢
    go_enter Tryz.func44, Tryz.ntmps44
    go_wp2_with fail
    refine (sSumEnd_any B _ ss a _ h hB hS hn).mono ?_
    rintro e w1 ⟨rfl, b1⟩
    rw [HQ.out]
    go_wp2_with fail
    go_ret2
    exact ⟨rd_none HE.out, b1⟩
  · obtain ⟨k, t, rfl, ht⟩ := sum_of_end hq
    have HQ : Hid (sumEndS ss (k : Int) = ((k + t.flat.length : Nat) : Int)) := Lib.hid (sum_end ht)
    have hl := sum_len ht
    have HT := Lib.hid ht
    clear hq ht
    cases hb : boxesB bs
    · have HE := Lib.hid (sumOf_no (ss := ss) (a := (k : Int)) (.inr hb))
      have HB := Lib.hid hb
      clear hb
      generalize sumOfS ss (k : Int) bs = R at HE ⊢
      generalize t.flat.length = m at HQ hl
      go_enter Tryz.func44, Tryz.ntmps44
      go_wp2_with fail
      refine (sSumEnd_any B _ ss _ _ h hB hS hn).mono ?_
      rintro e w1 ⟨rfl, b1⟩
      rw [HQ.out]
      go_wp2_with fail
      refine (sBoxesOk_any B _ bs _ (hu.below (b1.mono hB)) (Nat.le_trans hB b1.size) hSb).mono ?_
      rintro e w2 ⟨rfl, b2⟩
      rw [HB.out]
      go_wp2_with fail
      go_ret2
      exact ⟨rd_none HE.out, below_then b1 b2 (Nat.le_refl _)⟩
    · have HE := Lib.hid (sumOf_tree HT.out hb)
      have HB := Lib.hid hb
      clear hb
      rw [HE.out]
      have HC := Lib.hid (l6Sum_any ss bs hS hn t k B (.slice A ss.length c) (.slice Au bs.length cu))
      generalize evalT bs t = R at HC ⊢
      generalize t.flat.length = m at HQ hl HC
      go_enter Tryz.func44, Tryz.ntmps44
      go_wp2_with fail
      refine (sSumEnd_any B _ ss _ _ h hB hS hn).mono ?_
      rintro e w1 ⟨rfl, b1⟩
      rw [HQ.out]
      go_wp2_with fail
      refine (sBoxesOk_any B _ bs _ (hu.below (b1.mono hB)) (Nat.le_trans hB b1.size) hSb).mono ?_
      rintro e w2 ⟨rfl, b2⟩
      rw [HB.out]
      replace b2 := below_then b1 b2 (Nat.le_refl _)
      clear b1
      go_wp2_with fail
      refine (HC.out _ HT.out (h.below (b2.mono hB)) (hu.below (b2.mono hB)) (Nat.le_trans hB b2.size)).mono ?_
      rintro e w3 ⟨rfl, b3⟩
      generalize hx : R.getD 0 = x
      generalize hy : R.isSome = y
      have HX := Lib.hid hx
      have HY := Lib.hid hy
      clear hx hy
      go_wp2_with fail
      go_ret2
      exact ⟨rd_ret HX.out.symm HY.out.symm, below_then b2 b3 (Nat.le_refl _)⟩

end Go.Proofs.YtblnonlcjfcblaaGreatDoor
