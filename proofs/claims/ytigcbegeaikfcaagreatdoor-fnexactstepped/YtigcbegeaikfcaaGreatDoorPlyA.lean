/- Layer 9 (the player): how the program finds a box by its name: byName, cmp.Compare at text, slices.BinarySearchFunc at boxes. No conditions but those typed. Layer 9 (the player): slices.Insert at boxes, of one box. No conditions but those typed. -/
import Derived.Test.YtigcbegeaikfcaaGreatDoorCoreM
import Derived.Laws.CopyRow
import Derived.Lib.Overlaps
import Derived.Lib.AppendZerosOnto
import Derived.Maps.AppendAt
import Derived.Laws.Externs
import Derived.Deep.RegionLaw
namespace Go.Proofs.YtigcbegeaikfcaaGreatDoor
open Go.RowKit
set_option linter.unusedVariables false

set_option maxHeartbeats 400000 in
theorem isNaN_any (s : List UInt8) (w : World) : Calls Tryz.prog 194 #[str s] w fun e w' => e = .returned (.bool false) ∧ w = w' := by
  have h : (!(s == s)) = false := by simp
  go_enter Tryz.func194, Tryz.ntmps194
  go_wp2_with fail
  go_ret
  exact ⟨rfl, rfl⟩

/-- How two texts stand to each other: -1, 0, 1. -/
def cmpS (s n : List UInt8) : Int := if Op.bytesLess s n then -1 else if Op.bytesLess n s then 1 else 0

set_option maxHeartbeats 400000 in
theorem compare_any (s n : List UInt8) (w : World) : Calls Tryz.prog 189 #[str s, str n] w fun e w' => e = .returned (.int .i64 (cmpS s n)) ∧ w = w' := by
  cases h1 : Op.bytesLess s n
  · cases h2 : Op.bytesLess n s
    · have hq : (!(s == n)) = false := by
        have := less_or_eq s n
        rw [h1, h2] at this
        simpa using this
      have HE : Hid (cmpS s n = 0) := Lib.hid (by unfold cmpS; rw [h1, h2]; rfl)
      go_enter Tryz.func189, Tryz.ntmps189
      go_wp2_with (go_at_call 194; refine (isNaN_any _ _).mono ?_; rintro e w' ⟨rfl, rfl⟩)
      go_ret
      exact ⟨ret_int HE.out.symm, rfl⟩
    · have hq : (!(s == n)) = true := by
        have := less_or_eq s n
        rw [h1, h2] at this
        simpa using this
      have HE : Hid (cmpS s n = 1) := Lib.hid (by unfold cmpS; rw [h1, h2]; rfl)
      go_enter Tryz.func189, Tryz.ntmps189
      go_wp2_with (go_at_call 194; refine (isNaN_any _ _).mono ?_; rintro e w' ⟨rfl, rfl⟩)
      go_ret
      exact ⟨ret_int HE.out.symm, rfl⟩
  · have HE : Hid (cmpS s n = -1) := Lib.hid (by unfold cmpS; rw [h1]; rfl)
    go_enter Tryz.func189, Tryz.ntmps189
    go_wp2_with (go_at_call 194; refine (isNaN_any _ _).mono ?_; rintro e w' ⟨rfl, rfl⟩)
    go_ret
    exact ⟨ret_int HE.out.symm, rfl⟩

set_option maxHeartbeats 400000 in
theorem byName_any (s : List UInt8) (x : Int) (n : List UInt8) (w : World) : Calls Tryz.prog 182 #[.agg #[str s, .int .i64 x], str n] w fun e w' => e = .returned (.int .i64 (cmpS s n)) ∧ Below w.heap.size w w' := by
  go_enter Tryz.func182, Tryz.ntmps182
  go_wp2_with fail
  refine (compare_any _ _ _).mono ?_
  rintro e w' ⟨rfl, rfl⟩
  go_wp2_with fail
  go_ret
  exact ⟨rfl, below_new _ _⟩

theorem cmpS_neg {s n : List UInt8} : cmpS s n < 0 ↔ Op.bytesLess s n = true := by
  unfold cmpS
  cases Op.bytesLess s n <;> cases Op.bytesLess n s <;> simp
theorem cmpS_zero {s n : List UInt8} : cmpS s n = 0 ↔ s = n := by
  unfold cmpS
  rw [less_lt, less_lt]
  constructor
  · intro h
    by_cases h1 : s < n
    · simp [h1] at h
    · by_cases h2 : n < s
      · simp [h1, h2] at h
      · have a : n ≤ s := h1
        have b : s ≤ n := h2
        exact List.le_antisymm b a
  · rintro rfl
    simp [List.lt_irrefl]

/-- Boxes that rise. -/
def Rise (bs : List Bx) : Prop := ∀ (i j : Nat) (b c : Bx), i < j → bs[i]? = some b → bs[j]? = some c → Op.bytesLess b.1 c.1 = true
theorem less_trans {a b c : List UInt8} (h1 : Op.bytesLess a b = true) (h2 : Op.bytesLess b c = true) : Op.bytesLess a c = true := by
  rw [less_lt, decide_eq_true_eq] at *
  exact List.lt_trans h1 h2
theorem boxes_rise {bs : List Bx} (h : boxesB bs = true) : Rise bs := by
  have hat : ∀ k, k < bs.length → boxAt bs k = true := fun k hk => by
    unfold boxesB boxesTo at h
    simp only [Bool.and_eq_true] at h
    exact List.all_eq_true.1 h.1 k (List.mem_range.2 hk)
  have step : ∀ j b c, bs[j]? = some b → bs[j + 1]? = some c → Op.bytesLess b.1 c.1 = true := fun j b c hb hc => by
    have := hat (j + 1) (List.getElem?_eq_some_iff.1 hc).1
    unfold boxAt at this
    rw [hc] at this
    simp only [risesAt, hb, Bool.and_eq_true] at this
    exact this.2.2
  intro i j b c hij hb hc
  induction j generalizing c with
  | zero => omega
  | succ j ih =>
    by_cases e : i = j
    · subst e; exact step i b c hb hc
    · have hj : j < bs.length := by have := (List.getElem?_eq_some_iff.1 hc).1; omega
      have hd := List.getElem?_eq_getElem hj
      exact less_trans (ih bs[j] (by omega) hd) (step j _ c hd hc)

/-- Does the box at that place bear that name? -/
def isS (bs : List Bx) (n : List UInt8) : Bool := match bs[placeS bs n]? with
  | some b => decide (b.1 = n)
  | none => false
theorem isS_at {bs : List Bx} {n : List UInt8} {k : Nat} {b : Bx} (hp : placeS bs n = k) (hb : bs[k]? = some b) : isS bs n = decide (cmpS b.1 n = 0) := by
  unfold isS
  rw [hp, hb]
  exact decide_eq_decide.2 cmpS_zero.symm
theorem isS_end {bs : List Bx} {n : List UInt8} (hp : placeS bs n = bs.length) : isS bs n = false := by
  unfold isS
  rw [hp, List.getElem?_eq_none (Nat.le_refl _)]
theorem less_not_less {b c n : List UInt8} (h1 : Op.bytesLess b c = true) (h2 : Op.bytesLess b n = false) : Op.bytesLess c n = false := by
  cases h : Op.bytesLess c n
  · rfl
  · rw [less_trans h1 h] at h2; cases h2

theorem search_ret {k m : Nat} {a b : Bool} (h : k = m) (h2 : a = b) : Ending.returned (.tuple #[.int .i64 (k : Int), .bool a]) = .returned (.tuple #[.int .i64 (m : Int), .bool b]) := by rw [h, h2]

set_option maxHeartbeats 2000000 in
theorem search_any (B : Nat) (v : Value) (bs : List Bx) (n : List UInt8) (w : World) (h : SeeBx w B v bs) (hB : B ≤ w.heap.size) (hr : Rise bs) (hl : bs.length ≤ 12) :
    Calls Tryz.prog 181 #[v, str n, .func (.func 182) #[] #[]] w fun e w' =>
      e = .returned (.tuple #[.int .i64 (placeS bs n : Nat), .bool (isS bs n)]) ∧ Below w.heap.size w w' := by
  obtain ⟨A, c, rfl⟩ := h.shape
  have HR := Lib.hid hr
  clear hr
  have HBN := Lib.hid (fun s x w => byName_any s x n w)
  go_enter Tryz.func181, Tryz.ntmps181
  go_wp2_with fail
  go_loopw [9, 10] (fun i j wr => ∃ lo hi : Nat, lo ≤ hi ∧ hi ≤ bs.length ∧ i = .int .i64 lo ∧ j = .int .i64 hi ∧ (∀ t b, t < lo → bs[t]? = some b → Op.bytesLess b.1 n = true) ∧ (∀ t b, hi ≤ t → bs[t]? = some b → Op.bytesLess b.1 n = false) ∧ Below w.heap.size w wr) (fun i j _ => (intOf j).toNat - (intOf i).toNat)
  case atStart => exact ⟨0, bs.length, Nat.zero_le _, Nat.le_refl _, rfl, rfl, fun t b h => absurd h (Nat.not_lt_zero _), fun t b h hb => absurd (List.getElem?_eq_some_iff.1 hb).1 (by omega), Below.refl _ _⟩
  case round =>
    obtain ⟨lo, hi, hlh, hhl, rfl, rfl, hv1, hv2, hbw⟩ := hrel
    have H1 := Lib.hid hv1
    have H2 := Lib.hid hv2
    clear hv1 hv2
    by_cases hlt : lo < hi
    · obtain ⟨m, hm⟩ : ∃ m, m = (lo + hi) / 2 := ⟨_, rfl⟩
      have hm1 : ((lo : Int) + (hi : Int)) / 2 = (m : Int) := by omega
      have hmlt : m < bs.length := by omega
      have hb := List.getElem?_eq_getElem hmlt
      generalize bs[m] = b at hb
      obtain ⟨g, o, rfl, -, h0, h1⟩ := (h.below (hbw.mono hB)).at_ hb
      obtain ⟨s, y⟩ := b
      dsimp only at h0 h1
      have HX := Lib.hid hb
      clear hb
      have hml : lo ≤ m := by omega
      have hmh : m < hi := by omega
      have HM := Lib.hid hm
      clear hm
      cases hs : Op.bytesLess s n
      · have hc : ¬ cmpS s n < 0 := by rw [cmpS_neg, hs]; simp
        have HS := Lib.hid hs
        clear hs
        have HBM := Lib.hid (fun W => HBN.out s y W)
        generalize cmpS s n = z at *
        go_wp2_with (refine (HBM.out _).mono ?_; rintro e w2 ⟨rfl, b2⟩)
        have b3 := below_then hbw b2 (Nat.le_refl _)
        go_roundw
        case rel => exact ⟨lo, m, hml, by omega, rfl, by go_num, H1.out, fun t b ht hb => (by
          by_cases e : t = m
          · subst e; rw [HX.out] at hb; injection hb with hb; subst hb; exact HS.out
          · by_cases ht2 : hi ≤ t
            · exact H2.out t b ht2 hb
            · cases hq : Op.bytesLess b.1 n
              · rfl
              · have := less_trans (HR.out m t _ b (by omega) HX.out hb) hq
                rw [HS.out] at this; cases this), b3⟩
        case measure => simp [intOf]; omega
      · have hc : cmpS s n < 0 := cmpS_neg.2 hs
        have HS := Lib.hid hs
        clear hs
        have HBM := Lib.hid (fun W => HBN.out s y W)
        generalize cmpS s n = z at *
        go_wp2_with (refine (HBM.out _).mono ?_; rintro e w2 ⟨rfl, b2⟩)
        have b3 := below_then hbw b2 (Nat.le_refl _)
        go_roundw
        case rel => exact ⟨m + 1, hi, by omega, hhl, by go_num, rfl, fun t b ht hb => (by
          by_cases e : t = m
          · subst e; rw [HX.out] at hb; injection hb with hb; subst hb; exact HS.out
          · exact less_trans (HR.out t m b _ (by omega) hb HX.out) HS.out), H2.out, b3⟩
        case measure => simp [intOf]; omega
    · obtain rfl : lo = hi := by omega
      have hp : placeS bs n = lo := place_at (fun t b ht hb => H1.out t b ht hb) (fun b hb => H2.out lo b (Nat.le_refl _) hb) hhl
      by_cases hn : lo < bs.length
      · have hb := List.getElem?_eq_getElem hn
        generalize bs[lo] = b at hb
        obtain ⟨g, o, rfl, -, h0, h1⟩ := (h.below (hbw.mono hB)).at_ hb
        have HE := Lib.hid (isS_at hp hb)
        obtain ⟨s, y⟩ := b
        dsimp only at h0 h1 HE
        have HP := Lib.hid hp
        clear hb hp h
        have HBM := Lib.hid (fun W => HBN.out s y W)
        generalize cmpS s n = z at *
        by_cases hz : z = 0
        · go_wp2_with (refine (HBM.out _).mono ?_; rintro e w2 ⟨rfl, b2⟩)
          have b3 := below_then hbw b2 (Nat.le_refl _)
          go_ret2
          exact ⟨search_ret HP.out.symm (by rw [HE.out]; simp [hz]), b3⟩
        · go_wp2_with (refine (HBM.out _).mono ?_; rintro e w2 ⟨rfl, b2⟩)
          have b3 := below_then hbw b2 (Nat.le_refl _)
          go_ret2
          exact ⟨search_ret HP.out.symm (by rw [HE.out]; simp [hz]), b3⟩
      · have HE := Lib.hid (isS_end (by rw [hp]; omega))
        have HP := Lib.hid hp
        clear hp h
        go_wp2_with fail
        go_ret2
        exact ⟨search_ret HP.out.symm HE.out.symm, hbw⟩

end Go.Proofs.YtigcbegeaikfcaaGreatDoor

namespace Go.Proofs.YtigcbegeaikfcaaGreatDoor
open Go.RowKit
set_option linter.unusedVariables false

/-- 'copy' between rows of elements of two cells. -/
theorem copy_row2 {P : Program} (w : World) (dT sT ty elem : TypeId) (i : TypeInfo) (g o dLen dCap : Nat) (a : Addr) (sLen sCap m : Nat) (cur : Array Value) (t : TypeId) (cs : List Value)
    (hu : P.underlying dT = some (.slice elem)) (hi : P.info? elem = some i) (hs : i.size = 2) (hg : w.heap[g]? = some (.cells cur t (0, 0))) (hm : Nat.min sLen dLen = m) (hn : cs.length = m * 2)
    (hsrc : ∀ j v, cs[j]? = some v → w.cell? (a.add j) = some v) (hfit : o + cs.length ≤ cur.size) (h1 : ∀ v ∈ cs, v.oneCell' = true) :
    (Builtin.copy_ #[dT, sT] ty #[.slice (some ⟨g, o, none⟩) dLen dCap, .slice (some a) sLen sCap]).run P w =
      .ok (goInt m) (w.setRow g (cur.toList.take o ++ cs ++ cur.toList.drop (o + cs.length)).toArray) := by
  have hl := run_loadCells_list (P := P) w a cs hsrc
  have hst := run_storeCells_at P g o t cs 0 cur w hg (by simpa using hfit) h1
  rw [hn] at hl
  simp [Builtin.copy_, run_underlying hu, Builtin.lenOf, Builtin.firstCells, sizeOf, typeInfo, hi, hs, hm, hl, hst, hn]

theorem wpList_copyB {P : Program} (w : World) {ops : Array Oper} {rest : List Oper} {o : Oper} {a : Act} {Q : Exit → Act → World → Prop} (hgd : o.guard = none) (d s : Operand) (t t' : TypeId)
    (ho : o.op = .call { callee := .builtin .copy, args := #[d, s], argTypes := #[t, t'] }) (v u : Value) (hd : a.eval d = v) (hs : a.eval s = u) {v' : Value} {w' : World}
    (hr : (Builtin.copy_ #[t, t'] o.type #[v, u]).run P w = .ok v' w') (h : wpList P ops Q rest (a.put o.dst v') w') : wpList P ops Q (o :: rest) a w := by
  refine wpList_plain hgd fun K hK => ?_
  unfold Oper.wp execOp
  simp only [ho, resolve, invoke, builtin, Sem.run_bind, Sem.run_pure, Result.andThen_ok, List.map_toArray, List.map_cons, List.map_nil, hd, hs, hr]
  exact hK _ _ h

theorem wpList_appB {P : Program} (w : World) {ops : Array Oper} {rest : List Oper} {o : Oper} {a : Act} {Q : Exit → Act → World → Prop} (hgd : o.guard = none) (d s : Operand) (t t' : TypeId)
    (ho : o.op = .call { callee := .builtin .append, args := #[d, s], argTypes := #[t, t'] }) (v u : Value) (hd : a.eval d = v) (hs : a.eval s = u) {v' : Value} {w' : World}
    (hr : (Builtin.append_ #[t, t'] o.type #[v, u]).run P w = .ok v' w') (h : wpList P ops Q rest (a.put o.dst v') w') : wpList P ops Q (o :: rest) a w := by
  refine wpList_plain hgd fun K hK => ?_
  unfold Oper.wp execOp
  simp only [ho, resolve, invoke, builtin, Sem.run_bind, Sem.run_pure, Result.andThen_ok, List.map_toArray, List.map_cons, List.map_nil, hd, hs, hr]
  exact hK _ _ h

theorem step_copyB {P : Program} {ops : Array Oper} {o : Oper} {a : Act} {w : World} {K : Act → World → Prop} {Q : Exit → Act → World → Prop} {E : Prop}
    (hg : o.guard = none) (d x : Operand) (dT sT : TypeId) (hop : o.op = Op.call { callee := Callee.builtin Builtin.copy, args := #[d, x], argTypes := #[dT, sT] })
    (v u : Value) (hd : a.eval d = v) (hx : a.eval x = u) {v' : Value} {w' : World} (hr : (Builtin.copy_ #[dT, sT] o.type #[v, u]).run P w = .ok v' w') (hK : K (a.put o.dst v') w') :
    if Region.wanted o (yielded ops a.tmps) = true then Oper.wp P o a w K Q else E := by
  have hw : Region.wanted o (yielded ops a.tmps) = true := by simp [Region.wanted, hg]
  rw [if_pos hw]
  unfold Oper.wp
  simp [execOp, hop, resolve, invoke, builtin, hd, hx, hr, Result.andThen]
  exact hK

/-- What Insert answers: a row of one's own. -/
def InsOut (B : Nat) (v : Value) (bs : List Bx) (w : World) (e : Ending) (w' : World) : Prop :=
  ∃ g' c', e = .returned (.slice (some ⟨g', 0, none⟩) bs.length c') ∧ OwnBx w' B 92 (.slice (some ⟨g', 0, none⟩) bs.length c') bs ∧ w.grownBy w' v.ownBlock ∧ (v.ownBlock = some g' ∨ w.heap.size ≤ g')

/-- The boxes with one put in. -/
def insS (bs : List Bx) (k : Nat) (b : Bx) : List Bx := bs.take k ++ [b] ++ bs.drop k
theorem insS_len {bs : List Bx} {k : Nat} {b : Bx} (hk : k ≤ bs.length) : (insS bs k b).length = bs.length + 1 := by unfold insS; simp; omega
theorem flat_take (bs : List Bx) (k : Nat) : ((bs.take k).map boxV).flatten = (bs.map boxV).flatten.take (k * 2) := by
  induction bs generalizing k with
  | nil => simp
  | cons b r ih =>
    cases k with
    | zero => simp
    | succ k =>
      rw [show (k + 1) * 2 = k * 2 + 1 + 1 by omega]
      simp only [List.take_succ_cons, List.map_cons, List.flatten_cons, ih, boxV, List.cons_append, List.nil_append]
theorem flat_drop (bs : List Bx) (k : Nat) : ((bs.drop k).map boxV).flatten = (bs.map boxV).flatten.drop (k * 2) := by
  induction bs generalizing k with
  | nil => simp
  | cons b r ih =>
    cases k with
    | zero => simp
    | succ k =>
      rw [show (k + 1) * 2 = k * 2 + 1 + 1 by omega]
      simp only [List.drop_succ_cons, List.map_cons, List.flatten_cons, ih, boxV, List.cons_append, List.nil_append]
theorem insS_flat (bs : List Bx) (k : Nat) (b : Bx) : ((insS bs k b).map boxV).flatten = (bs.map boxV).flatten.take (k * 2) ++ [str b.1, .int .i64 b.2] ++ (bs.map boxV).flatten.drop (k * 2) := by
  unfold insS
  rw [List.map_append, List.flatten_append, List.map_append, List.flatten_append, flat_take, flat_drop]
  simp

/-- Shifting in place, then the one put in. -/
theorem shift_row {L F : List Value} {a : Nat} {x y : Value} (hF : L.take F.length = F) (ha : a ≤ F.length) (hL : F.length + 2 ≤ L.length) :
    ((L.take (a + 2) ++ F.drop a ++ L.drop (a + 2 + (F.drop a).length)).take a ++ [x, y] ++ (L.take (a + 2) ++ F.drop a ++ L.drop (a + 2 + (F.drop a).length)).drop (a + 2)).take (F.length + 2) = F.take a ++ [x, y] ++ F.drop a := by
  have h1 : (L.take (a + 2)).length = a + 2 := by rw [List.length_take]; omega
  have h2 : (L.take (a + 2) ++ F.drop a ++ L.drop (a + 2 + (F.drop a).length)).take a = F.take a := by
    rw [List.append_assoc, List.take_append_of_le_length (by omega), List.take_take, ← hF, List.take_take]
    congr 1
    omega
  have h3 : (L.take (a + 2) ++ F.drop a ++ L.drop (a + 2 + (F.drop a).length)).drop (a + 2) = F.drop a ++ L.drop (a + 2 + (F.drop a).length) := by
    rw [List.append_assoc]
    have := List.drop_left (l₁ := L.take (a + 2)) (l₂ := F.drop a ++ L.drop (a + 2 + (F.drop a).length))
    rwa [h1] at this
  rw [h2, h3, ← List.append_assoc]
  have h4 : (F.take a ++ [x, y] ++ F.drop a).length = F.length + 2 := by simp; omega
  rw [List.take_append_of_le_length (by omega), List.take_of_length_le (by omega)]

/-- A new row: what stood ahead, the one put in, what stood behind. -/
theorem fresh_row {F Z Y : List Value} {a : Nat} {x y : Value} (ha : a ≤ F.length) (hZ : Z.length = F.length + 2 - a) :
    ((((F.take a ++ Z ++ Y).take a ++ [x, y] ++ (F.take a ++ Z ++ Y).drop (a + 2)).take (a + 2) ++ F.drop a ++ ((F.take a ++ Z ++ Y).take a ++ [x, y] ++ (F.take a ++ Z ++ Y).drop (a + 2)).drop (a + 2 + (F.drop a).length))).take (F.length + 2) = F.take a ++ [x, y] ++ F.drop a := by
  have h1 : (F.take a).length = a := by rw [List.length_take]; omega
  have h2 : (F.take a ++ Z ++ Y).take a = F.take a := by
    rw [List.append_assoc, List.take_append_of_le_length (by omega), List.take_of_length_le (by omega)]
  rw [h2]
  have h3 : (F.take a ++ [x, y]).length = a + 2 := by simp; omega
  have h4 : (F.take a ++ [x, y] ++ (F.take a ++ Z ++ Y).drop (a + 2)).take (a + 2) = F.take a ++ [x, y] := by
    rw [List.take_append_of_le_length (by omega), List.take_of_length_le (by omega)]
  rw [h4]
  have h5 : (F.take a ++ [x, y] ++ F.drop a).length = F.length + 2 := by simp; omega
  rw [List.take_append_of_le_length (by omega), List.take_of_length_le (by omega)]

theorem news2 {w : World} {g k : Nat} {bs : List Bx} (h : SeeBx w w.heap.size (.slice (some ⟨g, 0, none⟩) bs.length k) bs) {a : Nat} : ∀ j u, ((bs.map boxV).flatten.drop a)[j]? = some u → w.cell? ((⟨g, a, none⟩ : Addr).add j) = some u := fun j u hu => by
  rw [List.getElem?_drop] at hu
  have := bx_news9 h (a + j) u hu
  rw [add_at8, Nat.zero_add] at this
  rw [add_at8]
  exact this

set_option maxHeartbeats 4000000 in
set_option maxRecDepth 100000 in
/-- At the end. -/
theorem insert_end (B vb : Nat) (v : Value) (bs : List Bx) (n : List UInt8) (x : Int) (w : World) (h : OwnBx w B 92 v bs) (hB : B ≤ w.heap.size) (hl : bs.length < 12) (hb : w.heap[vb]? = some (.cells #[str n, .int .i64 x] 92 (0, 0))) :
    Calls Tryz.prog 183 #[v, .int .i64 (bs.length : Nat), .slice (some ⟨vb, 0, none⟩) 1 1] w (InsOut B v (insS bs bs.length (n, x)) w) := by
  obtain ⟨i0, hi, hz0, hz1, hz2⟩ := info_parts Tryz.infoBox
  have hown := h.row0
  have HV := Lib.hid (show ∀ w' v', w'.ownsRow B 92 2 v' (bs.length + 1) ((bs.map boxV).flatten ++ [str n, .int .i64 x]) → w.grownBy w' v.ownBlock → ¬ v' = .slice none 0 0 → (v'.ownBlock = v.ownBlock ∨ v'.ownBlock = some w.heap.size) → InsOut B v (insS bs bs.length (n, x)) w (.returned v') w' from fun w' v' o gr hn hat => by
    obtain ⟨g', c', rfl⟩ := own_base o hn
    have hlen : (insS bs bs.length (n, x)).length = bs.length + 1 := insS_len (Nat.le_refl _)
    refine ⟨g', c', by rw [hlen], ⟨?_, boxes_two _⟩, gr, ?_⟩
    · rw [List.length_map, insS_flat, hlen, List.take_of_length_le (by rw [bx_len9]; exact Nat.le_refl _), List.drop_of_length_le (by rw [bx_len9]; exact Nat.le_refl _), List.append_nil]
      exact o
    · rcases hat with q | q
      · exact .inl (q ▸ rfl)
      · simp [Value.ownBlock] at q; exact .inr (by omega))
  have hnews : ∀ j u, [str n, Value.int .i64 x][j]? = some u → w.cell? ((⟨vb, 0, none⟩ : Addr).add j) = some u := fun j u hu => by
    rw [add_at8, Nat.zero_add, cell_of_row _ _ _ _ _ (0, 0) hb]
    simpa using hu
  have h1 : ∀ u ∈ [str n, Value.int .i64 x], u.oneCell' = true := fun u hu => by
    simp at hu; rcases hu with rfl | rfl <;> rfl
  obtain ⟨A, c, rfl⟩ := h.see.shape
  have hc : A.isSome = true → bs.length ≤ c := fun hA => by
    rcases h.1.2 with ⟨q, _⟩ | ⟨g2, c2, cur, q, _, _, h3, _⟩
    · injection q with q; subst q; cases hA
    · injection q with _ _ q3; subst q3; rwa [List.length_map] at h3
  have hcn : c ≤ 9223372036854775807 ∧ bs.length ≤ c := by
    rcases h.1.2 with ⟨q, q2⟩ | ⟨g2, c2, cur, q, _, _, h3, h4, _⟩
    · injection q with _ q3 q4; subst q4; omega
    · injection q with _ _ q3; subst q3; rw [List.length_map] at h3; unfold maxLen at h4; omega
  have hcn1 : (bs.length : Int) ≤ (c : Int) := by omega
  have hcn2 : (c : Int) ≤ 9223372036854775807 := by omega
  clear hb h hc
  cases A with
  | none =>
    go_enter Tryz.func183, Tryz.ntmps183
    go_wp2_with (at_builtin; refine wpList_append_own_at _ rfl _ _ 25 rfl B 92 i0 (.agg #[.string ⟨#[]⟩, .int .i64 0]) 2 24 Tryz.underlying25 hi hz0 hz1 hz2 rfl (by decide) _ _ _ rfl hown ⟨vb, 0, none⟩ 1 1 [str n, .int .i64 x] rfl rfl hnews h1 (by unfold maxLen; omega) (by omega) hB ?_; intro v2 w2 hown2 hgr hnil hat)
    all_goals (go_ret; exact HV.out _ _ hown2 hgr (fun q => by have := (hnil.1 q).2; cases this) hat)
  | some ad =>
    obtain ⟨ga, oa, sp⟩ := ad
    by_cases hck : c = bs.length
    · subst hck
      go_enter Tryz.func183, Tryz.ntmps183
      go_wp2_with (at_builtin; refine wpList_append_own_at _ rfl _ _ 25 rfl B 92 i0 (.agg #[.string ⟨#[]⟩, .int .i64 0]) 2 24 Tryz.underlying25 hi hz0 hz1 hz2 rfl (by decide) _ _ _ rfl hown ⟨vb, 0, none⟩ 1 1 [str n, .int .i64 x] rfl rfl hnews h1 (by unfold maxLen; omega) (by omega) hB ?_; intro v2 w2 hown2 hgr hnil hat)
      all_goals (go_ret; exact HV.out _ _ hown2 hgr (fun q => by have := (hnil.1 q).2; cases this) hat)
    · have hck2 : ¬ (bs.length = c) := fun q => hck q.symm
      go_enter Tryz.func183, Tryz.ntmps183
      go_wp2_with (at_builtin; refine wpList_append_own_at _ rfl _ _ 25 rfl B 92 i0 (.agg #[.string ⟨#[]⟩, .int .i64 0]) 2 24 Tryz.underlying25 hi hz0 hz1 hz2 rfl (by decide) _ _ _ rfl hown ⟨vb, 0, none⟩ 1 1 [str n, .int .i64 x] rfl rfl hnews h1 (by unfold maxLen; omega) (by omega) hB ?_; intro v2 w2 hown2 hgr hnil hat)
      all_goals (go_ret; exact HV.out _ _ hown2 hgr (fun q => by have := (hnil.1 q).2; cases this) hat)

set_option maxHeartbeats 4000000 in
set_option maxRecDepth 100000 in
/-- Ahead of some: there is room. -/
theorem insert_room (B vb g c k : Nat) (bs : List Bx) (n : List UInt8) (x : Int) (w : World) (h : OwnBx w B 92 (.slice (some ⟨g, 0, none⟩) bs.length c) bs) (hB : B ≤ w.heap.size) (hl : bs.length < 12) (hk : k < bs.length) (hc : bs.length < c)
    (hb : w.heap[vb]? = some (.cells #[str n, .int .i64 x] 92 (0, 0))) (hne : vb ≠ g) :
    Calls Tryz.prog 183 #[.slice (some ⟨g, 0, none⟩) bs.length c, .int .i64 (k : Nat), .slice (some ⟨vb, 0, none⟩) 1 1] w (InsOut B (.slice (some ⟨g, 0, none⟩) bs.length c) (insS bs k (n, x)) w) := by
  obtain ⟨i0, hi, hz0, hz1, hz2⟩ := info_parts Tryz.infoBox
  have hsee := h.see
  obtain ⟨hown, -⟩ := h
  rw [List.length_map] at hown
  obtain ⟨hfl, hrow⟩ := hown
  rcases hrow with ⟨q, -⟩ | ⟨g2, c2, cur, q, hBg, hg, -, hcm, hcs, htk⟩
  · cases q
  injection q with q1 q2 q3
  injection q1 with q1
  injection q1 with q1
  subst q1 q3
  unfold maxLen at hcm
  have hov : ∀ lb cb, (callFunc 190 #[.slice (some ⟨vb, 0, none⟩) 1 1, .slice (some ⟨g, (k + 1) * 2, none⟩) lb cb]).run Tryz.prog w = .ok (.value (.bool false)) w := fun lb cb => by
    rw [run_callFunc_extern Tryz.func190 (by kernel_rfl) (by kernel_rfl) (by kernel_rfl) (e := Extern.SlicesOverlaps.overlaps #[25, 25] #[4]) (by kernel_rfl),
      Lib.run_overlaps_apart w 25 4 92 Tryz.underlying25 2 (fun w => by simp [sizeOf, typeInfo, hi, hz1]) ⟨vb, 0, none⟩ ⟨g, (k + 1) * 2, none⟩ 1 1 lb cb hne 92 92 2 (c * 2) (by simp [World.shape?, hb]) (by simp [World.shape?, hg, hcs]) (by omega) (frozen_row hb) (frozen_row hb)]
    rfl
  obtain ⟨F, hF⟩ : ∃ F, F = (bs.map boxV).flatten := ⟨_, rfl⟩
  have hFl : F.length = bs.length * 2 := by rw [hF, bx_len9]
  have h1F : ∀ u ∈ F, u.oneCell' = true := fun u hu => bx_one9 bs u (hF ▸ hu)
  obtain ⟨L, hL⟩ : ∃ L, L = cur.toList := ⟨_, rfl⟩
  have hLl : L.length = c * 2 := by rw [hL]; simpa using hcs
  have hLF : L.take F.length = F := by rw [hL, hFl, htk, hF]
  obtain ⟨R1, hR1⟩ : ∃ R1, R1 = L.take (k * 2 + 2) ++ F.drop (k * 2) ++ L.drop (k * 2 + 2 + (F.drop (k * 2)).length) := ⟨_, rfl⟩
  have hR1l : R1.length = c * 2 := by rw [hR1]; simp; omega
  obtain ⟨R2, hR2⟩ : ∃ R2, R2 = R1.take (k * 2) ++ [str n, .int .i64 x] ++ R1.drop (k * 2 + 2) := ⟨_, rfl⟩
  have hR2l : R2.length = c * 2 := by rw [hR2]; simp; omega
  have hR2F : R2.take ((bs.length + 1) * 2) = F.take (k * 2) ++ [str n, .int .i64 x] ++ F.drop (k * 2) := by
    have := shift_row (L := L) (F := F) (a := k * 2) (x := str n) (y := .int .i64 x) hLF (by omega) (by omega)
    rw [← hR1, ← hR2] at this
    rw [← this, hFl]
    congr 1
    omega
  have hcp1 : ∀ ty dc sc, (Builtin.copy_ #[25, 25] ty #[.slice (some ⟨g, (k + 1) * 2, none⟩) (bs.length + 1 - (k + 1)) dc, .slice (some ⟨g, k * 2, none⟩) (bs.length + 1 - k) sc]).run Tryz.prog w.drew = .ok (goInt ((bs.length + 1 - (k + 1) : Nat) : Int)) (w.drew.setRow g R1.toArray) := fun ty dc sc => by
    have := copy_row2 (P := Tryz.prog) w.drew 25 25 ty 92 i0 g ((k + 1) * 2) (bs.length + 1 - (k + 1)) dc ⟨g, k * 2, none⟩ (bs.length + 1 - k) sc (bs.length + 1 - (k + 1)) cur 92 (F.drop (k * 2)) Tryz.underlying25 hi hz1 hg (by simp only [Nat.min_def]; split <;> omega) (by rw [List.length_drop, hFl]; omega)
      (fun j v hj => (news2 (a := k * 2) hsee j v (by rw [← hF]; exact hj))) (by rw [List.length_drop, hFl, hcs]; omega) (fun u hu => h1F u (List.mem_of_mem_drop hu))
    rw [← hL, show (k + 1) * 2 = k * 2 + 2 by omega, ← hR1] at this
    rw [show (k + 1) * 2 = k * 2 + 2 by omega]
    exact this
  obtain ⟨W1, hW1⟩ : ∃ W1, W1 = w.drew.setRow g R1.toArray := ⟨_, rfl⟩
  have hg1 : W1.heap[g]? = some (.cells R1.toArray 92 (0, 0)) := by rw [hW1]; exact setRow_heap w.drew g cur _ _ _ hg
  have hb1 : W1.heap[vb]? = some (.cells #[str n, .int .i64 x] 92 (0, 0)) := by rw [hW1, setRow_other _ _ _ _ hne]; exact hb
  have hcp2 : ∀ ty dc, (Builtin.copy_ #[25, 25] ty #[.slice (some ⟨g, k * 2, none⟩) (bs.length + 1 - k) dc, .slice (some ⟨vb, 0, none⟩) 1 1]).run Tryz.prog W1 = .ok (goInt 1) (W1.setRow g R2.toArray) := fun ty dc => by
    have := copy_row2 (P := Tryz.prog) W1 25 25 ty 92 i0 g (k * 2) (bs.length + 1 - k) dc ⟨vb, 0, none⟩ 1 1 1 R1.toArray 92 [str n, .int .i64 x] Tryz.underlying25 hi hz1 hg1 (by simp only [Nat.min_def]; split <;> omega) rfl
      (fun j v hj => by rw [add_at8, Nat.zero_add, cell_of_row _ _ _ _ _ (0, 0) hb1]; simpa using hj) (by simp; omega) (fun u hu => by simp at hu; rcases hu with rfl | rfl <;> rfl)
    simp only [List.length_cons, List.length_nil, Nat.zero_add] at this
    rw [← hR2] at this
    exact this
  have HOUT := Lib.hid (show InsOut B (.slice (some ⟨g, 0, none⟩) bs.length c) (insS bs k (n, x)) w (.returned (.slice (some ⟨g, 0, none⟩) (bs.length + 1) c)) (W1.setRow g R2.toArray) from by
    refine ⟨g, c, by rw [insS_len (by omega)], ⟨⟨?_, .inr ⟨g, c, R2.toArray, by rw [insS_len (by omega), List.length_map, insS_len (by omega)], hBg, ?_, ?_, by unfold maxLen; omega, by simpa using hR2l, ?_⟩⟩, boxes_two _⟩, ⟨by rw [hW1]; rfl, by rw [hW1]; rfl, by rw [hW1]; rfl, by rw [setRow_size, hW1, setRow_size]; exact Nat.le_refl _, fun j hj hn => ?_⟩, .inl rfl⟩
    · rw [List.length_map, bx_len9]
    · exact setRow_heap W1 g _ _ _ _ hg1
    · rw [List.length_map, insS_len (by omega)]; omega
    · rw [List.length_map, insS_len (by omega), insS_flat, ← hF]; exact hR2F
    · have hjg : j ≠ g := fun e => hn (by rw [e]; rfl)
      rw [setRow_other _ _ _ _ hjg, hW1, setRow_other _ _ _ _ hjg]
      rfl)
  rw [← hW1] at hcp1
  have hb1' : (0 : Int) ≤ (k : Int) + 1 := by omega
  have htn : ((k : Int) + 1).toNat = k + 1 := by omega
  have hw1 : IntKind.i64.wrap ((k : Int) + 1) = (k : Int) + 1 := by rw [IntKind.wrap_i64]; omega
  have hz2' : ¬ ((k : Int) = (bs.length : Int)) := by omega
  have hkn : k ≤ bs.length := by omega
  have hc1 : ¬ (c = k + 1) := by omega
  have hc2 : ¬ (c = k) := by omega
  have hc3 : (k : Int) ≤ (bs.length : Int) + 1 := by omega
  have hc4 : (bs.length : Int) + 1 ≤ (c : Int) := by omega
  have hc5 : (c : Int) ≤ 9223372036854775807 := by omega
  clear hR1 hR2 hR2F hR1l hR2l hW1 hLF hLl hL hFl hF h1F htk hcs hg hb hsee hfl hg1 hb1
  go_enter Tryz.func183, Tryz.ntmps183
  go_wp2_with (simp only [hov])
  go_region_law (refine step_copyB rfl _ _ 25 25 rfl (.slice (some ⟨g, (k + 1) * 2, none⟩) (bs.length + 1 - (k + 1)) (c - (k + 1))) (.slice (some ⟨g, k * 2, none⟩) (bs.length + 1 - k) (c - k)) (by simp [Act.eval, Act.put]) (by simp [Act.eval, Act.put]) (hcp1 3 (c - (k + 1)) (c - k)) ?_)
  go_wp2_with (at_builtin; refine wpList_copyB _ rfl _ _ 25 25 rfl _ _ rfl rfl (hcp2 _ _) ?_)
  go_ret
  exact HOUT.out
set_option maxHeartbeats 4000000 in
set_option maxRecDepth 100000 in
/-- Ahead of some: there is no room. -/
theorem insert_grow (B vb g c k : Nat) (bs : List Bx) (n : List UInt8) (x : Int) (w : World) (h : OwnBx w B 92 (.slice (some ⟨g, 0, none⟩) bs.length c) bs) (hB : B ≤ w.heap.size) (hl : bs.length < 12) (hk : k < bs.length) (hc : c = bs.length)
    (hb : w.heap[vb]? = some (.cells #[str n, .int .i64 x] 92 (0, 0))) (hne : vb ≠ g) :
    Calls Tryz.prog 183 #[.slice (some ⟨g, 0, none⟩) bs.length c, .int .i64 (k : Nat), .slice (some ⟨vb, 0, none⟩) 1 1] w (InsOut B (.slice (some ⟨g, 0, none⟩) bs.length c) (insS bs k (n, x)) w) := by
  subst hc
  obtain ⟨i0, hi, hz0, hz1, hz2⟩ := info_parts Tryz.infoBox
  have hsee := h.see
  have hgw : g < w.heap.size := (h.lt g rfl).2
  have hvw : vb < w.heap.size := heap_lt hb
  obtain ⟨F, hF⟩ : ∃ F, F = (bs.map boxV).flatten := ⟨_, rfl⟩
  have hFl : F.length = bs.length * 2 := by rw [hF, bx_len9]
  have h1F : ∀ u ∈ F, u.oneCell' = true := fun u hu => bx_one9 bs u (hF ▸ hu)
  obtain ⟨G, hG⟩ : ∃ G, G = grownCap w (bs.length + 1) bs.length 92 := ⟨_, rfl⟩
  have hGn : bs.length + 1 ≤ G := by rw [hG]; exact grownCap_ge w _ _ _
  have hG63 : G ≤ 9223372036854775807 := by
    have := grownCap_le_maxLen w (bs.length + 1) bs.length 92 (by unfold maxLen; omega)
    rw [← hG] at this
    unfold maxLen at this
    omega
  have hold : (Builtin.firstCells i0.size k (.slice (some ⟨g, 0, none⟩) k bs.length)).run Tryz.prog w.drew = .ok (F.take (k * 2)).toArray w.drew := by
    rw [hz1]
    exact run_firstCells_some w.drew 2 k ⟨g, 0, none⟩ k bs.length (F.take (k * 2)) (by rw [List.length_take]; omega) (fun j v hj => by
      rw [List.getElem?_take] at hj
      split at hj
      · have := news2 (a := 0) hsee j v (by rw [← hF, List.drop_zero]; exact hj)
        exact this
      · cases hj)
  obtain ⟨Z, hZ⟩ : ∃ Z : Array Value, Z = Builtin.zeroCells (Value.agg #[.string ⟨#[]⟩, .int .i64 0]).cells (bs.length + 1 - k) := ⟨_, rfl⟩
  obtain ⟨Y, hY⟩ : ∃ Y : Array Value, Y = Builtin.zeroCells (Value.agg #[.string ⟨#[]⟩, .int .i64 0]).cells (G - (bs.length + 1)) := ⟨_, rfl⟩
  have hZl : Z.size = (bs.length + 1 - k) * 2 := by rw [hZ]; simp [Builtin.zeroCells, Value.cells]
  have hYl : Y.size = (G - (bs.length + 1)) * 2 := by rw [hY]; simp [Builtin.zeroCells, Value.cells]
  have hrz : ∀ ty, (Builtin.append_ #[25, 3] ty #[.slice (some ⟨g, 0, none⟩) k bs.length, .int .i64 ((bs.length : Int) + 1 - (k : Int))]).run Tryz.prog w =
      .ok (.slice (some ⟨w.heap.size, 0, none⟩) (bs.length + 1) G) (w.drew.alloc (.cells ((F.take (k * 2)).toArray ++ Z ++ Y) 92)) := fun ty => by
    have h := Lib.run_append_grow_zeros (P := Tryz.prog) w 25 3 ty 92 i0 _ .i64 .i64 Tryz.underlying25 Tryz.underlying3 hi hz0 (some ⟨g, 0, none⟩) k bs.length (F.take (k * 2)) hold (bs.length + 1 - k) (by omega) (by omega) (by omega) (by omega) (by rw [hz2]; omega) (by rw [hz2, show k + (bs.length + 1 - k) = bs.length + 1 by omega]; exact growslice_fits (by omega) (by omega))
    rw [show k + (bs.length + 1 - k) = bs.length + 1 by omega, ← hG, ← hZ, ← hY] at h
    rw [show (bs.length : Int) + 1 - (k : Int) = ((bs.length + 1 - k : Nat) : Int) by omega]
    exact h
  obtain ⟨R0, hR0⟩ : ∃ R0, R0 = F.take (k * 2) ++ Z.toList ++ Y.toList := ⟨_, rfl⟩
  have hR0l : R0.length = G * 2 := by rw [hR0]; simp [hZl, hYl]; omega
  have hR0a : (F.take (k * 2)).toArray ++ Z ++ Y = R0.toArray := by rw [hR0]; simp
  rw [hR0a] at hrz
  obtain ⟨R1, hR1⟩ : ∃ R1, R1 = R0.take (k * 2) ++ [str n, .int .i64 x] ++ R0.drop (k * 2 + 2) := ⟨_, rfl⟩
  have hR1l : R1.length = G * 2 := by rw [hR1]; simp; omega
  obtain ⟨R2, hR2⟩ : ∃ R2, R2 = R1.take (k * 2 + 2) ++ F.drop (k * 2) ++ R1.drop (k * 2 + 2 + (F.drop (k * 2)).length) := ⟨_, rfl⟩
  have hR2l : R2.length = G * 2 := by rw [hR2]; simp; omega
  have hR2F : R2.take ((bs.length + 1) * 2) = F.take (k * 2) ++ [str n, .int .i64 x] ++ F.drop (k * 2) := by
    have := fresh_row (F := F) (Z := Z.toList) (Y := Y.toList) (a := k * 2) (x := str n) (y := .int .i64 x) (by omega) (by simp [hZl]; omega)
    rw [← hR0, ← hR1, ← hR2] at this
    rw [← this, hFl]
    congr 1
    omega
  obtain ⟨W1, hW1⟩ : ∃ W1, W1 = (w.alloc (.cells R0.toArray 92)).drew := ⟨_, rfl⟩
  have hs1 : W1.heap.size = w.heap.size + 1 := by rw [hW1]; show (w.alloc _).heap.size = _; simp
  have hg1 : W1.heap[w.heap.size]? = some (.cells R0.toArray 92 (0, 0)) := by rw [hW1]; exact heap_alloc_new w _
  have hold1 : ∀ j, j < w.heap.size → W1.heap[j]? = w.heap[j]? := fun j hj => by rw [hW1]; exact (below_new w _).block j hj
  have hb1 : W1.heap[vb]? = some (.cells #[str n, .int .i64 x] 92 (0, 0)) := (hold1 vb hvw).trans hb
  have hcpA : ∀ ty dc, (Builtin.copy_ #[25, 25] ty #[.slice (some ⟨w.heap.size, k * 2, none⟩) (bs.length + 1 - k) dc, .slice (some ⟨vb, 0, none⟩) 1 1]).run Tryz.prog W1 = .ok (goInt 1) (W1.setRow w.heap.size R1.toArray) := fun ty dc => by
    have := copy_row2 (P := Tryz.prog) W1 25 25 ty 92 i0 w.heap.size (k * 2) (bs.length + 1 - k) dc ⟨vb, 0, none⟩ 1 1 1 R0.toArray 92 [str n, .int .i64 x] Tryz.underlying25 hi hz1 hg1 (by simp only [Nat.min_def]; split <;> omega) rfl
      (fun j v hj => by rw [add_at8, Nat.zero_add, cell_of_row _ _ _ _ _ (0, 0) hb1]; simpa using hj) (by simp; omega) (fun u hu => by simp at hu; rcases hu with rfl | rfl <;> rfl)
    simp only [List.length_cons, List.length_nil, Nat.zero_add] at this
    rw [← hR1] at this
    exact this
  obtain ⟨W2, hW2⟩ : ∃ W2, W2 = W1.setRow w.heap.size R1.toArray := ⟨_, rfl⟩
  have hg2 : W2.heap[w.heap.size]? = some (.cells R1.toArray 92 (0, 0)) := by rw [hW2]; exact setRow_heap W1 w.heap.size _ _ _ _ hg1
  have hold2 : ∀ j, j < w.heap.size → W2.heap[j]? = w.heap[j]? := fun j hj => by rw [hW2, setRow_other _ _ _ _ (by omega)]; exact hold1 j hj
  rw [← hW2] at hcpA
  have hcpB : ∀ ty dc sc, (Builtin.copy_ #[25, 25] ty #[.slice (some ⟨w.heap.size, (k + 1) * 2, none⟩) (bs.length + 1 - (k + 1)) dc, .slice (some ⟨g, k * 2, none⟩) (bs.length - k) sc]).run Tryz.prog W2.drew = .ok (goInt ((bs.length - k : Nat) : Int)) (W2.drew.setRow w.heap.size R2.toArray) := fun ty dc sc => by
    have := copy_row2 (P := Tryz.prog) W2.drew 25 25 ty 92 i0 w.heap.size ((k + 1) * 2) (bs.length + 1 - (k + 1)) dc ⟨g, k * 2, none⟩ (bs.length - k) sc (bs.length - k) R1.toArray 92 (F.drop (k * 2)) Tryz.underlying25 hi hz1 hg2 (by simp only [Nat.min_def]; split <;> omega) (by rw [List.length_drop, hFl]; omega)
      (fun j v hj => by
        have := news2 (a := k * 2) hsee j v (by rw [← hF]; exact hj)
        rw [add_at8] at this ⊢
        exact (World.cell?_of_block (hold2 g hgw)).trans this) (by rw [List.length_drop, hFl]; simp; omega) (fun u hu => h1F u (List.mem_of_mem_drop hu))
    simp only [show (k + 1) * 2 = k * 2 + 2 by omega] at this ⊢
    rw [← hR2] at this
    exact this
  have HOUT := Lib.hid (show InsOut B (.slice (some ⟨g, 0, none⟩) bs.length bs.length) (insS bs k (n, x)) w (.returned (.slice (some ⟨w.heap.size, 0, none⟩) (bs.length + 1) G)) (W2.drew.setRow w.heap.size R2.toArray) from by
    refine ⟨w.heap.size, G, by rw [insS_len (by omega)], ⟨⟨?_, .inr ⟨w.heap.size, G, R2.toArray, by rw [insS_len (by omega), List.length_map, insS_len (by omega)], hB, ?_, ?_, by unfold maxLen; omega, by simpa using hR2l, ?_⟩⟩, boxes_two _⟩, ⟨by rw [hW2, hW1]; rfl, by rw [hW2, hW1]; rfl, by rw [hW2, hW1]; rfl, ?_, fun j hj hn => ?_⟩, .inr (Nat.le_refl _)⟩
    · rw [List.length_map, bx_len9]
    · exact setRow_heap W2.drew w.heap.size _ _ _ _ hg2
    · rw [List.length_map, insS_len (by omega)]; omega
    · rw [List.length_map, insS_len (by omega), insS_flat, ← hF]; exact hR2F
    · rw [setRow_size]; show w.heap.size ≤ W2.heap.size; rw [hW2, setRow_size]; omega
    · rw [setRow_other _ _ _ _ (by omega)]
      exact hold2 j hj)
  have hb1' : (0 : Int) ≤ (k : Int) + 1 := by omega
  have htn : ((k : Int) + 1).toNat = k + 1 := by omega
  have hw1 : IntKind.i64.wrap ((k : Int) + 1) = (k : Int) + 1 := by rw [IntKind.wrap_i64]; omega
  have hz2' : ¬ ((k : Int) = (bs.length : Int)) := by omega
  have hz3 : (bs.length : Int) < (bs.length : Int) + 1 := by omega
  have hkn : k ≤ bs.length := by omega
  have hb3 : (k : Int) ≤ (bs.length : Int) := by omega
  have hGi : ¬ (G = k) := by omega
  have hGim : ¬ (G = k + 1) := by omega
  have hci : ¬ (bs.length = k) := by omega
  clear hR1 hR2 hR2F hR1l hR2l hFl hF h1F hb hsee hg1 hb1 hR0 hR0l hR0a hZ hZl hY hYl hold hold1 hold2 hg2 hG h hs1
  subst hW1
  subst hW2
  go_enter Tryz.func183, Tryz.ntmps183
  go_wp2_with (first
    | (at_builtin; refine wpList_appB _ rfl _ _ _ _ rfl _ _ rfl rfl (hrz _) ?_)
    | (at_builtin; refine wpList_copyB _ rfl _ _ 25 25 rfl _ _ rfl rfl (hcpA _ _) ?_))
  go_region_law (refine step_copyB rfl _ _ 25 25 rfl (.slice (some ⟨w.heap.size, (k + 1) * 2, none⟩) (bs.length + 1 - (k + 1)) (G - (k + 1))) (.slice (some ⟨g, k * 2, none⟩) (bs.length - k) (bs.length - k)) (by simp [Act.eval, Act.put]) (by simp [Act.eval, Act.put]) (hcpB 3 (G - (k + 1)) (bs.length - k)) ?_)
  go_wp2
  go_ret
  exact HOUT.out
/-- Wherever it is put. -/
theorem insert_any (B vb k : Nat) (v : Value) (bs : List Bx) (n : List UInt8) (x : Int) (w : World) (h : OwnBx w B 92 v bs) (hB : B ≤ w.heap.size) (hl : bs.length < 12) (hk : k ≤ bs.length)
    (hb : w.heap[vb]? = some (.cells #[str n, .int .i64 x] 92 (0, 0))) (hne : ¬ v.ownBlock = some vb) :
    Calls Tryz.prog 183 #[v, .int .i64 (k : Nat), .slice (some ⟨vb, 0, none⟩) 1 1] w (InsOut B v (insS bs k (n, x)) w) := by
  by_cases hke : k = bs.length
  · subst hke
    exact insert_end B vb v bs n x w h hB hl hb
  · rcases h.row0.2 with ⟨rfl, h0⟩ | ⟨g, c, cur, rfl, _, _, h3, _⟩
    · omega
    · have hg : vb ≠ g := fun e => hne (by rw [e]; rfl)
      by_cases hc : c = bs.length
      · exact insert_grow B vb g c k bs n x w h hB hl (by omega) hc hb hg
      · exact insert_room B vb g c k bs n x w h hB hl (by omega) (by omega) hb hg

end Go.Proofs.YtigcbegeaikfcaaGreatDoor
