/- Layer 8 (steps) at a seat of plays: ShowCode, of the program and of the model. Condition: the listed variables hold what the program's text lays (Forms, TabV). -/
import Derived.Test.YtjcmfdgphhonhaaGreatDoorCodOz
import Derived.Test.YtjcmfdgphhonhaaGreatDoorOpL
import Derived.Lib.AppendIntMem
import Derived.Maps.AppendAt
namespace Go.Proofs.YtjcmfdgphhonhaaGreatDoor
open Go.RowKit
set_option linter.unusedVariables false

theorem ret_txt8 {a b : List UInt8} (h : a = b) : Ending.returned (str a) = .returned (str b) := by rw [h]
abbrev TabV (w : World) : Prop := Lib.TabIs Tryz.prog w "internal/strconv.uint64pow10" .u64 Lib.pow10Tab
theorem TabV.below {w w' : World} (h : TabV w) (hb : Below w.heap.size w w') : TabV w' := Lib.tabBelow_of_tabIs h w' hb
def formAt (k : Nat) : List UInt8 × Bool × Int × Int := (formsL[k]?).getD ([], false, 0, 0)
/-- An op's text. -/
def showO (o : Opv) : List UInt8 := (formAt o.1.toNat).1 ++ ((if (formAt o.1.toNat).2.1 = true then 32 :: o.2.2 else []) ++ (if (formAt o.1.toNat).2.2.1 < (formAt o.1.toNat).2.2.2 then 32 :: Lib.itoa o.2.1 else []))
def codeTxt (cs : List Opv) : List UInt8 := if cs.all opB = true then Lib.join (cs.map showO) [59, 32] else []
theorem op_kind {o : Opv} (h : opB o = true) : ∃ k : Nat, o.1 = k ∧ 1 ≤ k ∧ k ≤ 10 ∧ formsL[k]? = some (formAt k) ∧ nmF (formAt k) o.2.2 = true ∧ noF (formAt k) o.2.1 = true := by
  by_cases h0 : o.1 < 1 ∨ 10 < o.1
  · rw [opB_out h0] at h; cases h
  obtain ⟨k, hk⟩ : ∃ k : Nat, o.1 = k := ⟨o.1.toNat, by omega⟩
  have hl : k < formsL.length := by simp [formsL]; omega
  have hf : formsL[k]? = some (formAt k) := by unfold formAt; rw [List.getElem?_eq_getElem hl]; rfl
  rw [opB_form hk (by omega) hf, Bool.and_eq_true] at h
  exact ⟨k, hk, by omega, by omega, hf, h.1, h.2⟩
theorem form_facts : ∀ f ∈ formsL, f.1.length ≤ 6 ∧ -2147483648 ≤ f.2.2.1 ∧ f.2.2.2 ≤ 2147483647 := by decide
theorem name_len {s : List UInt8} (h : nameB s = true) : s.length ≤ 6 ∧ s ≠ [] := by
  unfold nameB at h
  rw [Bool.and_eq_true] at h
  have := h.2
  unfold inB at this
  have := of_decide_eq_true this
  refine ⟨by omega, fun e => ?_⟩
  subst e
  simp at this
theorem op_facts {o : Opv} (h : opB o = true) : o.2.2.length ≤ 6 ∧ -2147483648 ≤ o.2.1 ∧ o.2.1 ≤ 2147483647 := by
  obtain ⟨k, hk, _, _, hf, hn, hm⟩ := op_kind h
  have hff := form_facts _ (List.mem_of_getElem? hf)
  unfold noF at hm
  rw [Bool.and_eq_true] at hm
  have h1 := of_decide_eq_true hm.1
  have h2 := of_decide_eq_true hm.2
  refine ⟨?_, by omega, by omega⟩
  unfold nmF at hn
  split at hn
  · exact (name_len hn).1
  · have := of_decide_eq_true hn
    rw [this]
    simp
theorem show_len {o : Opv} (h : opB o = true) : (showO o).length ≤ 60 := by
  obtain ⟨k, hk, _, _, hf, _, _⟩ := op_kind h
  have hff := form_facts _ (List.mem_of_getElem? hf)
  obtain ⟨h1, h2, h3⟩ := op_facts h
  have hi := Lib.itoa_length_le o.2.1 (by omega) (by omega)
  unfold showO
  rw [hk, Int.toNat_natCast]
  rw [List.length_append, List.length_append]
  split <;> split <;> simp <;> omega

set_option maxHeartbeats 1000000 in
theorem numbered8_any (f : List UInt8 × Bool × Int × Int) (w : World) : Calls Tryz.prog 126 #[.agg #[str f.1, .bool f.2.1, .int .i64 f.2.2.1, .int .i64 f.2.2.2]] w (BoolLt w (decide (f.2.2.1 < f.2.2.2))) := by
  obtain ⟨wd, nm, l, m⟩ := f
  dsimp only
  go_enter Tryz.func126, Tryz.ntmps126
  go_wp2_with fail
  go_ret
  exact ⟨ret_bool (by simp), (Below.refl _ _).alloc (Nat.le_refl _) _⟩
theorem num8_any (n : Int) (h0 : -9223372036854775808 ≤ n) (h1 : n ≤ 9223372036854775807) (w : World) (T : TabV w) : Calls Tryz.prog 127 #[.int .i64 n, .int .i64 10] w fun e w' => e = .returned (str (Lib.itoa n)) ∧ Below w.heap.size w w' := by
  refine (Tryz.strconv_FormatInt_10 n h0 h1 _ T).mono ?_
  rintro e w2 ⟨rfl, k, os, rfl⟩
  exact ⟨rfl, Lib.below_grow w.heap.size w (Nat.le_refl _) k os⟩

set_option maxRecDepth 100000 in
set_option maxHeartbeats 4000000 in
theorem iShowOp_any (o : Opv) (hb : opB o = true) (w : World) (F : Forms w) (T : TabV w) : Calls Tryz.prog 62 #[.agg #[.int .i64 o.1, .int .i64 o.2.1, str o.2.2]] w fun e w' => e = .returned (str (showO o)) ∧ Below w.heap.size w w' := by
  obtain ⟨k, hk, hk1, hk2, hf, _, _⟩ := op_kind hb
  obtain ⟨hs6, hn0, hn1⟩ := op_facts hb
  have hff := (form_facts _ (List.mem_of_getElem? hf)).1
  have HSH : Hid (showO o = (formAt k).1 ++ ((if (formAt k).2.1 = true then 32 :: o.2.2 else []) ++ (if (formAt k).2.2.1 < (formAt k).2.2.2 then 32 :: Lib.itoa o.2.1 else []))) := Lib.hid (by unfold showO; rw [hk, Int.toNat_natCast])
  rw [HSH.out]
  obtain ⟨a, n, s⟩ := o
  dsimp only at hk hs6 hn0 hn1 ⊢
  subst hk
  have b0 : Below w.heap.size w (w.alloc (.cells #[.int .i64 (k : Int), .int .i64 n, str s] 30)) := (Below.refl _ _).alloc (Nat.le_refl _) _
  obtain ⟨c0, c1, c2, c3⟩ := (F.below b0) k _ hf
  have HNB := Lib.hid (fun w => numbered8_any (formAt k) w)
  have HT := Lib.hid T
  have hi : (0 : Int) ≤ (k : Int) ∧ (k : Int) < 11 := by omega
  have hil := Lib.itoa_length_le n (by omega) (by omega)
  have HFI := Lib.hid (fun w T => num8_any n (by omega) (by omega) w T)
  generalize Lib.itoa n = t at hil HFI ⊢
  generalize formAt k = f at *
  obtain ⟨wd, nm, l, m⟩ := f
  dsimp only at *
  clear hf F HSH hb T
  have a1 : (⟨#[32]⟩ : ByteArray) ++ ⟨s.toArray⟩ = ⟨(32 :: s).toArray⟩ := mk_append [32] s
  have a2 : (⟨wd.toArray⟩ : ByteArray) ++ ⟨(32 :: s).toArray⟩ = ⟨(wd ++ 32 :: s).toArray⟩ := mk_append wd (32 :: s)
  have a3 : (⟨#[32]⟩ : ByteArray) ++ ⟨t.toArray⟩ = ⟨(32 :: t).toArray⟩ := mk_append [32] t
  have a4 : (⟨wd.toArray⟩ : ByteArray) ++ ⟨(32 :: t).toArray⟩ = ⟨(wd ++ 32 :: t).toArray⟩ := mk_append wd (32 :: t)
  have a5 : (⟨(wd ++ 32 :: s).toArray⟩ : ByteArray) ++ ⟨(32 :: t).toArray⟩ = ⟨((wd ++ 32 :: s) ++ 32 :: t).toArray⟩ := mk_append (wd ++ 32 :: s) (32 :: t)
  have l1 : (32 :: s).length ≤ 7 := by simp; omega
  have l2 : (wd ++ 32 :: s).length ≤ 13 := by simp; omega
  have l3 : (32 :: t).length ≤ 30 := by simp; omega
  generalize hx1 : (32 :: s) = s1 at *
  generalize hx2 : (32 :: t) = t1 at *
  generalize hx3 : wd ++ s1 = u1 at *
  generalize hx4 : wd ++ t1 = v1 at *
  generalize hx5 : u1 ++ t1 = x1 at *
  have HX := Lib.hid (And.intro hx3 (And.intro hx4 hx5))
  clear hx1 hx2 hx3 hx4 hx5
  obtain ⟨R, HR⟩ : ∃ R, Hid (R = wd ++ ((if nm = true then s1 else []) ++ (if l < m then t1 else []))) := ⟨_, Lib.hid rfl⟩
  rw [← HR.out]
  cases nm
  · by_cases hlm : l < m
    · have HE : Hid (v1 = R) := Lib.hid (by rw [HR.out, if_neg (by simp), if_pos hlm, ← HX.out.2.1]; rfl)
      rw [decide_eq_true hlm] at HNB
      go_enter Tryz.func62, Tryz.ntmps62
      go_wp2_with fail
      refine (HNB.out _).mono ?_
      rintro e w1 ⟨rfl, b1⟩
      have bb := below_then (b0.alloc b0.size (.cells #[str wd, .bool false, .int .i64 l, .int .i64 m] 98)) b1 (Nat.le_refl _)
      have f1 : w1.cell? ⟨w.heap.size, 1, none⟩ = some (.int .i64 n) := (b1.cell (p := ⟨w.heap.size, 1, none⟩) (by simp; omega)).trans (by rw [World.cell?_alloc_lt _ _ _ (by simp), cell_of_row _ _ 1 _ _ (0, 0) (heap_alloc_new _ _)]; rfl)
      have T1 := TabV.below HT.out bb
      clear b1
      go_wp2_with fail
      refine (HFI.out _ T1).mono ?_
      rintro e w2 ⟨rfl, b2⟩
      go_wp2_with fail
      go_ret
      exact ⟨ret_txt8 HE.out, below_then bb b2 (Nat.le_refl _)⟩
    · have HE : Hid (wd = R) := Lib.hid (by rw [HR.out, if_neg (by simp), if_neg hlm]; simp)
      rw [decide_eq_false hlm] at HNB
      go_enter Tryz.func62, Tryz.ntmps62
      go_wp2_with fail
      refine (HNB.out _).mono ?_
      rintro e w1 ⟨rfl, b1⟩
      have bb := below_then (b0.alloc b0.size (.cells #[str wd, .bool false, .int .i64 l, .int .i64 m] 98)) b1 (Nat.le_refl _)
      have f1 : w1.cell? ⟨w.heap.size, 1, none⟩ = some (.int .i64 n) := (b1.cell (p := ⟨w.heap.size, 1, none⟩) (by simp; omega)).trans (by rw [World.cell?_alloc_lt _ _ _ (by simp), cell_of_row _ _ 1 _ _ (0, 0) (heap_alloc_new _ _)]; rfl)
      have T1 := TabV.below HT.out bb
      clear b1
      go_wp2_with fail
      go_ret
      exact ⟨ret_txt8 HE.out, bb⟩
  · by_cases hlm : l < m
    · have HE : Hid (x1 = R) := Lib.hid (by rw [HR.out, if_pos rfl, if_pos hlm, ← HX.out.2.2, ← HX.out.1, List.append_assoc])
      rw [decide_eq_true hlm] at HNB
      go_enter Tryz.func62, Tryz.ntmps62
      go_wp2_with fail
      refine (HNB.out _).mono ?_
      rintro e w1 ⟨rfl, b1⟩
      have bb := below_then (b0.alloc b0.size (.cells #[str wd, .bool true, .int .i64 l, .int .i64 m] 98)) b1 (Nat.le_refl _)
      have f1 : w1.cell? ⟨w.heap.size, 1, none⟩ = some (.int .i64 n) := (b1.cell (p := ⟨w.heap.size, 1, none⟩) (by simp; omega)).trans (by rw [World.cell?_alloc_lt _ _ _ (by simp), cell_of_row _ _ 1 _ _ (0, 0) (heap_alloc_new _ _)]; rfl)
      have T1 := TabV.below HT.out bb
      clear b1
      go_wp2_with fail
      refine (HFI.out _ T1).mono ?_
      rintro e w2 ⟨rfl, b2⟩
      go_wp2_with fail
      go_ret
      exact ⟨ret_txt8 HE.out, below_then bb b2 (Nat.le_refl _)⟩
    · have HE : Hid (u1 = R) := Lib.hid (by rw [HR.out, if_pos rfl, if_neg hlm, ← HX.out.1]; simp)
      rw [decide_eq_false hlm] at HNB
      go_enter Tryz.func62, Tryz.ntmps62
      go_wp2_with fail
      refine (HNB.out _).mono ?_
      rintro e w1 ⟨rfl, b1⟩
      have bb := below_then (b0.alloc b0.size (.cells #[str wd, .bool true, .int .i64 l, .int .i64 m] 98)) b1 (Nat.le_refl _)
      have f1 : w1.cell? ⟨w.heap.size, 1, none⟩ = some (.int .i64 n) := (b1.cell (p := ⟨w.heap.size, 1, none⟩) (by simp; omega)).trans (by rw [World.cell?_alloc_lt _ _ _ (by simp), cell_of_row _ _ 1 _ _ (0, 0) (heap_alloc_new _ _)]; rfl)
      have T1 := TabV.below HT.out bb
      clear b1
      go_wp2_with fail
      go_ret
      exact ⟨ret_txt8 HE.out, bb⟩

theorem join8_any (sep : List UInt8) (B : Nat) (v : Value) (ss : List (List UInt8)) (w : World) (h : SeeV w B v (ss.map str)) (hB : B ≤ w.heap.size) (hn : ss.length ≤ 1048576) (hj : (Lib.join ss sep).length ≤ 140737488355328) :
    Calls Tryz.prog 63 #[v, str sep] w fun e w' => e = .returned (str (Lib.join ss sep)) ∧ Below w.heap.size w w' := by
  obtain ⟨A, c, e⟩ := tx_shape h
  subst e
  match ss, h, hn, hj with
  | [], h, _, _ => exact (Tryz.strings_Join_none A c ⟨sep.toArray⟩ w).mono fun e w' ⟨he, hw⟩ => ⟨he, by rw [hw]; exact Below.refl _ _⟩
  | x :: r, h, hn, hj =>
    obtain ⟨_, A', c', e', hc, hcell⟩ := h
    injection e' with e1 e2 e3
    subst e1 e3
    obtain ⟨g, o, e0, hg, _⟩ := hcell 0 (str x) rfl
    subst e0
    have hl : ((x :: r).map fun l => (⟨l.toArray⟩ : ByteArray)).length = (x :: r).length := by rw [List.length_map]
    have hm : ((x :: r).map fun l => (⟨l.toArray⟩ : ByteArray)).map (·.data.toList) = x :: r := by
      rw [List.map_map]
      exact List.map_id'' (fun _ => rfl) _
    have q := Tryz.strings_Join g o c ((x :: r).map fun l => (⟨l.toArray⟩ : ByteArray)) ⟨sep.toArray⟩ w (fun j y hy => by
      rw [List.getElem?_map] at hy
      cases hq : (x :: r)[j]? with
      | none => rw [hq] at hy; cases hy
      | some l =>
        rw [hq] at hy
        injection hy with hy
        subst hy
        obtain ⟨g', o', he, -, hc'⟩ := hcell j (str l) (by rw [List.getElem?_map, hq]; rfl)
        injection he with he
        injection he with e1 e2
        subst e1 e2
        exact hc') (by omega) (by rw [hl]; omega) (by rw [hl]; rw [List.length_map] at hc; exact hc) (by rw [hm]; exact hj)
    rw [hm, hl] at q
    exact q
theorem tail_len8 (M : Nat) (sep : List UInt8) : ∀ r : List (List UInt8), (∀ s ∈ r, s.length ≤ M) → (Lib.joinTail sep r).length ≤ r.length * (M + sep.length)
  | [], _ => by simp [Lib.joinTail]
  | x :: r, h => by
    have h1 := tail_len8 M sep r (fun s hs => h s (List.mem_cons_of_mem _ hs))
    have h2 := h x (by simp)
    have e : Lib.joinTail sep (x :: r) = sep ++ x ++ Lib.joinTail sep r := by simp [Lib.joinTail]
    rw [e, List.length_append, List.length_append, List.length_cons, Nat.add_mul, Nat.one_mul]
    omega
theorem code_len {cs : List Opv} (h : cs.all opB = true) (hl : cs.length ≤ 1048576) : (Lib.join (cs.map showO) [59, 32]).length ≤ 100000000 := by
  have hs : ∀ s ∈ cs.map showO, s.length ≤ 60 := fun s hs => by
    obtain ⟨o, ho, rfl⟩ := List.mem_map.1 hs
    exact show_len (List.all_eq_true.1 h o ho)
  match cs, hs, hl with
  | [], _, _ => simp [Lib.join]
  | o :: r, hs, hl =>
    rw [List.map_cons, Lib.join_cons, List.length_append]
    have h1 := tail_len8 60 [59, 32] (r.map showO) (fun s q => hs s (List.mem_cons_of_mem _ q))
    have h2 := hs (showO o) (by simp)
    rw [List.length_map] at h1
    have e2 : ([59, 32] : List UInt8).length = 2 := rfl
    rw [e2] at h1
    rw [List.length_cons] at hl
    have h3 : r.length * (60 + 2) ≤ 1048575 * (60 + 2) := Nat.mul_le_mul_right _ (by omega)
    omega
theorem all_take {cs : List Opv} {k : Nat} {o : Opv} (h : (cs.take k).all opB = true) (ho : cs[k]? = some o) (hb : opB o = true) : (cs.take (k + 1)).all opB = true := by
  rw [List.take_add_one, ho, List.all_append, h]
  simp [hb]
theorem not_all {cs : List Opv} {k : Nat} {o : Opv} (ho : cs[k]? = some o) (hb : opB o = false) : codeTxt cs = [] := by
  unfold codeTxt
  rw [if_neg]
  intro q
  have := List.all_eq_true.1 q o (List.mem_of_getElem? ho)
  rw [hb] at this
  cases this
theorem app_more8 {W w1 : World} {B gv k c : Nat} {v' : Value} {xs : List (List UInt8)} {y : List UInt8} (ho : OwnV W B 9 (.slice (some ⟨gv, 0, none⟩) k c) (xs.map str)) (hB : B ≤ W.heap.size)
    (h1 : w1.ownsRow B 9 1 v' ((xs.map str).length + 1) (xs.map str ++ [str y])) (hgr : W.grownBy w1 (some gv)) :
    ∃ g4 c4, v' = .slice (some ⟨g4, 0, none⟩) (xs.length + 1) c4 ∧ OwnV w1 B 9 (.slice (some ⟨g4, 0, none⟩) (xs.length + 1) c4) ((xs ++ [y]).map str) ∧ Below B W w1 := by
  have hr : B ≤ gv := (ho.lt gv rfl).1
  rw [List.length_map] at h1
  have hoo : OwnV w1 B 9 v' ((xs ++ [y]).map str) := by
    unfold OwnV
    rw [List.length_map, List.length_append, List.map_append]
    exact h1
  obtain ⟨g4, c4, rfl⟩ := ownsRow_succ h1
  exact ⟨g4, c4, rfl, hoo, (Below.refl _ W).grown hgr hB (fun j hj => by cases hj; exact hr)⟩

set_option maxRecDepth 100000 in
set_option maxHeartbeats 4000000 in
theorem iShowCode_any (B : Nat) (v : Value) (cs : List Opv) (w : World) (h : SeeOp w B v cs) (hB : B ≤ w.heap.size) (hn : cs.length ≤ 1048576) (hs : ∀ o ∈ cs, o.2.2.length ≤ 1048576) (F : Forms w) (T : TabV w) :
    Calls Tryz.prog 14 #[v] w fun e w' => e = .returned (str (codeTxt cs)) ∧ Below w.heap.size w w' := by
  obtain ⟨i0, hi, hz0, hz1, hz2⟩ := info_parts Tryz.infoStr
  obtain ⟨A, c, rfl⟩ := h.shape
  have HF := Lib.hid F
  have HT := Lib.hid T
  have HH := Lib.hid h
  clear F T h
  obtain ⟨R, HR⟩ : ∃ R, Hid (codeTxt cs = R) := ⟨_, Lib.hid rfl⟩
  rw [HR.out]
  have oE := OwnV.empty w w.heap.size 9 (Nat.le_refl _)
  have bE : Below w.heap.size w (w.alloc (.cells #[] 9)) := (Below.refl _ w).alloc (Nat.le_refl _) _
  go_enter Tryz.func14, Tryz.ntmps14
  go_wp2_with fail
  generalize w.alloc _ = WE at oE bE ⊢
  go_loopw [3, 5, 9] (fun tx _ i wr => ∃ (k g' c' : Nat), k ≤ cs.length ∧ i = .int .i64 k ∧ tx = .slice (some ⟨g', 0, none⟩) k c' ∧ OwnV wr w.heap.size 9 (.slice (some ⟨g', 0, none⟩) k c') (((cs.take k).map showO).map str) ∧ Hid ((cs.take k).all opB = true) ∧ Below w.heap.size w wr) (fun _ _ i _ => cs.length - (intOf i).toNat)
  case atStart => exact ⟨0, _, _, Nat.zero_le _, rfl, rfl, oE, Lib.hid rfl, bE⟩
  case round =>
    clear oE bE
    obtain ⟨k, g', c', hk, rfl, rfl, ho, hall, hbw⟩ := hrel
    have hsz := hbw.size
    by_cases hlt : k < cs.length
    · have hx := List.getElem?_eq_getElem hlt
      generalize cs[k] = o at hx
      obtain ⟨g, of, rfl, hgB, e0, e1, e2⟩ := (HH.out.below (hbw.mono hB)).at_ hx
      have hol := hs o (List.mem_of_getElem? hx)
      have HX := Lib.hid hx
      have bb0 := hbw.alloc hsz (.cells #[.int .i64 o.1, .int .i64 o.2.1, str o.2.2] 30)
      have HO := Lib.hid (fun w F => iOpOk_any o hol w F)
      have HLT : Hid (((cs.take k).map showO).length = k) := Lib.hid (by simp; omega)
      cases hb : opB o with
      | false =>
        rw [hb] at HO
        have HE : Hid ([] = R) := Lib.hid (by rw [← HR.out, not_all HX.out hb])
        obtain ⟨a, n, s⟩ := o
        dsimp only at *
        clear hx hb
        go_wp2_with fail
        refine (HO.out _ (HF.out.below bb0)).mono ?_
        rintro e w1 ⟨rfl, b1⟩
        go_wp2_with fail
        go_ret
        exact ⟨ret_txt8 HE.out, below_then bb0 b1 (Nat.le_refl _)⟩
      | true =>
        rw [hb] at HO
        have HSO := Lib.hid (fun w F T => iShowOp_any o hb w F T)
        have HA : Hid ((cs.take (k + 1)).all opB = true) := Lib.hid (all_take hall.out HX.out hb)
        have HM : Hid ((cs.take (k + 1)).map showO = (cs.take k).map showO ++ [showO o]) := Lib.hid (by rw [List.take_add_one, HX.out]; simp)
        obtain ⟨a, n, s⟩ := o
        dsimp only at *
        clear hx hb
        generalize showO (a, n, s) = tx at HSO HM
        generalize hxs : (cs.take k).map showO = xs at ho HM HLT
        clear hxs
        go_wp2_with fail
        refine (HO.out _ (HF.out.below bb0)).mono ?_
        rintro e w1 ⟨rfl, b1⟩
        have k1 : w1.heap[wr.heap.size]? = some (.cells #[.int .i64 a, .int .i64 n, str s] 30 (0, 0)) := (b1.block _ (by simp)).trans (heap_alloc_new _ _)
        have p0 : w1.cell? ⟨wr.heap.size, 0, none⟩ = some (.int .i64 a) := by rw [cell_of_row _ _ 0 _ _ (0, 0) k1]; rfl
        have p1 : w1.cell? ⟨wr.heap.size, 1, none⟩ = some (.int .i64 n) := by rw [cell_of_row _ _ 1 _ _ (0, 0) k1]; rfl
        have p2 : w1.cell? ⟨wr.heap.size, 2, none⟩ = some (str s) := by rw [cell_of_row _ _ 2 _ _ (0, 0) k1]; rfl
        have bb1 := below_then bb0 b1 (Nat.le_refl _)
        have o1 := (ho.alloc (.cells #[.int .i64 a, .int .i64 n, str s] 30)).later b1
        clear k1 b1 bb0 ho
        go_wp2_with fail
        refine (HSO.out _ (HF.out.below bb1) (TabV.below HT.out bb1)).mono ?_
        rintro e w2 ⟨rfl, b2⟩
        have bb2 := below_then bb1 b2 (Nat.le_refl _)
        have o2 := o1.later b2
        have hs2 := bb2.size
        obtain ⟨N, hN⟩ : ∃ N, N = w.heap.size := ⟨_, rfl⟩
        rw [← hN] at o2 hs2
        clear o1 bb1 b2 p0 p1 p2
        have oW := OwnV.alloc o2 (.cells #[str tx] 9)
        go_wp2_with (at_builtin; refine wpList_append_own _ rfl _ _ 24 rfl N 9 i0 (.string ⟨#[]⟩) 1 16 Tryz.underlying24 hi hz0 hz1 hz2 rfl (by decide) _ _ _ rfl oW ⟨w2.heap.size, 0, none⟩ 1 1 [str tx] rfl rfl ?c1 ?c2 ?c3 ?c4 ?c5 ?_)
        case c1 =>
          intro j u hj
          match j, hj with
          | 0, hj => simp at hj; subst hj; simp [Addr.add]
        case c2 => intro u hu; simp at hu; subst hu; rfl
        case c3 => unfold maxLen; rw [List.length_map, HLT.out]; omega
        case c4 => rw [List.length_map, HLT.out]; omega
        case c5 => simp; omega
        intro v9 w9 hown9 hgr9 _
        obtain ⟨g9, c9, rfl, o9, b9⟩ := app_more8 oW (by simp; omega) (by rw [List.length_map, hN]; exact hown9) hgr9
        have bb9 := (bb2.trans ((Below.refl w.heap.size w2).alloc (by omega) (.cells #[str tx] 9))).trans (by rw [← hN]; exact b9)
        have hl9 := HLT.out
        rw [← HM.out] at o9
        clear hown9 hgr9 oW o2 b9
        go_wp2
        go_roundw
        case rel => exact ⟨k + 1, g9, c9, by omega, by go_num, by rw [hl9], by rw [← hN]; rw [hl9] at o9; exact o9, HA, bb9⟩
        case measure => simp [intOf]; omega
    · obtain rfl : k = cs.length := by omega
      have HAL : Hid (cs.all opB = true) := Lib.hid (by have := hall.out; rwa [List.take_of_length_le (Nat.le_refl _)] at this)
      have HE : Hid (Lib.join (cs.map showO) [59, 32] = R) := Lib.hid (by rw [← HR.out, codeTxt, if_pos HAL.out])
      have HJ := Lib.hid (code_len HAL.out hn)
      rw [List.take_of_length_le (Nat.le_refl _)] at ho
      clear hall hlt hk
      go_wp2_with fail
      refine (join8_any [59, 32] _ _ _ _ ho.see (by omega) (by simp; omega) (by have := HJ.out; omega)).mono ?_
      rintro e w1 ⟨rfl, b1⟩
      go_wp2_with fail
      go_ret
      exact ⟨ret_txt8 HE.out, below_then hbw b1 (by omega)⟩

abbrev wordsV8 : Array Value := #[str [112, 117, 115, 104], str [108, 111, 97, 100], str [100, 111], str [115, 101, 116], str [105, 110], str [111, 117, 116], str [103, 111], str [117, 110, 108, 101, 115, 115], str [115, 116, 111, 112], str [101, 110, 100]]
theorem kinds8 {k : Nat} {n : Int} {s : List UInt8} (h1 : 1 ≤ k) (h2 : k ≤ 10) (hn : nmF (formAt k) s = true) :
    ((k = 2 ∨ k = 4) ∧ s ≠ [] ∧ showO ((k : Int), n, s) = ((formAt k).1 ++ [32]) ++ s) ∨ (k = 5 ∧ s ≠ [] ∧ showO ((k : Int), n, s) = ((((formAt k).1 ++ [32]) ++ s) ++ [32]) ++ Lib.itoa n) ∨
    ((k = 9 ∨ k = 10) ∧ s = [] ∧ showO ((k : Int), n, s) = (formAt k).1) ∨ ((k = 1 ∨ k = 3 ∨ k = 6 ∨ k = 7 ∨ k = 8) ∧ s = [] ∧ showO ((k : Int), n, s) = ((formAt k).1 ++ [32]) ++ Lib.itoa n) := by
  have hne : ∀ {s : List UInt8}, nameB s = true → s ≠ [] := fun h => (name_len h).2
  match k, h1, h2, hn with
  | 1, _, _, hn => right; right; right; refine ⟨by omega, ?_, ?_⟩ <;> simp_all [nmF, formAt, formsL, showO]
  | 2, _, _, hn => left; refine ⟨by omega, hne (by simpa [nmF, formAt, formsL] using hn), ?_⟩; simp [formAt, formsL, showO]
  | 3, _, _, hn => right; right; right; refine ⟨by omega, ?_, ?_⟩ <;> simp_all [nmF, formAt, formsL, showO]
  | 4, _, _, hn => left; refine ⟨by omega, hne (by simpa [nmF, formAt, formsL] using hn), ?_⟩; simp [formAt, formsL, showO]
  | 5, _, _, hn => right; left; refine ⟨by omega, hne (by simpa [nmF, formAt, formsL] using hn), ?_⟩; simp [formAt, formsL, showO]
  | 6, _, _, hn => right; right; right; refine ⟨by omega, ?_, ?_⟩ <;> simp_all [nmF, formAt, formsL, showO]
  | 7, _, _, hn => right; right; right; refine ⟨by omega, ?_, ?_⟩ <;> simp_all [nmF, formAt, formsL, showO]
  | 8, _, _, hn => right; right; right; refine ⟨by omega, ?_, ?_⟩ <;> simp_all [nmF, formAt, formsL, showO]
  | 9, _, _, hn => right; right; left; refine ⟨by omega, ?_, ?_⟩ <;> simp_all [nmF, formAt, formsL, showO]
  | 10, _, _, hn => right; right; left; refine ⟨by omega, ?_, ?_⟩ <;> simp_all [nmF, formAt, formsL, showO]

theorem app_at8 {w W w1 : World} {g' k c m : Nat} {v' : Value} {xs : List (List UInt8)} {y : List UInt8} (ho : OwnV W w.heap.size 9 (.slice (some ⟨g', 0, none⟩) k c) (xs.map str)) (hxs : xs.length = m) (hb : Below w.heap.size w W)
    (hg : g' ≠ w.heap.size + 1) (hT : W.heap[w.heap.size + 1]? = some (.cells wordsV8 9 (0, 0))) (h2 : w.heap.size + 2 ≤ W.heap.size)
    (h1 : w1.ownsRow w.heap.size 9 1 v' ((xs.map str).length + 1) (xs.map str ++ [str y])) (hgr : W.grownBy w1 (Value.slice (some ⟨g', 0, none⟩) k c).ownBlock) (hat : v'.ownBlock = (Value.slice (some ⟨g', 0, none⟩) k c).ownBlock ∨ v'.ownBlock = some W.heap.size) :
    ∃ g4 c4, v' = .slice (some ⟨g4, 0, none⟩) (m + 1) c4 ∧ g4 ≠ w.heap.size + 1 ∧ OwnV w1 w.heap.size 9 (.slice (some ⟨g4, 0, none⟩) (m + 1) c4) ((xs ++ [y]).map str) ∧ w1.heap[w.heap.size + 1]? = some (.cells wordsV8 9 (0, 0)) ∧ w.heap.size + 2 ≤ w1.heap.size ∧ Below w.heap.size w w1 := by
  subst hxs
  obtain ⟨g4, c4, rfl, o4, b4⟩ := app_more8 ho (by omega) h1 hgr
  have hsz := hgr.size
  refine ⟨g4, c4, rfl, ?_, o4, ?_, by omega, hb.trans b4⟩
  · rcases hat with h | h
    · have e : g4 = g' := by simpa [Value.ownBlock] using h
      omega
    · have e : g4 = W.heap.size := by simpa [Value.ownBlock] using h
      omega
  · rw [hgr.block _ (by omega) (by intro e; cases e; exact hg rfl)]
    exact hT

set_option maxRecDepth 100000 in
set_option maxHeartbeats 4000000 in
theorem sShowCode_any (B : Nat) (v : Value) (cs : List Opv) (w : World) (h : SeeOp w B v cs) (hB : B ≤ w.heap.size) (hn : cs.length ≤ 1048576) (hs : ∀ o ∈ cs, o.2.2.length ≤ 1048576) :
    Calls Tryz.prog 15 #[v] w fun e w' => e = .returned (str (codeTxt cs)) ∧ Below w.heap.size w w' := by
  obtain ⟨i0, hi, hz0, hz1, hz2⟩ := info_parts Tryz.infoStr
  obtain ⟨A, c, rfl⟩ := h.shape
  have HH := Lib.hid h
  clear h
  obtain ⟨R, HR⟩ : ∃ R, Hid (codeTxt cs = R) := ⟨_, Lib.hid rfl⟩
  rw [HR.out]
  have oE := OwnV.empty w w.heap.size 9 (Nat.le_refl _)
  have bE : Below w.heap.size w ((w.alloc (.cells #[] 9)).alloc (.cells wordsV8 9)) := ((Below.refl _ w).alloc (Nat.le_refl _) _).alloc (by simp) _
  have tE : ((w.alloc (.cells #[] 9)).alloc (.cells wordsV8 9)).heap[w.heap.size + 1]? = some (.cells wordsV8 9 (0, 0)) := by
    have := heap_alloc_new (w.alloc (.cells #[] 9)) (.cells wordsV8 9)
    rwa [World.size_alloc] at this
  have sE : w.heap.size + 2 ≤ ((w.alloc (.cells #[] 9)).alloc (.cells wordsV8 9)).heap.size := by simp
  replace oE := OwnV.alloc oE (.cells wordsV8 9)
  go_enter Tryz.func15, Tryz.ntmps15
  go_wp2_with fail
  generalize (w.alloc _).alloc _ = WE at oE bE tE sE ⊢
  go_loopw [3, 5] (fun tx i wr => ∃ (k g' c' : Nat), k ≤ cs.length ∧ i = .int .i64 k ∧ tx = .slice (some ⟨g', 0, none⟩) k c' ∧ g' ≠ w.heap.size + 1 ∧ OwnV wr w.heap.size 9 (.slice (some ⟨g', 0, none⟩) k c') (((cs.take k).map showO).map str) ∧ Hid ((cs.take k).all opB = true) ∧ wr.heap[w.heap.size + 1]? = some (.cells wordsV8 9 (0, 0)) ∧ w.heap.size + 2 ≤ wr.heap.size ∧ Below w.heap.size w wr) (fun _ i _ => cs.length - (intOf i).toNat)
  case atStart => exact ⟨0, _, _, Nat.zero_le _, rfl, rfl, by omega, oE, Lib.hid rfl, tE, sE, bE⟩
  case round =>
    clear oE bE tE sE
    obtain ⟨k, g', c', hk, rfl, rfl, hg, ho, hall, hT, hs2, hbw⟩ := hrel
    have hsz := hbw.size
    by_cases hlt : k < cs.length
    · have hx := List.getElem?_eq_getElem hlt
      generalize cs[k] = o at hx
      obtain ⟨gs, of, rfl, hgB, e0, e1, e2⟩ := (HH.out.below (hbw.mono hB)).at_ hx
      have hol := hs o (List.mem_of_getElem? hx)
      have HX := Lib.hid hx
      have bb0 := hbw.alloc hsz (.cells #[.int .i64 o.1, .int .i64 o.2.1, str o.2.2] 30)
      have HO := Lib.hid (fun w => sOpOk_any o hol w)
      have HLT : Hid (((cs.take k).map showO).length = k) := Lib.hid (by simp; omega)
      cases hb : opB o with
      | false =>
        rw [hb] at HO
        have HE : Hid ([] = R) := Lib.hid (by rw [← HR.out, not_all HX.out hb])
        obtain ⟨a, n, s⟩ := o
        dsimp only at *
        clear hx hb
        go_wp2_with fail
        refine (HO.out _).mono ?_
        rintro e w1 ⟨rfl, b1⟩
        go_wp2_with fail
        go_ret
        exact ⟨ret_txt8 HE.out, below_then bb0 b1 (Nat.le_refl _)⟩
      | true =>
        rw [hb] at HO
        have HA : Hid ((cs.take (k + 1)).all opB = true) := Lib.hid (all_take hall.out HX.out hb)
        have HM : Hid ((cs.take (k + 1)).map showO = (cs.take k).map showO ++ [showO o]) := Lib.hid (by rw [List.take_add_one, HX.out]; simp)
        obtain ⟨q, hq, hq1, hq2, _, hnm, _⟩ := op_kind hb
        obtain ⟨hs6, hn0, hn1⟩ := op_facts hb
        obtain ⟨a, n, s⟩ := o
        dsimp only at *
        subst hq
        have HK := kinds8 (n := n) hq1 hq2 hnm
        clear hx hb hnm
        obtain ⟨tx, htx⟩ : ∃ tx, showO ((q : Int), n, s) = tx := ⟨_, rfl⟩
        rw [htx] at HK HM
        clear htx
        generalize hxs : (cs.take k).map showO = xs at ho HM HLT
        clear hxs
        go_wp2_with fail
        refine (HO.out _).mono ?_
        rintro e w1 ⟨rfl, b1⟩
        have k1 : w1.heap[wr.heap.size]? = some (.cells #[.int .i64 (q : Int), .int .i64 n, str s] 30 (0, 0)) := (b1.block _ (by simp)).trans (heap_alloc_new _ _)
        have p0 : w1.cell? ⟨wr.heap.size, 0, none⟩ = some (.int .i64 (q : Int)) := by rw [cell_of_row _ _ 0 _ _ (0, 0) k1]; rfl
        have p1 : w1.cell? ⟨wr.heap.size, 1, none⟩ = some (.int .i64 n) := by rw [cell_of_row _ _ 1 _ _ (0, 0) k1]; rfl
        have p2 : w1.cell? ⟨wr.heap.size, 2, none⟩ = some (str s) := by rw [cell_of_row _ _ 2 _ _ (0, 0) k1]; rfl
        have bb1 := below_then bb0 b1 (Nat.le_refl _)
        have o1 := (ho.alloc (.cells #[.int .i64 (q : Int), .int .i64 n, str s] 30)).later b1
        have T1 := (b1.block (w.heap.size + 1) (by simp; omega)).trans ((((Below.refl wr.heap.size wr).alloc (Nat.le_refl _) (.cells #[.int .i64 (q : Int), .int .i64 n, str s] 30)).block (w.heap.size + 1) (by omega)).trans hT)
        have s1 : w.heap.size + 2 ≤ w1.heap.size := by have := b1.size; simp at this; omega
        clear k1 b1 bb0 ho hT HO
        have hse : ∀ {s : List UInt8}, s ≠ [] → (!List.isEmpty s) = true := fun h => by simpa using h
        rcases HK with ⟨hq3, hsn, he⟩ | ⟨rfl, hsn, he⟩ | ⟨hq3, rfl, he⟩ | ⟨hq3, rfl, he⟩
        · replace hsn := hse hsn
          clear hse
          rcases hq3 with rfl | rfl
          · have HE := Lib.hid he.symm
            clear he
            have tc : w1.cell? ⟨w.heap.size + 1, 1, none⟩ = some (str (formAt 2).1) := by rw [cell_of_row _ _ 1 _ _ (0, 0) T1]; rfl
            have hw6 := (form_facts _ (List.mem_of_getElem? (show formsL[2]? = some (formAt 2) from rfl))).1
            generalize (formAt 2).1 = wd at tc hw6 HE
            have a1 : (⟨wd.toArray⟩ : ByteArray) ++ ⟨#[32]⟩ = ⟨(wd ++ [32]).toArray⟩ := mk_append wd [32]
            have l1 : (wd ++ [32]).length ≤ 7 := by simp; omega
            generalize wd ++ [32] = u1 at a1 l1 HE
            have a2 : (⟨u1.toArray⟩ : ByteArray) ++ ⟨s.toArray⟩ = ⟨(u1 ++ s).toArray⟩ := mk_append u1 s
            have l2 : (u1 ++ s).length ≤ 13 := by simp; omega
            generalize u1 ++ s = u2 at a2 l2 HE
            have oW := OwnV.alloc o1 (.cells #[str u2] 9)
            have hsL := (bb1).size
            have bW := (bb1).trans ((Below.refl w.heap.size w1).alloc hsL (.cells #[str u2] 9))
            have TW := (((Below.refl (w1).heap.size w1).alloc (Nat.le_refl _) (.cells #[str u2] 9)).block (w.heap.size + 1) (by omega)).trans T1
            have h2W : w.heap.size + 2 ≤ ((w1).alloc (.cells #[str u2] 9)).heap.size := by simp; omega
            go_wp2_with (at_builtin; refine wpList_append_own_at _ rfl _ _ 24 rfl w.heap.size 9 i0 (.string ⟨#[]⟩) 1 16 Tryz.underlying24 hi hz0 hz1 hz2 rfl (by decide) _ _ _ rfl oW ⟨(w1).heap.size, 0, none⟩ 1 1 [str u2] rfl rfl ?c1 ?c2 ?c3 ?c4 ?c5 ?_)
            case c1 =>
              intro j u hj
              match j, hj with
              | 0, hj => simp at hj; subst hj; simp [Addr.add]
            case c2 => intro u hu; simp at hu; subst hu; rfl
            case c3 => unfold maxLen; rw [List.length_map, HLT.out]; omega
            case c4 => rw [List.length_map, HLT.out]; omega
            case c5 => simp; omega
            intro v9 w9 hown9 hgr9 _ hat9
            obtain ⟨g9, c9, rfl, hg9, o9, T9, s9, b9⟩ := app_at8 oW HLT.out bW hg TW h2W (by rw [List.length_map]; exact hown9) hgr9 (by rw [World.size_alloc]; exact hat9)
            rw [HE.out, ← HM.out] at o9
            clear hown9 hgr9 hat9 oW bW TW h2W
            go_wp2
            go_roundw
            case rel => exact ⟨k + 1, g9, c9, by omega, by go_num, rfl, hg9, o9, HA, T9, s9, b9⟩
            case measure => simp [intOf]; omega
          · have HE := Lib.hid he.symm
            clear he
            have tc : w1.cell? ⟨w.heap.size + 1, 3, none⟩ = some (str (formAt 4).1) := by rw [cell_of_row _ _ 3 _ _ (0, 0) T1]; rfl
            have hw6 := (form_facts _ (List.mem_of_getElem? (show formsL[4]? = some (formAt 4) from rfl))).1
            generalize (formAt 4).1 = wd at tc hw6 HE
            have a1 : (⟨wd.toArray⟩ : ByteArray) ++ ⟨#[32]⟩ = ⟨(wd ++ [32]).toArray⟩ := mk_append wd [32]
            have l1 : (wd ++ [32]).length ≤ 7 := by simp; omega
            generalize wd ++ [32] = u1 at a1 l1 HE
            have a2 : (⟨u1.toArray⟩ : ByteArray) ++ ⟨s.toArray⟩ = ⟨(u1 ++ s).toArray⟩ := mk_append u1 s
            have l2 : (u1 ++ s).length ≤ 13 := by simp; omega
            generalize u1 ++ s = u2 at a2 l2 HE
            have oW := OwnV.alloc o1 (.cells #[str u2] 9)
            have hsL := (bb1).size
            have bW := (bb1).trans ((Below.refl w.heap.size w1).alloc hsL (.cells #[str u2] 9))
            have TW := (((Below.refl (w1).heap.size w1).alloc (Nat.le_refl _) (.cells #[str u2] 9)).block (w.heap.size + 1) (by omega)).trans T1
            have h2W : w.heap.size + 2 ≤ ((w1).alloc (.cells #[str u2] 9)).heap.size := by simp; omega
            go_wp2_with (at_builtin; refine wpList_append_own_at _ rfl _ _ 24 rfl w.heap.size 9 i0 (.string ⟨#[]⟩) 1 16 Tryz.underlying24 hi hz0 hz1 hz2 rfl (by decide) _ _ _ rfl oW ⟨(w1).heap.size, 0, none⟩ 1 1 [str u2] rfl rfl ?c1 ?c2 ?c3 ?c4 ?c5 ?_)
            case c1 =>
              intro j u hj
              match j, hj with
              | 0, hj => simp at hj; subst hj; simp [Addr.add]
            case c2 => intro u hu; simp at hu; subst hu; rfl
            case c3 => unfold maxLen; rw [List.length_map, HLT.out]; omega
            case c4 => rw [List.length_map, HLT.out]; omega
            case c5 => simp; omega
            intro v9 w9 hown9 hgr9 _ hat9
            obtain ⟨g9, c9, rfl, hg9, o9, T9, s9, b9⟩ := app_at8 oW HLT.out bW hg TW h2W (by rw [List.length_map]; exact hown9) hgr9 (by rw [World.size_alloc]; exact hat9)
            rw [HE.out, ← HM.out] at o9
            clear hown9 hgr9 hat9 oW bW TW h2W
            go_wp2
            go_roundw
            case rel => exact ⟨k + 1, g9, c9, by omega, by go_num, rfl, hg9, o9, HA, T9, s9, b9⟩
            case measure => simp [intOf]; omega
        · replace hsn := hse hsn
          · have HE := Lib.hid he.symm
            clear he hse
            have tc : w1.cell? ⟨w.heap.size + 1, 4, none⟩ = some (str (formAt 5).1) := by rw [cell_of_row _ _ 4 _ _ (0, 0) T1]; rfl
            have hw6 := (form_facts _ (List.mem_of_getElem? (show formsL[5]? = some (formAt 5) from rfl))).1
            generalize (formAt 5).1 = wd at tc hw6 HE
            have a1 : (⟨wd.toArray⟩ : ByteArray) ++ ⟨#[32]⟩ = ⟨(wd ++ [32]).toArray⟩ := mk_append wd [32]
            have l1 : (wd ++ [32]).length ≤ 7 := by simp; omega
            generalize wd ++ [32] = u1 at a1 l1 HE
            have a2 : (⟨u1.toArray⟩ : ByteArray) ++ ⟨s.toArray⟩ = ⟨(u1 ++ s).toArray⟩ := mk_append u1 s
            have l2 : (u1 ++ s).length ≤ 13 := by simp; omega
            generalize u1 ++ s = u2 at a2 l2 HE
            have a3 : (⟨u2.toArray⟩ : ByteArray) ++ ⟨#[32]⟩ = ⟨(u2 ++ [32]).toArray⟩ := mk_append u2 [32]
            have l3 : (u2 ++ [32]).length ≤ 14 := by simp; omega
            generalize u2 ++ [32] = u3 at a3 l3 HE
            have hil := Lib.itoa_length_le n (by omega) (by omega)
            have HI := Lib.hid (fun w => l1Int_any n (by omega) (by omega) w)
            generalize Lib.itoa n = t at hil HI HE
            have a4 : (⟨u3.toArray⟩ : ByteArray) ++ ⟨t.toArray⟩ = ⟨(u3 ++ t).toArray⟩ := mk_append u3 t
            have l4 : (u3 ++ t).length ≤ 60 := by simp; omega
            generalize u3 ++ t = u4 at a4 l4 HE
            go_wp2_with fail
            refine (HI.out _).mono ?_
            rintro e w2 ⟨rfl, b2⟩
            have bb2 := below_then bb1 b2 (Nat.le_refl _)
            have o2 := o1.later b2
            have T2 := (b2.block (w.heap.size + 1) (by omega)).trans T1
            have s2 := b2.size
            clear o1 bb1 b2 p0 p1 p2 tc T1
            have oW := OwnV.alloc o2 (.cells #[str u4] 9)
            have hsL := (bb2).size
            have bW := (bb2).trans ((Below.refl w.heap.size w2).alloc hsL (.cells #[str u4] 9))
            have TW := (((Below.refl (w2).heap.size w2).alloc (Nat.le_refl _) (.cells #[str u4] 9)).block (w.heap.size + 1) (by omega)).trans T2
            have h2W : w.heap.size + 2 ≤ ((w2).alloc (.cells #[str u4] 9)).heap.size := by simp; omega
            go_wp2_with (at_builtin; refine wpList_append_own_at _ rfl _ _ 24 rfl w.heap.size 9 i0 (.string ⟨#[]⟩) 1 16 Tryz.underlying24 hi hz0 hz1 hz2 rfl (by decide) _ _ _ rfl oW ⟨(w2).heap.size, 0, none⟩ 1 1 [str u4] rfl rfl ?c1 ?c2 ?c3 ?c4 ?c5 ?_)
            case c1 =>
              intro j u hj
              match j, hj with
              | 0, hj => simp at hj; subst hj; simp [Addr.add]
            case c2 => intro u hu; simp at hu; subst hu; rfl
            case c3 => unfold maxLen; rw [List.length_map, HLT.out]; omega
            case c4 => rw [List.length_map, HLT.out]; omega
            case c5 => simp; omega
            intro v9 w9 hown9 hgr9 _ hat9
            obtain ⟨g9, c9, rfl, hg9, o9, T9, s9, b9⟩ := app_at8 oW HLT.out bW hg TW h2W (by rw [List.length_map]; exact hown9) hgr9 (by rw [World.size_alloc]; exact hat9)
            rw [HE.out, ← HM.out] at o9
            clear hown9 hgr9 hat9 oW bW TW h2W
            go_wp2
            go_roundw
            case rel => exact ⟨k + 1, g9, c9, by omega, by go_num, rfl, hg9, o9, HA, T9, s9, b9⟩
            case measure => simp [intOf]; omega
        · clear hse
          rcases hq3 with rfl | rfl
          · have HE := Lib.hid he.symm
            clear he
            have tc : w1.cell? ⟨w.heap.size + 1, 8, none⟩ = some (str (formAt 9).1) := by rw [cell_of_row _ _ 8 _ _ (0, 0) T1]; rfl
            have hw6 := (form_facts _ (List.mem_of_getElem? (show formsL[9]? = some (formAt 9) from rfl))).1
            generalize (formAt 9).1 = wd at tc hw6 HE
            have oW := OwnV.alloc o1 (.cells #[str wd] 9)
            have hsL := (bb1).size
            have bW := (bb1).trans ((Below.refl w.heap.size w1).alloc hsL (.cells #[str wd] 9))
            have TW := (((Below.refl (w1).heap.size w1).alloc (Nat.le_refl _) (.cells #[str wd] 9)).block (w.heap.size + 1) (by omega)).trans T1
            have h2W : w.heap.size + 2 ≤ ((w1).alloc (.cells #[str wd] 9)).heap.size := by simp; omega
            go_wp2_with (at_builtin; refine wpList_append_own_at _ rfl _ _ 24 rfl w.heap.size 9 i0 (.string ⟨#[]⟩) 1 16 Tryz.underlying24 hi hz0 hz1 hz2 rfl (by decide) _ _ _ rfl oW ⟨(w1).heap.size, 0, none⟩ 1 1 [str wd] rfl rfl ?c1 ?c2 ?c3 ?c4 ?c5 ?_)
            case c1 =>
              intro j u hj
              match j, hj with
              | 0, hj => simp at hj; subst hj; simp [Addr.add]
            case c2 => intro u hu; simp at hu; subst hu; rfl
            case c3 => unfold maxLen; rw [List.length_map, HLT.out]; omega
            case c4 => rw [List.length_map, HLT.out]; omega
            case c5 => simp; omega
            intro v9 w9 hown9 hgr9 _ hat9
            obtain ⟨g9, c9, rfl, hg9, o9, T9, s9, b9⟩ := app_at8 oW HLT.out bW hg TW h2W (by rw [List.length_map]; exact hown9) hgr9 (by rw [World.size_alloc]; exact hat9)
            rw [HE.out, ← HM.out] at o9
            clear hown9 hgr9 hat9 oW bW TW h2W
            go_wp2
            go_roundw
            case rel => exact ⟨k + 1, g9, c9, by omega, by go_num, rfl, hg9, o9, HA, T9, s9, b9⟩
            case measure => simp [intOf]; omega
          · have HE := Lib.hid he.symm
            clear he
            have tc : w1.cell? ⟨w.heap.size + 1, 9, none⟩ = some (str (formAt 10).1) := by rw [cell_of_row _ _ 9 _ _ (0, 0) T1]; rfl
            have hw6 := (form_facts _ (List.mem_of_getElem? (show formsL[10]? = some (formAt 10) from rfl))).1
            generalize (formAt 10).1 = wd at tc hw6 HE
            have oW := OwnV.alloc o1 (.cells #[str wd] 9)
            have hsL := (bb1).size
            have bW := (bb1).trans ((Below.refl w.heap.size w1).alloc hsL (.cells #[str wd] 9))
            have TW := (((Below.refl (w1).heap.size w1).alloc (Nat.le_refl _) (.cells #[str wd] 9)).block (w.heap.size + 1) (by omega)).trans T1
            have h2W : w.heap.size + 2 ≤ ((w1).alloc (.cells #[str wd] 9)).heap.size := by simp; omega
            go_wp2_with (at_builtin; refine wpList_append_own_at _ rfl _ _ 24 rfl w.heap.size 9 i0 (.string ⟨#[]⟩) 1 16 Tryz.underlying24 hi hz0 hz1 hz2 rfl (by decide) _ _ _ rfl oW ⟨(w1).heap.size, 0, none⟩ 1 1 [str wd] rfl rfl ?c1 ?c2 ?c3 ?c4 ?c5 ?_)
            case c1 =>
              intro j u hj
              match j, hj with
              | 0, hj => simp at hj; subst hj; simp [Addr.add]
            case c2 => intro u hu; simp at hu; subst hu; rfl
            case c3 => unfold maxLen; rw [List.length_map, HLT.out]; omega
            case c4 => rw [List.length_map, HLT.out]; omega
            case c5 => simp; omega
            intro v9 w9 hown9 hgr9 _ hat9
            obtain ⟨g9, c9, rfl, hg9, o9, T9, s9, b9⟩ := app_at8 oW HLT.out bW hg TW h2W (by rw [List.length_map]; exact hown9) hgr9 (by rw [World.size_alloc]; exact hat9)
            rw [HE.out, ← HM.out] at o9
            clear hown9 hgr9 hat9 oW bW TW h2W
            go_wp2
            go_roundw
            case rel => exact ⟨k + 1, g9, c9, by omega, by go_num, rfl, hg9, o9, HA, T9, s9, b9⟩
            case measure => simp [intOf]; omega
        · clear hse
          rcases hq3 with rfl | rfl | rfl | rfl | rfl
          · have HE := Lib.hid he.symm
            clear he
            have tc : w1.cell? ⟨w.heap.size + 1, 0, none⟩ = some (str (formAt 1).1) := by rw [cell_of_row _ _ 0 _ _ (0, 0) T1]; rfl
            have hw6 := (form_facts _ (List.mem_of_getElem? (show formsL[1]? = some (formAt 1) from rfl))).1
            generalize (formAt 1).1 = wd at tc hw6 HE
            have a1 : (⟨wd.toArray⟩ : ByteArray) ++ ⟨#[32]⟩ = ⟨(wd ++ [32]).toArray⟩ := mk_append wd [32]
            have l1 : (wd ++ [32]).length ≤ 7 := by simp; omega
            generalize wd ++ [32] = u1 at a1 l1 HE
            have hil := Lib.itoa_length_le n (by omega) (by omega)
            have HI := Lib.hid (fun w => l1Int_any n (by omega) (by omega) w)
            generalize Lib.itoa n = t at hil HI HE
            have a2 : (⟨u1.toArray⟩ : ByteArray) ++ ⟨t.toArray⟩ = ⟨(u1 ++ t).toArray⟩ := mk_append u1 t
            have l2 : (u1 ++ t).length ≤ 60 := by simp; omega
            generalize u1 ++ t = u2 at a2 l2 HE
            go_wp2_with fail
            refine (HI.out _).mono ?_
            rintro e w2 ⟨rfl, b2⟩
            have bb2 := below_then bb1 b2 (Nat.le_refl _)
            have o2 := o1.later b2
            have T2 := (b2.block (w.heap.size + 1) (by omega)).trans T1
            have s2 := b2.size
            clear o1 bb1 b2 p0 p1 p2 tc T1
            have oW := OwnV.alloc o2 (.cells #[str u2] 9)
            have hsL := (bb2).size
            have bW := (bb2).trans ((Below.refl w.heap.size w2).alloc hsL (.cells #[str u2] 9))
            have TW := (((Below.refl (w2).heap.size w2).alloc (Nat.le_refl _) (.cells #[str u2] 9)).block (w.heap.size + 1) (by omega)).trans T2
            have h2W : w.heap.size + 2 ≤ ((w2).alloc (.cells #[str u2] 9)).heap.size := by simp; omega
            go_wp2_with (at_builtin; refine wpList_append_own_at _ rfl _ _ 24 rfl w.heap.size 9 i0 (.string ⟨#[]⟩) 1 16 Tryz.underlying24 hi hz0 hz1 hz2 rfl (by decide) _ _ _ rfl oW ⟨(w2).heap.size, 0, none⟩ 1 1 [str u2] rfl rfl ?c1 ?c2 ?c3 ?c4 ?c5 ?_)
            case c1 =>
              intro j u hj
              match j, hj with
              | 0, hj => simp at hj; subst hj; simp [Addr.add]
            case c2 => intro u hu; simp at hu; subst hu; rfl
            case c3 => unfold maxLen; rw [List.length_map, HLT.out]; omega
            case c4 => rw [List.length_map, HLT.out]; omega
            case c5 => simp; omega
            intro v9 w9 hown9 hgr9 _ hat9
            obtain ⟨g9, c9, rfl, hg9, o9, T9, s9, b9⟩ := app_at8 oW HLT.out bW hg TW h2W (by rw [List.length_map]; exact hown9) hgr9 (by rw [World.size_alloc]; exact hat9)
            rw [HE.out, ← HM.out] at o9
            clear hown9 hgr9 hat9 oW bW TW h2W
            go_wp2
            go_roundw
            case rel => exact ⟨k + 1, g9, c9, by omega, by go_num, rfl, hg9, o9, HA, T9, s9, b9⟩
            case measure => simp [intOf]; omega
          · have HE := Lib.hid he.symm
            clear he
            have tc : w1.cell? ⟨w.heap.size + 1, 2, none⟩ = some (str (formAt 3).1) := by rw [cell_of_row _ _ 2 _ _ (0, 0) T1]; rfl
            have hw6 := (form_facts _ (List.mem_of_getElem? (show formsL[3]? = some (formAt 3) from rfl))).1
            generalize (formAt 3).1 = wd at tc hw6 HE
            have a1 : (⟨wd.toArray⟩ : ByteArray) ++ ⟨#[32]⟩ = ⟨(wd ++ [32]).toArray⟩ := mk_append wd [32]
            have l1 : (wd ++ [32]).length ≤ 7 := by simp; omega
            generalize wd ++ [32] = u1 at a1 l1 HE
            have hil := Lib.itoa_length_le n (by omega) (by omega)
            have HI := Lib.hid (fun w => l1Int_any n (by omega) (by omega) w)
            generalize Lib.itoa n = t at hil HI HE
            have a2 : (⟨u1.toArray⟩ : ByteArray) ++ ⟨t.toArray⟩ = ⟨(u1 ++ t).toArray⟩ := mk_append u1 t
            have l2 : (u1 ++ t).length ≤ 60 := by simp; omega
            generalize u1 ++ t = u2 at a2 l2 HE
            go_wp2_with fail
            refine (HI.out _).mono ?_
            rintro e w2 ⟨rfl, b2⟩
            have bb2 := below_then bb1 b2 (Nat.le_refl _)
            have o2 := o1.later b2
            have T2 := (b2.block (w.heap.size + 1) (by omega)).trans T1
            have s2 := b2.size
            clear o1 bb1 b2 p0 p1 p2 tc T1
            have oW := OwnV.alloc o2 (.cells #[str u2] 9)
            have hsL := (bb2).size
            have bW := (bb2).trans ((Below.refl w.heap.size w2).alloc hsL (.cells #[str u2] 9))
            have TW := (((Below.refl (w2).heap.size w2).alloc (Nat.le_refl _) (.cells #[str u2] 9)).block (w.heap.size + 1) (by omega)).trans T2
            have h2W : w.heap.size + 2 ≤ ((w2).alloc (.cells #[str u2] 9)).heap.size := by simp; omega
            go_wp2_with (at_builtin; refine wpList_append_own_at _ rfl _ _ 24 rfl w.heap.size 9 i0 (.string ⟨#[]⟩) 1 16 Tryz.underlying24 hi hz0 hz1 hz2 rfl (by decide) _ _ _ rfl oW ⟨(w2).heap.size, 0, none⟩ 1 1 [str u2] rfl rfl ?c1 ?c2 ?c3 ?c4 ?c5 ?_)
            case c1 =>
              intro j u hj
              match j, hj with
              | 0, hj => simp at hj; subst hj; simp [Addr.add]
            case c2 => intro u hu; simp at hu; subst hu; rfl
            case c3 => unfold maxLen; rw [List.length_map, HLT.out]; omega
            case c4 => rw [List.length_map, HLT.out]; omega
            case c5 => simp; omega
            intro v9 w9 hown9 hgr9 _ hat9
            obtain ⟨g9, c9, rfl, hg9, o9, T9, s9, b9⟩ := app_at8 oW HLT.out bW hg TW h2W (by rw [List.length_map]; exact hown9) hgr9 (by rw [World.size_alloc]; exact hat9)
            rw [HE.out, ← HM.out] at o9
            clear hown9 hgr9 hat9 oW bW TW h2W
            go_wp2
            go_roundw
            case rel => exact ⟨k + 1, g9, c9, by omega, by go_num, rfl, hg9, o9, HA, T9, s9, b9⟩
            case measure => simp [intOf]; omega
          · have HE := Lib.hid he.symm
            clear he
            have tc : w1.cell? ⟨w.heap.size + 1, 5, none⟩ = some (str (formAt 6).1) := by rw [cell_of_row _ _ 5 _ _ (0, 0) T1]; rfl
            have hw6 := (form_facts _ (List.mem_of_getElem? (show formsL[6]? = some (formAt 6) from rfl))).1
            generalize (formAt 6).1 = wd at tc hw6 HE
            have a1 : (⟨wd.toArray⟩ : ByteArray) ++ ⟨#[32]⟩ = ⟨(wd ++ [32]).toArray⟩ := mk_append wd [32]
            have l1 : (wd ++ [32]).length ≤ 7 := by simp; omega
            generalize wd ++ [32] = u1 at a1 l1 HE
            have hil := Lib.itoa_length_le n (by omega) (by omega)
            have HI := Lib.hid (fun w => l1Int_any n (by omega) (by omega) w)
            generalize Lib.itoa n = t at hil HI HE
            have a2 : (⟨u1.toArray⟩ : ByteArray) ++ ⟨t.toArray⟩ = ⟨(u1 ++ t).toArray⟩ := mk_append u1 t
            have l2 : (u1 ++ t).length ≤ 60 := by simp; omega
            generalize u1 ++ t = u2 at a2 l2 HE
            go_wp2_with fail
            refine (HI.out _).mono ?_
            rintro e w2 ⟨rfl, b2⟩
            have bb2 := below_then bb1 b2 (Nat.le_refl _)
            have o2 := o1.later b2
            have T2 := (b2.block (w.heap.size + 1) (by omega)).trans T1
            have s2 := b2.size
            clear o1 bb1 b2 p0 p1 p2 tc T1
            have oW := OwnV.alloc o2 (.cells #[str u2] 9)
            have hsL := (bb2).size
            have bW := (bb2).trans ((Below.refl w.heap.size w2).alloc hsL (.cells #[str u2] 9))
            have TW := (((Below.refl (w2).heap.size w2).alloc (Nat.le_refl _) (.cells #[str u2] 9)).block (w.heap.size + 1) (by omega)).trans T2
            have h2W : w.heap.size + 2 ≤ ((w2).alloc (.cells #[str u2] 9)).heap.size := by simp; omega
            go_wp2_with (at_builtin; refine wpList_append_own_at _ rfl _ _ 24 rfl w.heap.size 9 i0 (.string ⟨#[]⟩) 1 16 Tryz.underlying24 hi hz0 hz1 hz2 rfl (by decide) _ _ _ rfl oW ⟨(w2).heap.size, 0, none⟩ 1 1 [str u2] rfl rfl ?c1 ?c2 ?c3 ?c4 ?c5 ?_)
            case c1 =>
              intro j u hj
              match j, hj with
              | 0, hj => simp at hj; subst hj; simp [Addr.add]
            case c2 => intro u hu; simp at hu; subst hu; rfl
            case c3 => unfold maxLen; rw [List.length_map, HLT.out]; omega
            case c4 => rw [List.length_map, HLT.out]; omega
            case c5 => simp; omega
            intro v9 w9 hown9 hgr9 _ hat9
            obtain ⟨g9, c9, rfl, hg9, o9, T9, s9, b9⟩ := app_at8 oW HLT.out bW hg TW h2W (by rw [List.length_map]; exact hown9) hgr9 (by rw [World.size_alloc]; exact hat9)
            rw [HE.out, ← HM.out] at o9
            clear hown9 hgr9 hat9 oW bW TW h2W
            go_wp2
            go_roundw
            case rel => exact ⟨k + 1, g9, c9, by omega, by go_num, rfl, hg9, o9, HA, T9, s9, b9⟩
            case measure => simp [intOf]; omega
          · have HE := Lib.hid he.symm
            clear he
            have tc : w1.cell? ⟨w.heap.size + 1, 6, none⟩ = some (str (formAt 7).1) := by rw [cell_of_row _ _ 6 _ _ (0, 0) T1]; rfl
            have hw6 := (form_facts _ (List.mem_of_getElem? (show formsL[7]? = some (formAt 7) from rfl))).1
            generalize (formAt 7).1 = wd at tc hw6 HE
            have a1 : (⟨wd.toArray⟩ : ByteArray) ++ ⟨#[32]⟩ = ⟨(wd ++ [32]).toArray⟩ := mk_append wd [32]
            have l1 : (wd ++ [32]).length ≤ 7 := by simp; omega
            generalize wd ++ [32] = u1 at a1 l1 HE
            have hil := Lib.itoa_length_le n (by omega) (by omega)
            have HI := Lib.hid (fun w => l1Int_any n (by omega) (by omega) w)
            generalize Lib.itoa n = t at hil HI HE
            have a2 : (⟨u1.toArray⟩ : ByteArray) ++ ⟨t.toArray⟩ = ⟨(u1 ++ t).toArray⟩ := mk_append u1 t
            have l2 : (u1 ++ t).length ≤ 60 := by simp; omega
            generalize u1 ++ t = u2 at a2 l2 HE
            go_wp2_with fail
            refine (HI.out _).mono ?_
            rintro e w2 ⟨rfl, b2⟩
            have bb2 := below_then bb1 b2 (Nat.le_refl _)
            have o2 := o1.later b2
            have T2 := (b2.block (w.heap.size + 1) (by omega)).trans T1
            have s2 := b2.size
            clear o1 bb1 b2 p0 p1 p2 tc T1
            have oW := OwnV.alloc o2 (.cells #[str u2] 9)
            have hsL := (bb2).size
            have bW := (bb2).trans ((Below.refl w.heap.size w2).alloc hsL (.cells #[str u2] 9))
            have TW := (((Below.refl (w2).heap.size w2).alloc (Nat.le_refl _) (.cells #[str u2] 9)).block (w.heap.size + 1) (by omega)).trans T2
            have h2W : w.heap.size + 2 ≤ ((w2).alloc (.cells #[str u2] 9)).heap.size := by simp; omega
            go_wp2_with (at_builtin; refine wpList_append_own_at _ rfl _ _ 24 rfl w.heap.size 9 i0 (.string ⟨#[]⟩) 1 16 Tryz.underlying24 hi hz0 hz1 hz2 rfl (by decide) _ _ _ rfl oW ⟨(w2).heap.size, 0, none⟩ 1 1 [str u2] rfl rfl ?c1 ?c2 ?c3 ?c4 ?c5 ?_)
            case c1 =>
              intro j u hj
              match j, hj with
              | 0, hj => simp at hj; subst hj; simp [Addr.add]
            case c2 => intro u hu; simp at hu; subst hu; rfl
            case c3 => unfold maxLen; rw [List.length_map, HLT.out]; omega
            case c4 => rw [List.length_map, HLT.out]; omega
            case c5 => simp; omega
            intro v9 w9 hown9 hgr9 _ hat9
            obtain ⟨g9, c9, rfl, hg9, o9, T9, s9, b9⟩ := app_at8 oW HLT.out bW hg TW h2W (by rw [List.length_map]; exact hown9) hgr9 (by rw [World.size_alloc]; exact hat9)
            rw [HE.out, ← HM.out] at o9
            clear hown9 hgr9 hat9 oW bW TW h2W
            go_wp2
            go_roundw
            case rel => exact ⟨k + 1, g9, c9, by omega, by go_num, rfl, hg9, o9, HA, T9, s9, b9⟩
            case measure => simp [intOf]; omega
          · have HE := Lib.hid he.symm
            clear he
            have tc : w1.cell? ⟨w.heap.size + 1, 7, none⟩ = some (str (formAt 8).1) := by rw [cell_of_row _ _ 7 _ _ (0, 0) T1]; rfl
            have hw6 := (form_facts _ (List.mem_of_getElem? (show formsL[8]? = some (formAt 8) from rfl))).1
            generalize (formAt 8).1 = wd at tc hw6 HE
            have a1 : (⟨wd.toArray⟩ : ByteArray) ++ ⟨#[32]⟩ = ⟨(wd ++ [32]).toArray⟩ := mk_append wd [32]
            have l1 : (wd ++ [32]).length ≤ 7 := by simp; omega
            generalize wd ++ [32] = u1 at a1 l1 HE
            have hil := Lib.itoa_length_le n (by omega) (by omega)
            have HI := Lib.hid (fun w => l1Int_any n (by omega) (by omega) w)
            generalize Lib.itoa n = t at hil HI HE
            have a2 : (⟨u1.toArray⟩ : ByteArray) ++ ⟨t.toArray⟩ = ⟨(u1 ++ t).toArray⟩ := mk_append u1 t
            have l2 : (u1 ++ t).length ≤ 60 := by simp; omega
            generalize u1 ++ t = u2 at a2 l2 HE
            go_wp2_with fail
            refine (HI.out _).mono ?_
            rintro e w2 ⟨rfl, b2⟩
            have bb2 := below_then bb1 b2 (Nat.le_refl _)
            have o2 := o1.later b2
            have T2 := (b2.block (w.heap.size + 1) (by omega)).trans T1
            have s2 := b2.size
            clear o1 bb1 b2 p0 p1 p2 tc T1
            have oW := OwnV.alloc o2 (.cells #[str u2] 9)
            have hsL := (bb2).size
            have bW := (bb2).trans ((Below.refl w.heap.size w2).alloc hsL (.cells #[str u2] 9))
            have TW := (((Below.refl (w2).heap.size w2).alloc (Nat.le_refl _) (.cells #[str u2] 9)).block (w.heap.size + 1) (by omega)).trans T2
            have h2W : w.heap.size + 2 ≤ ((w2).alloc (.cells #[str u2] 9)).heap.size := by simp; omega
            go_wp2_with (at_builtin; refine wpList_append_own_at _ rfl _ _ 24 rfl w.heap.size 9 i0 (.string ⟨#[]⟩) 1 16 Tryz.underlying24 hi hz0 hz1 hz2 rfl (by decide) _ _ _ rfl oW ⟨(w2).heap.size, 0, none⟩ 1 1 [str u2] rfl rfl ?c1 ?c2 ?c3 ?c4 ?c5 ?_)
            case c1 =>
              intro j u hj
              match j, hj with
              | 0, hj => simp at hj; subst hj; simp [Addr.add]
            case c2 => intro u hu; simp at hu; subst hu; rfl
            case c3 => unfold maxLen; rw [List.length_map, HLT.out]; omega
            case c4 => rw [List.length_map, HLT.out]; omega
            case c5 => simp; omega
            intro v9 w9 hown9 hgr9 _ hat9
            obtain ⟨g9, c9, rfl, hg9, o9, T9, s9, b9⟩ := app_at8 oW HLT.out bW hg TW h2W (by rw [List.length_map]; exact hown9) hgr9 (by rw [World.size_alloc]; exact hat9)
            rw [HE.out, ← HM.out] at o9
            clear hown9 hgr9 hat9 oW bW TW h2W
            go_wp2
            go_roundw
            case rel => exact ⟨k + 1, g9, c9, by omega, by go_num, rfl, hg9, o9, HA, T9, s9, b9⟩
            case measure => simp [intOf]; omega
    · obtain rfl : k = cs.length := by omega
      have HAL : Hid (cs.all opB = true) := Lib.hid (by have := hall.out; rwa [List.take_of_length_le (Nat.le_refl _)] at this)
      have HE : Hid (Lib.join (cs.map showO) [59, 32] = R) := Lib.hid (by rw [← HR.out, codeTxt, if_pos HAL.out])
      have HJ := Lib.hid (code_len HAL.out hn)
      rw [List.take_of_length_le (Nat.le_refl _)] at ho
      clear hall hlt hk
      go_wp2_with fail
      refine (l1Words_any _ _ _ [59, 32] _ ho.see (by have := HJ.out; omega)).mono ?_
      rintro e w1 ⟨rfl, rfl⟩
      go_wp2_with fail
      go_ret
      exact ⟨ret_txt8 HE.out, hbw⟩

end Go.Proofs.YtjcmfdgphhonhaaGreatDoor
