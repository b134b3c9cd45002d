/- Layer 7 (plays): the program's takesDeed: one deed is read, from label to label. Condition: the listed variables hold what the program's text lays (Vars). -/
import Derived.Test.YtjcmfdgphhonhaaGreatDoorRdrP
namespace Go.Proofs.YtjcmfdgphhonhaaGreatDoor
open Go.RowKit
set_option linter.unusedVariables false

/-- The frame at a jump. -/
def Fr (g : Nat) (s : Value) (a : Act) : Prop := ∃ u4 u5 u6 u7 u8 u9 u10 u11 u12 u13 u14 u15 u16 u17 u18 u19 u20 u21 u22 u23 u24 u25 u26 u27 u28 u29 u30 u31 u32 u33 u34 u35 u36 u37 u38 u39 u40 u41 u42 u43 u44 u45 u46 u47 u48 u49 u50 u51 u52 u53 u54 u55 u56 u57 u58 u59 u60 u61 u62 u63 u64 : Value, a = { tmps := #[.pointer (some ⟨g, 0, none⟩), undef, .bool false, s, u4, u5, u6, u7, u8, u9, u10, u11, u12, u13, u14, u15, u16, u17, u18, u19, u20, u21, u22, u23, u24, u25, u26, u27, u28, u29, u30, u31, u32, u33, u34, u35, u36, u37, u38, u39, u40, u41, u42, u43, u44, u45, u46, u47, u48, u49, u50, u51, u52, u53, u54, u55, u56, u57, u58, u59, u60, u61, u62, u63, u64], defers := [] }
/-- Where the reader is: it has come from k0 to k. -/
structure St7 (B g : Nat) (sv : Value) (ss : List Txt) (w : World) (nm0 : List Txt) (gt0 : List Int) (dp0 k0 k p : Nat) (o : List Bool) (dp : Nat) (W : World) : Prop where
  old : Below g w W
  hk : k ≤ ss.length
  hp : p ≤ ss.length + 1
  ho : o.length ≤ k
  rd : ∃ a gg vn vg vo, Lin ss k0 k a gg ∧ Rd B g sv ss W ((p : Nat) : Int) vn vg vo (nm0 ++ a) (gt0 ++ gg.map Int.ofNat) o (max dp0 dp)
def JD (B g : Nat) (sv : Value) (ss : List Txt) (w : World) (nm0 : List Txt) (gt0 : List Int) (dp0 k0 : Nat) (a : Act) (W : World) : Prop :=
  ∃ k o dp s, Fr g s a ∧ AtD ss k0 Todo o k dp ∧ St7 B g sv ss w nm0 gt0 dp0 k0 k k o dp W
def JS (B g : Nat) (sv : Value) (ss : List Txt) (w : World) (nm0 : List Txt) (gt0 : List Int) (dp0 k0 : Nat) (x : Txt) (a : Act) (W : World) : Prop :=
  ∃ k o dp s, Fr g s a ∧ AtD ss k0 Todo o k dp ∧ sg7 ss k = x ∧ St7 B g sv ss w nm0 gt0 dp0 k0 k (k + 1) o dp W
def JA (B g : Nat) (sv : Value) (ss : List Txt) (w : World) (nm0 : List Txt) (gt0 : List Int) (dp0 k0 : Nat) (a : Act) (W : World) : Prop :=
  ∃ k o dp b, Fr g (.bool b) a ∧ AtD ss k0 Todo o k dp ∧ sg7 ss k = (if b = true then wIf else wWhile) ∧ St7 B g sv ss w nm0 gt0 dp0 k0 k (k + 1) o dp W
def JO (B g : Nat) (sv : Value) (ss : List Txt) (w : World) (nm0 : List Txt) (gt0 : List Int) (dp0 k0 : Nat) (a : Act) (W : World) : Prop :=
  ∃ k o dp b, Fr g (.bool b) a ∧ (sg7 ss k = wOpen → AtD ss k0 Todo (b :: o) (k + 1) (max dp (o.length + 1))) ∧ (¬ sg7 ss k = wOpen → ∀ e D, ¬ One ss k0 e D) ∧ St7 B g sv ss w nm0 gt0 dp0 k0 k k o dp W
def JB (B g : Nat) (sv : Value) (ss : List Txt) (w : World) (nm0 : List Txt) (gt0 : List Int) (dp0 k0 : Nat) (a : Act) (W : World) : Prop :=
  ∃ k o dp s, Fr g s a ∧ AtD ss k0 Rest o k dp ∧ St7 B g sv ss w nm0 gt0 dp0 k0 k k o dp W
/-- What holds at a jump to label l. -/
def J7 (B g : Nat) (sv : Value) (ss : List Txt) (w : World) (nm0 : List Txt) (gt0 : List Int) (dp0 k0 l : Nat) (a : Act) (W : World) : Prop :=
  match l with
  | 0 => JS B g sv ss w nm0 gt0 dp0 k0 wSet a W
  | 1 => JS B g sv ss w nm0 gt0 dp0 k0 wIn a W
  | 2 => JS B g sv ss w nm0 gt0 dp0 k0 wOut a W
  | 3 => JB B g sv ss w nm0 gt0 dp0 k0 a W
  | 4 => JA B g sv ss w nm0 gt0 dp0 k0 a W
  | 5 => JS B g sv ss w nm0 gt0 dp0 k0 wShut a W
  | 6 => JD B g sv ss w nm0 gt0 dp0 k0 a W
  | 7 => JO B g sv ss w nm0 gt0 dp0 k0 a W
  | _ => False
def atOf (g : Nat) (W : World) : Nat := match W.cell? ⟨g, 1, none⟩ with
  | some (.int _ z) => z.toNat
  | _ => 0
theorem atOf_eq {g : Nat} {W : World} {p : Nat} (h : W.cell? ⟨g, 1, none⟩ = some (.int .i64 (p : Int))) : atOf g W = p := by unfold atOf; rw [h]; simp
def mu7 (g n l : Nat) (W : World) : Nat := 2 * (n + 2 - atOf g W) + (if l = 3 ∨ l = 5 then 1 else 0)
theorem St7.at_ {B g : Nat} {sv : Value} {ss : List Txt} {w : World} {nm0 : List Txt} {gt0 : List Int} {dp0 k0 k p : Nat} {o : List Bool} {dp : Nat} {W : World} (h : St7 B g sv ss w nm0 gt0 dp0 k0 k p o dp W) : atOf g W = p := by
  obtain ⟨a, gg, vn, vg, vo, _, hr⟩ := h.rd
  exact atOf_eq hr.c1
/-- What takesDeed hands back. -/
def TakesOut (B g : Nat) (sv : Value) (ss : List Txt) (w : World) (nm0 : List Txt) (gt0 : List Int) (dp0 k0 : Nat) (e : Ending) (w' : World) : Prop :=
  (e = .returned (.bool false) ∧ Below g w w' ∧ ∀ e' D, ¬ One ss k0 e' D) ∨
  (e = .returned (.bool true) ∧ Below g w w' ∧ ∃ e' D a gg vn vg vo, One ss k0 e' D ∧ Lin ss k0 e' a gg ∧ Rd B g sv ss w' (e' : Int) vn vg vo (nm0 ++ a) (gt0 ++ gg.map Int.ofNat) [] (max dp0 D))
theorem no_flat {ss : List Txt} {k0 k dp : Nat} {o : List Bool} {x : Txt} (h : AtD ss k0 Todo o k dp) (hx : sg7 ss k = x) (h1 : ¬ x = wIf) (h2 : ¬ x = wWhile) (h3 : ¬ x = wShut) (hf : flatE ss k = none) : ∀ e D, ¬ One ss k0 e D :=
  at_fail h (fail_flat hf (by rw [hx]; exact h1) (by rw [hx]; exact h2) (by rw [hx]; exact h3))
theorem St7.fresh {B g : Nat} {sv : Value} {ss : List Txt} {w : World} {nm0 : List Txt} {gt0 : List Int} {dp0 k0 k p : Nat} {o : List Bool} {dp : Nat} {W : World} (h : St7 B g sv ss w nm0 gt0 dp0 k0 k p o dp W) :
    ∃ a gg vn vg vo, Lin ss k0 k a gg ∧ a.length ≤ 1048576 + k ∧ gg.length ≤ k ∧ Rd B g sv ss W ((p : Nat) : Int) vn vg vo (nm0 ++ a) (gt0 ++ gg.map Int.ofNat) o (max dp0 dp) := by
  obtain ⟨a, gg, vn, vg, vo, hl, hr⟩ := h.rd
  have := lin_alen hl
  have := lin_glen hl
  exact ⟨a, gg, vn, vg, vo, hl, by omega, by omega, hr⟩

set_option maxRecDepth 100000 in
set_option maxHeartbeats 8000000 in
theorem takesDeed_any (B g : Nat) (sv : Value) (ss : List Txt) (w : World) (k0 : Nat) (vn vg vo : Value) (nm0 : List Txt) (gt0 : List Int) (dp0 : Nat) (V : ∀ w', Below g w w' → Vars w') (h : Rd B g sv ss w (k0 : Int) vn vg vo nm0 gt0 [] dp0) (hn : ss.length ≤ 1048576) (hS : shortS ss) (hk0 : k0 ≤ ss.length) (hnm : nm0.length ≤ 1048576) (hgt : gt0.length ≤ 1048576) :
    Calls Tryz.prog 168 #[.pointer (some ⟨g, 0, none⟩)] w (TakesOut B g sv ss w nm0 gt0 dp0 k0) := by
  have HV := Lib.hid V
  clear V
  go_enter Tryz.func168, Tryz.ntmps168
  go_wp2
  refine wp_scope_many (J7 B g sv ss w nm0 gt0 dp0 k0) (fun l _ W => mu7 g ss.length l W) ?_ ?_
  · have hSt : St7 B g sv ss w nm0 gt0 dp0 k0 k0 k0 [] 0 w := ⟨Below.refl _ _, hk0, by omega, by simp, [], [], vn, vg, vo, .nil k0, by simpa using h⟩
    obtain ⟨k, o, dp, hA, hSt⟩ : ∃ k o dp, AtD ss k0 Todo o k dp ∧ St7 B g sv ss w nm0 gt0 dp0 k0 k k o dp w := ⟨k0, [], 0, at_start ss k0, hSt⟩
    clear h
    go_wp2_with fail
    go_step3
    obtain ⟨a1, gg, vn1, vg1, vo1, hL, hal, hgl, hR⟩ := hSt.fresh
    have hold := hSt.old
    have hk := hSt.hk
    have ho := hSt.ho
    have m0 := hSt.at_
    have HA := Lib.hid hA
    have HLn := Lib.hid hL
    have HNX := Lib.hid (next_any B g sv ss w k vn1 vg1 vo1 _ _ o _ hR hn)
    obtain ⟨x, HX⟩ : ∃ x, Hid (sg7 ss k = x) := ⟨_, Lib.hid rfl⟩
    rw [HX.out] at HNX
    clear hA hL hR hSt
    go_wp2_with fail
    refine HNX.out.mono ?_
    rintro e w1 ⟨rfl, b1, vn2, vg2, vo2, h2⟩
    have B1 := Lib.hid (hold.trans b1)
    have H2 := Lib.hid h2
    clear b1 h2 hold
    rcases Classical.em (x = wSet) with q | n1
    · subst q
      have hlt : k < ss.length := sg7_in (by rw [HX.out]; simp)
      have E := nx_in hlt
      have S1 : Hid (St7 B g sv ss w nm0 gt0 dp0 k0 k (k + 1) o dp w1) := Lib.hid ⟨B1.out, by omega, by omega, by omega, a1, gg, _, _, _, HLn.out, by rw [← E]; exact H2.out⟩
      have m1 := Lib.hid S1.out.at_
      go_wp2_with fail
      go_step3
      exact ⟨k, o, dp, _, ⟨_, _, _, _, _, _, _, _, _, _, _, _, _, _, _, _, _, _, _, _, _, _, _, _, _, _, _, _, _, _, _, _, _, _, _, _, _, _, _, _, _, _, _, _, _, _, _, _, _, _, _, _, _, _, _, _, _, _, _, _, _, rfl⟩, HA.out, HX.out, S1.out⟩
    rcases Classical.em (x = wIn) with q | n2
    · subst q
      have hlt : k < ss.length := sg7_in (by rw [HX.out]; simp)
      have E := nx_in hlt
      have S1 : Hid (St7 B g sv ss w nm0 gt0 dp0 k0 k (k + 1) o dp w1) := Lib.hid ⟨B1.out, by omega, by omega, by omega, a1, gg, _, _, _, HLn.out, by rw [← E]; exact H2.out⟩
      have m1 := Lib.hid S1.out.at_
      go_wp2_with fail
      go_step3
      exact ⟨k, o, dp, _, ⟨_, _, _, _, _, _, _, _, _, _, _, _, _, _, _, _, _, _, _, _, _, _, _, _, _, _, _, _, _, _, _, _, _, _, _, _, _, _, _, _, _, _, _, _, _, _, _, _, _, _, _, _, _, _, _, _, _, _, _, _, _, rfl⟩, HA.out, HX.out, S1.out⟩
    rcases Classical.em (x = wOut) with q | n3
    · subst q
      have hlt : k < ss.length := sg7_in (by rw [HX.out]; simp)
      have E := nx_in hlt
      have S1 : Hid (St7 B g sv ss w nm0 gt0 dp0 k0 k (k + 1) o dp w1) := Lib.hid ⟨B1.out, by omega, by omega, by omega, a1, gg, _, _, _, HLn.out, by rw [← E]; exact H2.out⟩
      have m1 := Lib.hid S1.out.at_
      go_wp2_with fail
      go_step3
      exact ⟨k, o, dp, _, ⟨_, _, _, _, _, _, _, _, _, _, _, _, _, _, _, _, _, _, _, _, _, _, _, _, _, _, _, _, _, _, _, _, _, _, _, _, _, _, _, _, _, _, _, _, _, _, _, _, _, _, _, _, _, _, _, _, _, _, _, _, _, rfl⟩, HA.out, HX.out, S1.out⟩
    rcases Classical.em (x = wStop) with q | n4
    · subst q
      have hlt : k < ss.length := sg7_in (by rw [HX.out]; simp)
      have E := nx_in hlt
      have S1 : Hid (St7 B g sv ss w nm0 gt0 dp0 k0 (k + 1) (k + 1) o dp w1) := Lib.hid ⟨B1.out, by omega, by omega, by omega, a1, gg, _, _, _, (by have q := HLn.out.snoc (.other (.inl HX.out)); rwa [List.append_nil, List.append_nil] at q), by rw [← E]; exact H2.out⟩
      have m1 := Lib.hid S1.out.at_
      go_wp2_with fail
      go_step3
      exact ⟨k + 1, o, dp, _, ⟨_, _, _, _, _, _, _, _, _, _, _, _, _, _, _, _, _, _, _, _, _, _, _, _, _, _, _, _, _, _, _, _, _, _, _, _, _, _, _, _, _, _, _, _, _, _, _, _, _, _, _, _, _, _, _, _, _, _, _, _, _, rfl⟩, at_flat HA.out (flat_stop HX.out), S1.out⟩
    rcases Classical.em (x = wIf) with q | n5
    · subst q
      have hlt : k < ss.length := sg7_in (by rw [HX.out]; simp)
      have E := nx_in hlt
      have S1 : Hid (St7 B g sv ss w nm0 gt0 dp0 k0 k (k + 1) o dp w1) := Lib.hid ⟨B1.out, by omega, by omega, by omega, a1, gg, _, _, _, HLn.out, by rw [← E]; exact H2.out⟩
      have m1 := Lib.hid S1.out.at_
      go_wp2_with fail
      go_step3
      exact ⟨k, o, dp, true, ⟨_, _, _, _, _, _, _, _, _, _, _, _, _, _, _, _, _, _, _, _, _, _, _, _, _, _, _, _, _, _, _, _, _, _, _, _, _, _, _, _, _, _, _, _, _, _, _, _, _, _, _, _, _, _, _, _, _, _, _, _, _, rfl⟩, HA.out, (by rw [if_pos rfl]; exact HX.out), S1.out⟩
    rcases Classical.em (x = wWhile) with q | n6
    · subst q
      have hlt : k < ss.length := sg7_in (by rw [HX.out]; simp)
      have E := nx_in hlt
      have S1 : Hid (St7 B g sv ss w nm0 gt0 dp0 k0 k (k + 1) o dp w1) := Lib.hid ⟨B1.out, by omega, by omega, by omega, a1, gg, _, _, _, HLn.out, by rw [← E]; exact H2.out⟩
      have m1 := Lib.hid S1.out.at_
      go_wp2_with fail
      go_step3
      exact ⟨k, o, dp, false, ⟨_, _, _, _, _, _, _, _, _, _, _, _, _, _, _, _, _, _, _, _, _, _, _, _, _, _, _, _, _, _, _, _, _, _, _, _, _, _, _, _, _, _, _, _, _, _, _, _, _, _, _, _, _, _, _, _, _, _, _, _, _, rfl⟩, HA.out, (by rw [if_neg (by simp)]; exact HX.out), S1.out⟩
    rcases Classical.em (x = wShut) with q | n7
    · subst q
      have hlt : k < ss.length := sg7_in (by rw [HX.out]; simp)
      have E := nx_in hlt
      have S1 : Hid (St7 B g sv ss w nm0 gt0 dp0 k0 k (k + 1) o dp w1) := Lib.hid ⟨B1.out, by omega, by omega, by omega, a1, gg, _, _, _, HLn.out, by rw [← E]; exact H2.out⟩
      have m1 := Lib.hid S1.out.at_
      go_wp2_with fail
      go_step3
      exact ⟨k, o, dp, _, ⟨_, _, _, _, _, _, _, _, _, _, _, _, _, _, _, _, _, _, _, _, _, _, _, _, _, _, _, _, _, _, _, _, _, _, _, _, _, _, _, _, _, _, _, _, _, _, _, _, _, _, _, _, _, _, _, _, _, _, _, _, _, rfl⟩, HA.out, HX.out, S1.out⟩
    have HNO : Hid (∀ e D, ¬ One ss k0 e D) := Lib.hid (no_flat HA.out HX.out n5 n6 n7 (flat_other (by rw [HX.out]; exact n1) (by rw [HX.out]; exact n2) (by rw [HX.out]; exact n3) (by rw [HX.out]; exact n4)))
    have e1 : (x == [115, 101, 116]) = false := by simpa using n1
    have e2 : (x == [105, 110]) = false := by simpa using n2
    have e3 : (x == [111, 117, 116]) = false := by simpa using n3
    have e4 : (x == [115, 116, 111, 112]) = false := by simpa using n4
    have e5 : (x == [105, 102]) = false := by simpa using n5
    have e6 : (x == [119, 104, 105, 108, 101]) = false := by simpa using n6
    have e7 : (x == [93]) = false := by simpa using n7
    clear n1 n2 n3 n4 n5 n6 n7
    go_wp2_with fail
    simp only [jumps]
    go_ret
    exact .inl ⟨rfl, B1.out, HNO.out⟩
  · intro l a W hJ
    match l, hJ with
    | 0, hJ =>
      refine ⟨_, rfl, ?_⟩
      obtain ⟨k, o, dp, s, ⟨u4, u5, u6, u7, u8, u9, u10, u11, u12, u13, u14, u15, u16, u17, u18, u19, u20, u21, u22, u23, u24, u25, u26, u27, u28, u29, u30, u31, u32, u33, u34, u35, u36, u37, u38, u39, u40, u41, u42, u43, u44, u45, u46, u47, u48, u49, u50, u51, u52, u53, u54, u55, u56, u57, u58, u59, u60, u61, u62, u63, u64, rfl⟩, hA, hx, hSt⟩ := hJ
      have HX := Lib.hid hx
      obtain ⟨a1, gg, vn1, vg1, vo1, hL, hal, hgl, hR⟩ := hSt.fresh
      have hold := hSt.old
      have hk := hSt.hk
      have ho := hSt.ho
      have m0 := hSt.at_
      have hlt : k < ss.length := sg7_in (by rw [HX.out]; simp)
      have hnl : (nm0 ++ a1).length ≤ 4194304 := by rw [List.length_append]; omega
      have hgtl : (gt0 ++ gg.map Int.ofNat).length ≤ 4194304 := by rw [List.length_append, List.length_map]; omega
      have HA := Lib.hid hA
      have HLn := Lib.hid hL
      have hV1 := Lib.hid (fun w' (b : Below g W w') => HV.out w' (hold.trans b))
      have HT := Lib.hid (takesName_any B g sv ss W (k + 1) vn1 vg1 vo1 _ _ o _ hR hn hS hnl)
      obtain ⟨y, HY⟩ : ∃ y, Hid (sg7 ss (k + 1) = y) := ⟨_, Lib.hid rfl⟩
      rw [HY.out] at HT
      clear hA hL hR hSt hx
      go_wp2_with fail
      refine HT.out.mono ?_
      rintro e w1 ⟨rfl, b1, vn2, vg2, vo2, h2⟩
      have B1 := Lib.hid (hold.trans b1)
      cases hy : nameB y with
      | false =>
        have HNO : Hid (∀ e D, ¬ One ss k0 e D) := Lib.hid (no_flat HA.out HX.out (by decide) (by decide) (by decide) (by rw [flat_set HX.out, if_neg (by rw [HY.out, hy]; simp)]))
        clear hy h2 b1
        go_wp2_with fail
        simp only [jumps]
        go_ret
        exact .inl ⟨rfl, B1.out, HNO.out⟩
      | true =>
        have hl1 : k + 1 < ss.length := sg7_in (by rw [HY.out]; intro q; rw [q, nameB_nil] at hy; cases hy)
        rw [nx_in hl1] at h2
        have HFL : Hid (flatE ss k = nnE (sumEndS ss ((k + 2 : Nat) : Int))) := Lib.hid (by rw [flat_set HX.out, if_pos (by rw [HY.out]; exact hy)])
        have HYN := Lib.hid hy
        clear hy
        have HT := Lib.hid (takesSum_any B g sv ss w1 (k + 2) _ _ _ _ _ o _ (fun w' b => HV.out w' (B1.out.trans b)) h2 hn hS (by rw [List.length_append]; simp; omega))
        go_wp2_with fail
        refine HT.out.mono ?_
        rintro e w2 ⟨rfl, b2, vn3, vg3, vo3, h3⟩
        have B2 := Lib.hid (B1.out.trans b2)
        have H3 := Lib.hid h3
        clear b2 h3
        cases hz : nnE (sumEndS ss ((k + 2 : Nat) : Int)) with
        | none =>
          have HD : Hid (decide (0 ≤ sumEndS ss ((k + 2 : Nat) : Int)) = false) := Lib.hid (decide_eq_false (by have := nnE_none hz; omega))
          have HNO : Hid (∀ e D, ¬ One ss k0 e D) := Lib.hid (no_flat HA.out HX.out (by decide) (by decide) (by decide) (by rw [HFL.out]; exact hz))
          rw [HD.out]
          clear hz
          go_wp2_with fail
          simp only [jumps]
          go_ret
          exact .inl ⟨rfl, B2.out, HNO.out⟩
        | some k1 =>
          have HD : Hid (decide (0 ≤ sumEndS ss ((k + 2 : Nat) : Int)) = true) := Lib.hid (decide_eq_true (by have := nnE_some hz; omega))
          have hki := end_in hz
          have S1 : Hid (St7 B g sv ss w nm0 gt0 dp0 k0 k1 k1 o dp w2) := Lib.hid ⟨B2.out, by omega, by omega, by omega, a1 ++ (y :: namesS ss ((k + 2 : Nat) : Int)), gg ++ [], _, _, _, HLn.out.snoc (.set HX.out HY.out HYN.out hz), by have q := H3.out; rw [nnE_some hz] at q; simpa [List.append_assoc] using q⟩
          have HAR : Hid (AtD ss k0 Rest o k1 dp) := Lib.hid (at_flat HA.out (by rw [HFL.out]; exact hz))
          have m1 := Lib.hid S1.out.at_
          rw [HD.out]
          clear hz
          go_wp2_with fail
          go_step3
          refine ⟨⟨k1, o, dp, _, ⟨_, _, _, _, _, _, _, _, _, _, _, _, _, _, _, _, _, _, _, _, _, _, _, _, _, _, _, _, _, _, _, _, _, _, _, _, _, _, _, _, _, _, _, _, _, _, _, _, _, _, _, _, _, _, _, _, _, _, _, _, _, rfl⟩, HAR.out, S1.out⟩, ?_⟩
          show mu7 g ss.length 3 w2 < mu7 g ss.length 0 W
          unfold mu7
          first | rw [m1.out, m0] | rw [m0]
          simp <;> omega
    | 1, hJ =>
      refine ⟨_, rfl, ?_⟩
      obtain ⟨k, o, dp, s, ⟨u4, u5, u6, u7, u8, u9, u10, u11, u12, u13, u14, u15, u16, u17, u18, u19, u20, u21, u22, u23, u24, u25, u26, u27, u28, u29, u30, u31, u32, u33, u34, u35, u36, u37, u38, u39, u40, u41, u42, u43, u44, u45, u46, u47, u48, u49, u50, u51, u52, u53, u54, u55, u56, u57, u58, u59, u60, u61, u62, u63, u64, rfl⟩, hA, hx, hSt⟩ := hJ
      have HX := Lib.hid hx
      obtain ⟨a1, gg, vn1, vg1, vo1, hL, hal, hgl, hR⟩ := hSt.fresh
      have hold := hSt.old
      have hk := hSt.hk
      have ho := hSt.ho
      have m0 := hSt.at_
      have hlt : k < ss.length := sg7_in (by rw [HX.out]; simp)
      have hnl : (nm0 ++ a1).length ≤ 4194304 := by rw [List.length_append]; omega
      have hgtl : (gt0 ++ gg.map Int.ofNat).length ≤ 4194304 := by rw [List.length_append, List.length_map]; omega
      have HA := Lib.hid hA
      have HLn := Lib.hid hL
      have hV1 := Lib.hid (fun w' (b : Below g W w') => HV.out w' (hold.trans b))
      have HT := Lib.hid (takesName_any B g sv ss W (k + 1) vn1 vg1 vo1 _ _ o _ hR hn hS hnl)
      obtain ⟨y, HY⟩ : ∃ y, Hid (sg7 ss (k + 1) = y) := ⟨_, Lib.hid rfl⟩
      rw [HY.out] at HT
      clear hA hL hR hSt hx
      go_wp2_with fail
      refine HT.out.mono ?_
      rintro e w1 ⟨rfl, b1, vn2, vg2, vo2, h2⟩
      have B1 := Lib.hid (hold.trans b1)
      cases hy : nameB y with
      | false =>
        have HNO : Hid (∀ e D, ¬ One ss k0 e D) := Lib.hid (no_flat HA.out HX.out (by decide) (by decide) (by decide) (by rw [flat_in7 HX.out, if_neg (by rw [HY.out, hy]; simp)]))
        clear hy h2 b1
        go_wp2_with fail
        simp only [jumps]
        go_ret
        exact .inl ⟨rfl, B1.out, HNO.out⟩
      | true =>
        have hl1 : k + 1 < ss.length := sg7_in (by rw [HY.out]; intro q; rw [q, nameB_nil] at hy; cases hy)
        rw [nx_in hl1] at h2
        have HT2 := Lib.hid (takesGate_any B g sv ss w1 (k + 2) _ _ _ _ _ o _ (fun w' b => HV.out w' (B1.out.trans b)) h2 hn hS hgtl)
        obtain ⟨z, HZ⟩ : ∃ z, Hid (sg7 ss (k + 2) = z) := ⟨_, Lib.hid rfl⟩
        rw [HZ.out] at HT2
        have HYN := Lib.hid hy
        clear hy
        go_wp2_with fail
        refine HT2.out.mono ?_
        rintro e w2 ⟨rfl, b2, vn3, vg3, vo3, h3⟩
        have B2 := Lib.hid (B1.out.trans b2)
        cases hg : gateN z with
        | none =>
          have HNO : Hid (∀ e D, ¬ One ss k0 e D) := Lib.hid (no_flat HA.out HX.out (by decide) (by decide) (by decide) (by rw [flat_in7 HX.out, if_neg (by rw [HZ.out, hg]; simp)]))
          clear hg h3 b2
          rw [show (none : Option Nat).isSome = false from rfl]
          go_wp2_with fail
          simp only [jumps]
          go_ret
          exact .inl ⟨rfl, B2.out, HNO.out⟩
        | some j =>
          have hl2 : k + 2 < ss.length := sg7_in (by rw [HZ.out]; intro q; rw [q, gateN_nil] at hg; cases hg)
          rw [nx_in hl2, gz_gate hg] at h3
          have HF : Hid (flatE ss k = some (k + 3)) := Lib.hid (by rw [flat_in7 HX.out, if_pos ⟨by rw [HY.out]; exact HYN.out, by rw [HZ.out, hg]; rfl⟩])
          have S1 : Hid (St7 B g sv ss w nm0 gt0 dp0 k0 (k + 3) (k + 3) o dp w2) := Lib.hid ⟨B2.out, by omega, by omega, by omega, a1 ++ [y], gg ++ [j], _, _, _, HLn.out.snoc (.in_ HX.out HY.out HYN.out (by rw [HZ.out]; exact hg)), by have q : Rd B g sv ss w2 ((k + 3 : Nat) : Int) vn3 vg3 vo3 _ _ o _ := h3; simpa [List.append_assoc] using q⟩
          have HAR : Hid (AtD ss k0 Rest o (k + 3) dp) := Lib.hid (at_flat HA.out HF.out)
          have m1 := Lib.hid S1.out.at_
          clear hg h3 b2
          rw [show (some j : Option Nat).isSome = true from rfl]
          go_wp2_with fail
          go_step3
          refine ⟨⟨k + 3, o, dp, _, ⟨_, _, _, _, _, _, _, _, _, _, _, _, _, _, _, _, _, _, _, _, _, _, _, _, _, _, _, _, _, _, _, _, _, _, _, _, _, _, _, _, _, _, _, _, _, _, _, _, _, _, _, _, _, _, _, _, _, _, _, _, _, rfl⟩, HAR.out, S1.out⟩, ?_⟩
          show mu7 g ss.length 3 w2 < mu7 g ss.length 1 W
          unfold mu7
          first | rw [m1.out, m0] | rw [m0]
          simp <;> omega
    | 2, hJ =>
      refine ⟨_, rfl, ?_⟩
      obtain ⟨k, o, dp, s, ⟨u4, u5, u6, u7, u8, u9, u10, u11, u12, u13, u14, u15, u16, u17, u18, u19, u20, u21, u22, u23, u24, u25, u26, u27, u28, u29, u30, u31, u32, u33, u34, u35, u36, u37, u38, u39, u40, u41, u42, u43, u44, u45, u46, u47, u48, u49, u50, u51, u52, u53, u54, u55, u56, u57, u58, u59, u60, u61, u62, u63, u64, rfl⟩, hA, hx, hSt⟩ := hJ
      have HX := Lib.hid hx
      obtain ⟨a1, gg, vn1, vg1, vo1, hL, hal, hgl, hR⟩ := hSt.fresh
      have hold := hSt.old
      have hk := hSt.hk
      have ho := hSt.ho
      have m0 := hSt.at_
      have hlt : k < ss.length := sg7_in (by rw [HX.out]; simp)
      have hnl : (nm0 ++ a1).length ≤ 4194304 := by rw [List.length_append]; omega
      have hgtl : (gt0 ++ gg.map Int.ofNat).length ≤ 4194304 := by rw [List.length_append, List.length_map]; omega
      have HA := Lib.hid hA
      have HLn := Lib.hid hL
      have hV1 := Lib.hid (fun w' (b : Below g W w') => HV.out w' (hold.trans b))
      have HT := Lib.hid (takesGate_any B g sv ss W (k + 1) vn1 vg1 vo1 _ _ o _ hV1.out hR hn hS hgtl)
      obtain ⟨z, HZ⟩ : ∃ z, Hid (sg7 ss (k + 1) = z) := ⟨_, Lib.hid rfl⟩
      rw [HZ.out] at HT
      clear hA hL hR hSt hx
      go_wp2_with fail
      refine HT.out.mono ?_
      rintro e w1 ⟨rfl, b1, vn2, vg2, vo2, h2⟩
      have B1 := Lib.hid (hold.trans b1)
      cases hg : gateN z with
      | none =>
        have HNO : Hid (∀ e D, ¬ One ss k0 e D) := Lib.hid (no_flat HA.out HX.out (by decide) (by decide) (by decide) (by rw [flat_out HX.out, if_neg (by rw [HZ.out, hg]; simp)]))
        clear hg h2 b1
        rw [show (none : Option Nat).isSome = false from rfl]
        go_wp2_with fail
        simp only [jumps]
        go_ret
        exact .inl ⟨rfl, B1.out, HNO.out⟩
      | some j =>
        have hl1 : k + 1 < ss.length := sg7_in (by rw [HZ.out]; intro q; rw [q, gateN_nil] at hg; cases hg)
        rw [nx_in hl1, gz_gate hg] at h2
        have HFL : Hid (flatE ss k = nnE (sumEndS ss ((k + 2 : Nat) : Int))) := Lib.hid (by rw [flat_out HX.out, if_pos (by rw [HZ.out, hg]; rfl)])
        have HG : Hid (gateN (sg7 ss (k + 1)) = some j) := Lib.hid (by rw [HZ.out]; exact hg)
        clear hg
        rw [show (some j : Option Nat).isSome = true from rfl]
        have HT := Lib.hid (takesSum_any B g sv ss w1 (k + 2) _ _ _ _ _ o _ (fun w' b => HV.out w' (B1.out.trans b)) h2 hn hS (hnl))
        go_wp2_with fail
        refine HT.out.mono ?_
        rintro e w2 ⟨rfl, b2, vn3, vg3, vo3, h3⟩
        have B2 := Lib.hid (B1.out.trans b2)
        have H3 := Lib.hid h3
        clear b2 h3
        cases hz : nnE (sumEndS ss ((k + 2 : Nat) : Int)) with
        | none =>
          have HD : Hid (decide (0 ≤ sumEndS ss ((k + 2 : Nat) : Int)) = false) := Lib.hid (decide_eq_false (by have := nnE_none hz; omega))
          have HNO : Hid (∀ e D, ¬ One ss k0 e D) := Lib.hid (no_flat HA.out HX.out (by decide) (by decide) (by decide) (by rw [HFL.out]; exact hz))
          rw [HD.out]
          clear hz
          go_wp2_with fail
          simp only [jumps]
          go_ret
          exact .inl ⟨rfl, B2.out, HNO.out⟩
        | some k1 =>
          have HD : Hid (decide (0 ≤ sumEndS ss ((k + 2 : Nat) : Int)) = true) := Lib.hid (decide_eq_true (by have := nnE_some hz; omega))
          have hki := end_in hz
          have S1 : Hid (St7 B g sv ss w nm0 gt0 dp0 k0 k1 k1 o dp w2) := Lib.hid ⟨B2.out, by omega, by omega, by omega, a1 ++ namesS ss ((k + 2 : Nat) : Int), gg ++ [j], _, _, _, HLn.out.snoc (.out HX.out HG.out hz), by have q := H3.out; rw [nnE_some hz] at q; simpa [List.append_assoc] using q⟩
          have HAR : Hid (AtD ss k0 Rest o k1 dp) := Lib.hid (at_flat HA.out (by rw [HFL.out]; exact hz))
          have m1 := Lib.hid S1.out.at_
          rw [HD.out]
          clear hz
          go_wp2_with fail
          go_step3
          refine ⟨⟨k1, o, dp, _, ⟨_, _, _, _, _, _, _, _, _, _, _, _, _, _, _, _, _, _, _, _, _, _, _, _, _, _, _, _, _, _, _, _, _, _, _, _, _, _, _, _, _, _, _, _, _, _, _, _, _, _, _, _, _, _, _, _, _, _, _, _, _, rfl⟩, HAR.out, S1.out⟩, ?_⟩
          show mu7 g ss.length 3 w2 < mu7 g ss.length 2 W
          unfold mu7
          first | rw [m1.out, m0] | rw [m0]
          simp <;> omega
    | 3, hJ =>
      refine ⟨_, rfl, ?_⟩
      obtain ⟨k, o, dp, s, ⟨u4, u5, u6, u7, u8, u9, u10, u11, u12, u13, u14, u15, u16, u17, u18, u19, u20, u21, u22, u23, u24, u25, u26, u27, u28, u29, u30, u31, u32, u33, u34, u35, u36, u37, u38, u39, u40, u41, u42, u43, u44, u45, u46, u47, u48, u49, u50, u51, u52, u53, u54, u55, u56, u57, u58, u59, u60, u61, u62, u63, u64, rfl⟩, hA, hSt⟩ := hJ
      obtain ⟨an, gn, vn1, vg1, vo1, hL, hal, hgl, hR⟩ := hSt.fresh
      have hold := Lib.hid hSt.old
      have hk := hSt.hk
      have ho := hSt.ho
      have m0 := hSt.at_
      have HLo := Lib.hid hL
      have HA := Lib.hid hA
      clear hL hSt hA
      cases o with
      | nil =>
        have HRO := hR.opens
        obtain ⟨A, c, e⟩ := row_shape HRO
        rw [show ((([] : List Bool).reverse.map Value.bool).length) = 0 from rfl] at e
        subst e
        have c4 := hR.c4
        have HR9 := Lib.hid hR
        clear HRO hR
        go_wp2_with fail
        simp only [jumps]
        go_ret
        exact .inr ⟨rfl, hold.out, k, dp, an, gn, _, _, _, at_done HA.out, HLo.out, HR9.out⟩
      | cons b9 r9 =>
        have HRO := hR.opens
        obtain ⟨A, c, e⟩ := row_shape HRO
        rw [show (((b9 :: r9).reverse.map Value.bool).length) = r9.length + 1 by simp] at e
        subst e
        have c4 := hR.c4
        have hd9 : (((r9.length : Int) + 1) == 0) = false := by simp; omega
        have S1 : Hid (St7 B g sv ss w nm0 gt0 dp0 k0 (k) (k) (b9 :: r9) dp W) := Lib.hid ⟨hold.out, by omega, by omega, by simp at ho ⊢; omega, an, gn, _, _, _, HLo.out, hR⟩
        have m1 := Lib.hid S1.out.at_
        clear HRO hR
        go_wp2_with fail
        go_step3
        refine ⟨⟨k, b9 :: r9, dp, _, ⟨_, _, _, _, _, _, _, _, _, _, _, _, _, _, _, _, _, _, _, _, _, _, _, _, _, _, _, _, _, _, _, _, _, _, _, _, _, _, _, _, _, _, _, _, _, _, _, _, _, _, _, _, _, _, _, _, _, _, _, _, _, rfl⟩, HA.out, S1.out⟩, ?_⟩
        show mu7 g ss.length 6 W < mu7 g ss.length 3 W
        unfold mu7
        first | rw [m1.out, m0] | rw [m0]
        simp <;> omega
    | 4, hJ =>
      refine ⟨_, rfl, ?_⟩
      obtain ⟨k, o, dp, b, ⟨u4, u5, u6, u7, u8, u9, u10, u11, u12, u13, u14, u15, u16, u17, u18, u19, u20, u21, u22, u23, u24, u25, u26, u27, u28, u29, u30, u31, u32, u33, u34, u35, u36, u37, u38, u39, u40, u41, u42, u43, u44, u45, u46, u47, u48, u49, u50, u51, u52, u53, u54, u55, u56, u57, u58, u59, u60, u61, u62, u63, u64, rfl⟩, hA, hx, hSt⟩ := hJ
      obtain ⟨a1, gg, vn1, vg1, vo1, hL, hal, hgl, hR⟩ := hSt.fresh
      have hold := hSt.old
      have hk := hSt.hk
      have ho := hSt.ho
      have m0 := hSt.at_
      have HX : Hid (sg7 ss k = wIf ∨ sg7 ss k = wWhile) := Lib.hid (by cases b; (right; simpa using hx); (left; simpa using hx))
      have HXB := Lib.hid hx
      have hlt : k < ss.length := sg7_in (by rcases HX.out with q | q <;> (rw [q]; simp))
      have hnl : (nm0 ++ a1).length ≤ 4194304 := by rw [List.length_append]; omega
      have HA := Lib.hid hA
      have HLn := Lib.hid hL
      have HT := Lib.hid (takesSum_any B g sv ss W (k + 1) _ _ _ _ _ o _ (fun w' b => HV.out w' (hold.trans b)) hR hn hS hnl)
      clear hA hL hR hSt hx
      go_wp2_with fail
      refine HT.out.mono ?_
      rintro e w2 ⟨rfl, b2, vn3, vg3, vo3, h3⟩
      have B2 := Lib.hid (hold.trans b2)
      cases hz : nnE (sumEndS ss ((k + 1 : Nat) : Int)) with
      | none =>
        have HD : Hid (decide (0 ≤ sumEndS ss ((k + 1 : Nat) : Int)) = false) := Lib.hid (decide_eq_false (by have := nnE_none hz; omega))
        have HNO : Hid (∀ e D, ¬ One ss k0 e D) := Lib.hid (at_fail HA.out (fail_ask HX.out (fun k1 q => by unfold askE at q; rw [hz] at q; cases q)))
        rw [HD.out]
        clear hz h3 b2
        go_wp2_with fail
        simp only [jumps]
        go_ret
        exact .inl ⟨rfl, B2.out, HNO.out⟩
      | some k1 =>
        have HD : Hid (decide (0 ≤ sumEndS ss ((k + 1 : Nat) : Int)) = true) := Lib.hid (decide_eq_true (by have := nnE_some hz; omega))
        have hki := end_in hz
        rw [nnE_some hz] at h3
        have HY1 : Hid (sg7 ss k1 = wOpen → AtD ss k0 Todo (b :: o) (k1 + 1) (max dp (o.length + 1))) := Lib.hid (fun q => at_open HA.out (fun e D => by
          cases b
          · exact todo_loop (by simpa using HXB.out) hz q
          · exact todo_fork (by simpa using HXB.out) hz q))
        have HN1 : Hid (¬ sg7 ss k1 = wOpen → ∀ e D, ¬ One ss k0 e D) := Lib.hid (fun q => at_fail HA.out (fail_ask HX.out (fun k2 p => by unfold askE at p; rw [hz] at p; cases p; exact q)))
        obtain ⟨an, gn, HLo, hq⟩ : ∃ an gn, Hid (Lin ss k0 k1 an gn) ∧ Rd B g sv ss w2 (k1 : Int) vn3 vg3 vo3 (nm0 ++ an) (gt0 ++ gn.map Int.ofNat) o (max dp0 dp) := ⟨a1 ++ namesS ss ((k + 1 : Nat) : Int), gg ++ [], Lib.hid (HLn.out.snoc (.ask HX.out hz)), by simpa [List.append_assoc] using h3⟩
        rw [HD.out]
        clear hz h3 b2
        go_wp2_with fail
        go_step3
        have HT7 := Lib.hid (opens_any B g sv ss w2 (k1) _ _ _ _ _ o _ b hq hn (by omega))
        go_wp2_with fail
        refine HT7.out.mono ?_
        rintro e w7 ⟨rfl, b7, vn7, vg7, vo7, h7⟩
        have B7 := Lib.hid (B2.out.trans b7)
        by_cases hop : sg7 ss (k1) = wOpen
        · have hlo : k1 < ss.length := sg7_in (by rw [hop]; simp)
          rw [nx_in hlo, Nat.max_assoc] at h7
          have S1 : Hid (St7 B g sv ss w nm0 gt0 dp0 k0 (k1 + 1) (k1 + 1) (b :: o) (max dp (o.length + 1)) w7) := Lib.hid ⟨B7.out, by omega, by omega, by simp; omega, an, gn, _, _, _, (by have q := HLo.out.snoc (.other (.inr (.inl hop))); rwa [List.append_nil, List.append_nil] at q), h7⟩
          have HAT := Lib.hid (HY1.out hop)
          have m1 := Lib.hid S1.out.at_
          rw [decide_eq_true hop]
          clear hop h7 b7
          go_wp2_with fail
          go_step3
          refine ⟨⟨k1 + 1, b :: o, _, _, ⟨_, _, _, _, _, _, _, _, _, _, _, _, _, _, _, _, _, _, _, _, _, _, _, _, _, _, _, _, _, _, _, _, _, _, _, _, _, _, _, _, _, _, _, _, _, _, _, _, _, _, _, _, _, _, _, _, _, _, _, _, _, rfl⟩, HAT.out, S1.out⟩, ?_⟩
          show mu7 g ss.length 6 w7 < mu7 g ss.length 4 W
          unfold mu7
          first | rw [m1.out, m0] | rw [m0]
          simp <;> omega
        · have HNO := Lib.hid (HN1.out hop)
          rw [decide_eq_false hop]
          clear hop h7 b7
          go_wp2_with fail
          simp only [jumps]
          go_ret
          exact .inl ⟨rfl, B7.out, HNO.out⟩
    | 5, hJ =>
      refine ⟨_, rfl, ?_⟩
      obtain ⟨k, o, dp, s, ⟨u4, u5, u6, u7, u8, u9, u10, u11, u12, u13, u14, u15, u16, u17, u18, u19, u20, u21, u22, u23, u24, u25, u26, u27, u28, u29, u30, u31, u32, u33, u34, u35, u36, u37, u38, u39, u40, u41, u42, u43, u44, u45, u46, u47, u48, u49, u50, u51, u52, u53, u54, u55, u56, u57, u58, u59, u60, u61, u62, u63, u64, rfl⟩, hA, hx, hSt⟩ := hJ
      have HX := Lib.hid hx
      obtain ⟨a1, gg, vn1, vg1, vo1, hL, hal, hgl, hR⟩ := hSt.fresh
      have hold := hSt.old
      have hk := hSt.hk
      have ho := hSt.ho
      have m0 := hSt.at_
      have hlt : k < ss.length := sg7_in (by rw [HX.out]; simp)
      obtain ⟨an, gn, HLo, hq⟩ : ∃ an gn, Hid (Lin ss k0 (k + 1) an gn) ∧ Rd B g sv ss W ((k + 1 : Nat) : Int) vn1 vg1 vo1 (nm0 ++ an) (gt0 ++ gn.map Int.ofNat) o (max dp0 dp) := ⟨a1, gg, Lib.hid (by have q := hL.snoc (.other (.inr (.inr HX.out))); rwa [List.append_nil, List.append_nil] at q), hR⟩
      have HA := Lib.hid hA
      have HO := Lib.hid hold
      clear hA hL hSt hx hR hold
      cases o with
      | nil =>
        have HRO := hq.opens
        obtain ⟨A, c, e⟩ := row_shape HRO
        rw [show ((([] : List Bool).reverse.map Value.bool).length) = 0 from rfl] at e
        subst e
        have c4 := hq.c4
        have HNO := Lib.hid (at_fail HA.out (fail_shut HX.out))
        clear HRO hq
        go_wp2_with fail
        simp only [jumps]
        go_ret
        exact .inl ⟨rfl, HO.out, HNO.out⟩
      | cons b r =>
        have HRO := hq.opens
        obtain ⟨A, c, e⟩ := row_shape HRO
        rw [show (((b :: r).reverse.map Value.bool).length) = r.length + 1 by simp] at e
        subst e
        have c4 := hq.c4
        have hd5 : (((r.length : Int) + 1) == 0) = false := by simp; omega
        rw [List.length_cons] at ho
        have HT := Lib.hid (closes_any B g sv ss W _ _ _ _ _ _ r _ b hq (by omega))
        clear HRO hq
        go_wp2_with fail
        refine HT.out.mono ?_
        rintro e w1 ⟨rfl, b1, vn2, vg2, vo2, h2⟩
        have B1 := Lib.hid (HO.out.trans b1)
        clear b1
        cases b with
        | true =>
          have hdp := HA.out.1
          rw [List.length_cons] at hdp
          have HY1 : Hid (sg7 ss (k + 1) = wOpen → AtD ss k0 Todo (false :: r) (k + 1 + 1) (max dp (r.length + 1))) := Lib.hid (fun q => by rw [show max dp (r.length + 1) = dp by omega]; exact at_next HA.out HX.out q)
          have HN1 : Hid (¬ sg7 ss (k + 1) = wOpen → ∀ e D, ¬ One ss k0 e D) := Lib.hid (fun q => at_fail HA.out (fail_next HX.out q))
          have S1 : Hid (St7 B g sv ss w nm0 gt0 dp0 k0 (k + 1) (k + 1) r dp w1) := Lib.hid ⟨B1.out, by omega, by omega, by omega, an, gn, _, _, _, HLo.out, h2⟩
          have m1 := Lib.hid S1.out.at_
          clear h2 hdp
          go_wp2_with fail
          go_step3
          refine ⟨⟨k + 1, r, dp, false, ⟨_, _, _, _, _, _, _, _, _, _, _, _, _, _, _, _, _, _, _, _, _, _, _, _, _, _, _, _, _, _, _, _, _, _, _, _, _, _, _, _, _, _, _, _, _, _, _, _, _, _, _, _, _, _, _, _, _, _, _, _, _, rfl⟩, HY1.out, HN1.out, S1.out⟩, ?_⟩
          show mu7 g ss.length 7 w1 < mu7 g ss.length 5 W
          unfold mu7
          first | rw [m1.out, m0] | rw [m0]
          simp <;> omega
        | false =>
          have HAR := Lib.hid (at_shut HA.out HX.out)
          go_wp2_with fail
          go_step3
          cases r with
          | nil =>
            have HRO := h2.opens
            obtain ⟨A, c, e⟩ := row_shape HRO
            rw [show ((([] : List Bool).reverse.map Value.bool).length) = 0 from rfl] at e
            subst e
            have c4 := h2.c4
            have HR9 := Lib.hid h2
            clear HRO h2
            go_wp2_with fail
            simp only [jumps]
            go_ret
            exact .inr ⟨rfl, B1.out, k + 1, dp, an, gn, _, _, _, at_done HAR.out, HLo.out, HR9.out⟩
          | cons b9 r9 =>
            have HRO := h2.opens
            obtain ⟨A, c, e⟩ := row_shape HRO
            rw [show (((b9 :: r9).reverse.map Value.bool).length) = r9.length + 1 by simp] at e
            subst e
            have c4 := h2.c4
            have hd9 : (((r9.length : Int) + 1) == 0) = false := by simp; omega
            have S1 : Hid (St7 B g sv ss w nm0 gt0 dp0 k0 (k + 1) (k + 1) (b9 :: r9) dp w1) := Lib.hid ⟨B1.out, by omega, by omega, by simp at ho ⊢; omega, an, gn, _, _, _, HLo.out, h2⟩
            have m1 := Lib.hid S1.out.at_
            clear HRO h2
            go_wp2_with fail
            go_step3
            refine ⟨⟨k + 1, b9 :: r9, dp, _, ⟨_, _, _, _, _, _, _, _, _, _, _, _, _, _, _, _, _, _, _, _, _, _, _, _, _, _, _, _, _, _, _, _, _, _, _, _, _, _, _, _, _, _, _, _, _, _, _, _, _, _, _, _, _, _, _, _, _, _, _, _, _, rfl⟩, HAR.out, S1.out⟩, ?_⟩
            show mu7 g ss.length 6 w1 < mu7 g ss.length 5 W
            unfold mu7
            first | rw [m1.out, m0] | rw [m0]
            simp <;> omega
    | 6, hJ =>
      refine ⟨_, rfl, ?_⟩
      obtain ⟨k, o, dp, s, ⟨u4, u5, u6, u7, u8, u9, u10, u11, u12, u13, u14, u15, u16, u17, u18, u19, u20, u21, u22, u23, u24, u25, u26, u27, u28, u29, u30, u31, u32, u33, u34, u35, u36, u37, u38, u39, u40, u41, u42, u43, u44, u45, u46, u47, u48, u49, u50, u51, u52, u53, u54, u55, u56, u57, u58, u59, u60, u61, u62, u63, u64, rfl⟩, hA, hSt⟩ := hJ

      obtain ⟨a1, gg, vn1, vg1, vo1, hL, hal, hgl, hR⟩ := hSt.fresh
      have hold := hSt.old
      have hk := hSt.hk
      have ho := hSt.ho
      have m0 := hSt.at_
      have HA := Lib.hid hA
      have HLn := Lib.hid hL
      have HNX := Lib.hid (next_any B g sv ss W k vn1 vg1 vo1 _ _ o _ hR hn)
      obtain ⟨x, HX⟩ : ∃ x, Hid (sg7 ss k = x) := ⟨_, Lib.hid rfl⟩
      rw [HX.out] at HNX
      clear hA hL hR hSt
      go_wp2_with fail
      refine HNX.out.mono ?_
      rintro e w1 ⟨rfl, b1, vn2, vg2, vo2, h2⟩
      have B1 := Lib.hid (hold.trans b1)
      have H2 := Lib.hid h2
      clear b1 h2 hold
      rcases Classical.em (x = wSet) with q | n1
      · subst q
        have hlt : k < ss.length := sg7_in (by rw [HX.out]; simp)
        have E := nx_in hlt
        have S1 : Hid (St7 B g sv ss w nm0 gt0 dp0 k0 k (k + 1) o dp w1) := Lib.hid ⟨B1.out, by omega, by omega, by omega, a1, gg, _, _, _, HLn.out, by rw [← E]; exact H2.out⟩
        have m1 := Lib.hid S1.out.at_
        go_wp2_with fail
        go_step3
        refine ⟨⟨k, o, dp, _, ⟨_, _, _, _, _, _, _, _, _, _, _, _, _, _, _, _, _, _, _, _, _, _, _, _, _, _, _, _, _, _, _, _, _, _, _, _, _, _, _, _, _, _, _, _, _, _, _, _, _, _, _, _, _, _, _, _, _, _, _, _, _, rfl⟩, HA.out, HX.out, S1.out⟩, ?_⟩
        show mu7 g ss.length 0 w1 < mu7 g ss.length 6 W
        unfold mu7
        first | rw [m1.out, m0] | rw [m0]
        simp <;> omega
      rcases Classical.em (x = wIn) with q | n2
      · subst q
        have hlt : k < ss.length := sg7_in (by rw [HX.out]; simp)
        have E := nx_in hlt
        have S1 : Hid (St7 B g sv ss w nm0 gt0 dp0 k0 k (k + 1) o dp w1) := Lib.hid ⟨B1.out, by omega, by omega, by omega, a1, gg, _, _, _, HLn.out, by rw [← E]; exact H2.out⟩
        have m1 := Lib.hid S1.out.at_
        go_wp2_with fail
        go_step3
        refine ⟨⟨k, o, dp, _, ⟨_, _, _, _, _, _, _, _, _, _, _, _, _, _, _, _, _, _, _, _, _, _, _, _, _, _, _, _, _, _, _, _, _, _, _, _, _, _, _, _, _, _, _, _, _, _, _, _, _, _, _, _, _, _, _, _, _, _, _, _, _, rfl⟩, HA.out, HX.out, S1.out⟩, ?_⟩
        show mu7 g ss.length 1 w1 < mu7 g ss.length 6 W
        unfold mu7
        first | rw [m1.out, m0] | rw [m0]
        simp <;> omega
      rcases Classical.em (x = wOut) with q | n3
      · subst q
        have hlt : k < ss.length := sg7_in (by rw [HX.out]; simp)
        have E := nx_in hlt
        have S1 : Hid (St7 B g sv ss w nm0 gt0 dp0 k0 k (k + 1) o dp w1) := Lib.hid ⟨B1.out, by omega, by omega, by omega, a1, gg, _, _, _, HLn.out, by rw [← E]; exact H2.out⟩
        have m1 := Lib.hid S1.out.at_
        go_wp2_with fail
        go_step3
        refine ⟨⟨k, o, dp, _, ⟨_, _, _, _, _, _, _, _, _, _, _, _, _, _, _, _, _, _, _, _, _, _, _, _, _, _, _, _, _, _, _, _, _, _, _, _, _, _, _, _, _, _, _, _, _, _, _, _, _, _, _, _, _, _, _, _, _, _, _, _, _, rfl⟩, HA.out, HX.out, S1.out⟩, ?_⟩
        show mu7 g ss.length 2 w1 < mu7 g ss.length 6 W
        unfold mu7
        first | rw [m1.out, m0] | rw [m0]
        simp <;> omega
      rcases Classical.em (x = wStop) with q | n4
      · subst q
        have hlt : k < ss.length := sg7_in (by rw [HX.out]; simp)
        have E := nx_in hlt
        have S1 : Hid (St7 B g sv ss w nm0 gt0 dp0 k0 (k + 1) (k + 1) o dp w1) := Lib.hid ⟨B1.out, by omega, by omega, by omega, a1, gg, _, _, _, (by have q := HLn.out.snoc (.other (.inl HX.out)); rwa [List.append_nil, List.append_nil] at q), by rw [← E]; exact H2.out⟩
        have m1 := Lib.hid S1.out.at_
        go_wp2_with fail
        go_step3
        refine ⟨⟨k + 1, o, dp, _, ⟨_, _, _, _, _, _, _, _, _, _, _, _, _, _, _, _, _, _, _, _, _, _, _, _, _, _, _, _, _, _, _, _, _, _, _, _, _, _, _, _, _, _, _, _, _, _, _, _, _, _, _, _, _, _, _, _, _, _, _, _, _, rfl⟩, at_flat HA.out (flat_stop HX.out), S1.out⟩, ?_⟩
        show mu7 g ss.length 3 w1 < mu7 g ss.length 6 W
        unfold mu7
        first | rw [m1.out, m0] | rw [m0]
        simp <;> omega
      rcases Classical.em (x = wIf) with q | n5
      · subst q
        have hlt : k < ss.length := sg7_in (by rw [HX.out]; simp)
        have E := nx_in hlt
        have S1 : Hid (St7 B g sv ss w nm0 gt0 dp0 k0 k (k + 1) o dp w1) := Lib.hid ⟨B1.out, by omega, by omega, by omega, a1, gg, _, _, _, HLn.out, by rw [← E]; exact H2.out⟩
        have m1 := Lib.hid S1.out.at_
        go_wp2_with fail
        go_step3
        refine ⟨⟨k, o, dp, true, ⟨_, _, _, _, _, _, _, _, _, _, _, _, _, _, _, _, _, _, _, _, _, _, _, _, _, _, _, _, _, _, _, _, _, _, _, _, _, _, _, _, _, _, _, _, _, _, _, _, _, _, _, _, _, _, _, _, _, _, _, _, _, rfl⟩, HA.out, (by rw [if_pos rfl]; exact HX.out), S1.out⟩, ?_⟩
        show mu7 g ss.length 4 w1 < mu7 g ss.length 6 W
        unfold mu7
        first | rw [m1.out, m0] | rw [m0]
        simp <;> omega
      rcases Classical.em (x = wWhile) with q | n6
      · subst q
        have hlt : k < ss.length := sg7_in (by rw [HX.out]; simp)
        have E := nx_in hlt
        have S1 : Hid (St7 B g sv ss w nm0 gt0 dp0 k0 k (k + 1) o dp w1) := Lib.hid ⟨B1.out, by omega, by omega, by omega, a1, gg, _, _, _, HLn.out, by rw [← E]; exact H2.out⟩
        have m1 := Lib.hid S1.out.at_
        go_wp2_with fail
        go_step3
        refine ⟨⟨k, o, dp, false, ⟨_, _, _, _, _, _, _, _, _, _, _, _, _, _, _, _, _, _, _, _, _, _, _, _, _, _, _, _, _, _, _, _, _, _, _, _, _, _, _, _, _, _, _, _, _, _, _, _, _, _, _, _, _, _, _, _, _, _, _, _, _, rfl⟩, HA.out, (by rw [if_neg (by simp)]; exact HX.out), S1.out⟩, ?_⟩
        show mu7 g ss.length 4 w1 < mu7 g ss.length 6 W
        unfold mu7
        first | rw [m1.out, m0] | rw [m0]
        simp <;> omega
      rcases Classical.em (x = wShut) with q | n7
      · subst q
        have hlt : k < ss.length := sg7_in (by rw [HX.out]; simp)
        have E := nx_in hlt
        have S1 : Hid (St7 B g sv ss w nm0 gt0 dp0 k0 k (k + 1) o dp w1) := Lib.hid ⟨B1.out, by omega, by omega, by omega, a1, gg, _, _, _, HLn.out, by rw [← E]; exact H2.out⟩
        have m1 := Lib.hid S1.out.at_
        go_wp2_with fail
        go_step3
        refine ⟨⟨k, o, dp, _, ⟨_, _, _, _, _, _, _, _, _, _, _, _, _, _, _, _, _, _, _, _, _, _, _, _, _, _, _, _, _, _, _, _, _, _, _, _, _, _, _, _, _, _, _, _, _, _, _, _, _, _, _, _, _, _, _, _, _, _, _, _, _, rfl⟩, HA.out, HX.out, S1.out⟩, ?_⟩
        show mu7 g ss.length 5 w1 < mu7 g ss.length 6 W
        unfold mu7
        first | rw [m1.out, m0] | rw [m0]
        simp <;> omega
      have HNO : Hid (∀ e D, ¬ One ss k0 e D) := Lib.hid (no_flat HA.out HX.out n5 n6 n7 (flat_other (by rw [HX.out]; exact n1) (by rw [HX.out]; exact n2) (by rw [HX.out]; exact n3) (by rw [HX.out]; exact n4)))
      have e1 : (x == [115, 101, 116]) = false := by simpa using n1
      have e2 : (x == [105, 110]) = false := by simpa using n2
      have e3 : (x == [111, 117, 116]) = false := by simpa using n3
      have e4 : (x == [115, 116, 111, 112]) = false := by simpa using n4
      have e5 : (x == [105, 102]) = false := by simpa using n5
      have e6 : (x == [119, 104, 105, 108, 101]) = false := by simpa using n6
      have e7 : (x == [93]) = false := by simpa using n7
      clear n1 n2 n3 n4 n5 n6 n7
      go_wp2_with fail
      simp only [jumps]
      go_ret
      exact .inl ⟨rfl, B1.out, HNO.out⟩
    | 7, hJ =>
      refine ⟨_, rfl, ?_⟩
      obtain ⟨k, o, dp, b, ⟨u4, u5, u6, u7, u8, u9, u10, u11, u12, u13, u14, u15, u16, u17, u18, u19, u20, u21, u22, u23, u24, u25, u26, u27, u28, u29, u30, u31, u32, u33, u34, u35, u36, u37, u38, u39, u40, u41, u42, u43, u44, u45, u46, u47, u48, u49, u50, u51, u52, u53, u54, u55, u56, u57, u58, u59, u60, u61, u62, u63, u64, rfl⟩, hY1, hN1, hSt⟩ := hJ
      obtain ⟨an, gn, vn1, vg1, vo1, hL, hal, hgl, hR⟩ := hSt.fresh
      have hold := hSt.old
      have hk := hSt.hk
      have ho := hSt.ho
      have m0 := hSt.at_
      have HY1 := Lib.hid hY1
      have HN1 := Lib.hid hN1
      have HLo := Lib.hid hL
      clear hY1 hN1 hL hSt
      have HT7 := Lib.hid (opens_any B g sv ss W (k) _ _ _ _ _ o _ b hR hn (by omega))
      go_wp2_with fail
      refine HT7.out.mono ?_
      rintro e w7 ⟨rfl, b7, vn7, vg7, vo7, h7⟩
      have B7 := Lib.hid (hold.trans b7)
      by_cases hop : sg7 ss (k) = wOpen
      · have hlo : k < ss.length := sg7_in (by rw [hop]; simp)
        rw [nx_in hlo, Nat.max_assoc] at h7
        have S1 : Hid (St7 B g sv ss w nm0 gt0 dp0 k0 (k + 1) (k + 1) (b :: o) (max dp (o.length + 1)) w7) := Lib.hid ⟨B7.out, by omega, by omega, by simp; omega, an, gn, _, _, _, (by have q := HLo.out.snoc (.other (.inr (.inl hop))); rwa [List.append_nil, List.append_nil] at q), h7⟩
        have HAT := Lib.hid (HY1.out hop)
        have m1 := Lib.hid S1.out.at_
        rw [decide_eq_true hop]
        clear hop h7 b7
        go_wp2_with fail
        go_step3
        refine ⟨⟨k + 1, b :: o, _, _, ⟨_, _, _, _, _, _, _, _, _, _, _, _, _, _, _, _, _, _, _, _, _, _, _, _, _, _, _, _, _, _, _, _, _, _, _, _, _, _, _, _, _, _, _, _, _, _, _, _, _, _, _, _, _, _, _, _, _, _, _, _, _, rfl⟩, HAT.out, S1.out⟩, ?_⟩
        show mu7 g ss.length 6 w7 < mu7 g ss.length 7 W
        unfold mu7
        first | rw [m1.out, m0] | rw [m0]
        simp <;> omega
      · have HNO := Lib.hid (HN1.out hop)
        rw [decide_eq_false hop]
        clear hop h7 b7
        go_wp2_with fail
        simp only [jumps]
        go_ret
        exact .inl ⟨rfl, B7.out, HNO.out⟩
    | n + 8, hJ => exact hJ.elim

end Go.Proofs.YtjcmfdgphhonhaaGreatDoor
