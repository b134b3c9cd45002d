/- Layer 7 (plays): ShowPlay, of the model and of the program; the walk of FnExactShowPlay. Condition: the listed variables hold what the program's text lays (Vars). -/
import Derived.Test.YtblnonlcjfcblaaGreatDoorDeedD
import Derived.Test.YtblnonlcjfcblaaGreatDoorTxtL
import Derived.Test.YtblnonlcjfcblaaGreatDoorWordsA
namespace Go.Proofs.YtblnonlcjfcblaaGreatDoor
open Go.RowKit
set_option linter.unusedVariables false

def StrLt (w : World) (t : Txt) (e : Ending) (w' : World) : Prop := e = .returned (str t) ∧ Below w.heap.size w w'
noncomputable def showP (ss : List Txt) : Txt := if playB ss = true then Lib.join ss [32] else []
theorem tail_len (M : Nat) : ∀ r : List Txt, (∀ s ∈ r, s.length ≤ M) → (Lib.joinTail [32] r).length ≤ r.length * (M + 1)
  | [], _ => by simp [Lib.joinTail]
  | x :: r, h => by
    have h1 := tail_len M r (fun s hs => h s (List.mem_cons_of_mem _ hs))
    have h2 := h x (by simp)
    have e : Lib.joinTail [32] (x :: r) = [32] ++ x ++ Lib.joinTail [32] r := by simp [Lib.joinTail]
    have e3 : (x :: r).length * (M + 1) = r.length * (M + 1) + (M + 1) := by rw [List.length_cons, Nat.add_mul, Nat.one_mul]
    have e4 : ([32] : List UInt8).length = 1 := rfl
    rw [e, List.length_append, List.length_append, e3, e4]
    omega
theorem join_len {ss : List Txt} (h : ∀ s ∈ ss, s.length ≤ 1048576) (hl : ss.length ≤ 100) : (Lib.join ss [32]).length ≤ 200000000 := by
  match ss, h, hl with
  | [], _, _ => simp [Lib.join]
  | x :: r, h, hl =>
    rw [Lib.join_cons, List.length_append]
    have h1 := tail_len 1048576 r (fun s hs => h s (List.mem_cons_of_mem _ hs))
    have h2 := h x (by simp)
    rw [List.length_cons] at hl
    have h3 : r.length * (1048576 + 1) ≤ 99 * (1048576 + 1) := Nat.mul_le_mul_right _ (by omega)
    omega

set_option maxHeartbeats 1000000 in
theorem sShowPlay_any (B : Nat) (v : Value) (ss : List Txt) (w : World) (h : SeeV w B v (ss.map str)) (hB : B ≤ w.heap.size) (hS : shortS ss) (hn : ss.length ≤ 1048576) :
    Calls Tryz.prog 16 #[v] w (StrLt w (showP ss)) := by
  have HC := Lib.hid (sPlayOk_any B v ss w h hB hS hn)
  unfold showP
  cases hp : playB ss with
  | false =>
    rw [hp] at HC
    rw [if_neg (by simp)]
    obtain ⟨A, c, e⟩ := strs_shape h
    subst e
    clear h hp
    go_enter Tryz.func16, Tryz.ntmps16
    go_wp2_with fail
    refine HC.out.mono ?_
    rintro e w1 ⟨rfl, b1⟩
    go_wp2_with fail
    go_ret
    exact ⟨rfl, b1⟩
  | true =>
    have hj := join_len hS (play_open hp).1
    rw [hp] at HC
    rw [if_pos rfl]
    have HA := Lib.hid (fun w1 (b1 : Below w.heap.size w w1) => l1Words_any B v ss [32] w1 (h.below (b1.mono hB)) (by omega))
    obtain ⟨A, c, e⟩ := strs_shape h
    subst e
    clear h hp
    generalize Lib.join ss [32] = t at HA hj ⊢
    go_enter Tryz.func16, Tryz.ntmps16
    go_wp2_with fail
    refine HC.out.mono ?_
    rintro e w1 ⟨rfl, b1⟩
    go_wp2_with fail
    refine (HA.out w1 b1).mono ?_
    rintro e w2 ⟨rfl, rfl⟩
    go_wp2_with fail
    go_ret
    exact ⟨rfl, b1⟩

theorem join_any (B : Nat) (v : Value) (ss : List Txt) (w : World) (h : SeeV w B v (ss.map str)) (hB : B ≤ w.heap.size) (hn : ss.length ≤ 1048576) (hj : (Lib.join ss [32]).length ≤ 140737488355328) :
    Calls Tryz.prog 55 #[v, str [32]] w (StrLt w (Lib.join ss [32])) := by
  obtain ⟨A, c, e⟩ := strs_shape h
  subst e
  match ss, h, hn, hj with
  | [], h, _, _ => exact (Tryz.strings_Join_none A c ⟨#[32]⟩ w).mono fun e w' ⟨he, hw⟩ => ⟨he, by rw [hw]; exact Below.refl _ _⟩
  | x :: r, h, hn, hj =>
    obtain ⟨_, A', c', e', hc, hcell⟩ := h
    injection e' with e1 e2 e3
    subst e1 e3
    obtain ⟨g, o, e0, hg, _⟩ := hcell 0 (str x) rfl
    subst e0
    have hl : ((x :: r).map fun l => (⟨l.toArray⟩ : ByteArray)).length = (x :: r).length := by rw [List.length_map]
    have hm : ((x :: r).map fun l => (⟨l.toArray⟩ : ByteArray)).map (·.data.toList) = x :: r := by
      rw [List.map_map]
      exact List.map_id'' (fun _ => rfl) _
    have q := Tryz.strings_Join g o c ((x :: r).map fun l => (⟨l.toArray⟩ : ByteArray)) ⟨#[32]⟩ w (fun j y hy => by
      rw [List.getElem?_map] at hy
      cases hq : (x :: r)[j]? with
      | none => rw [hq] at hy; cases hy
      | some l =>
        rw [hq] at hy
        injection hy with hy
        subst hy
        obtain ⟨g', o', he, -, hc'⟩ := hcell j (str l) (by rw [List.getElem?_map, hq]; rfl)
        injection he with he
        injection he with e1 e2
        subst e1 e2
        exact hc') (by omega) (by rw [hl]; omega) (by rw [hl]; rw [List.length_map] at hc; exact hc) (by rw [hm]; exact hj)
    rw [hm, hl] at q
    exact q

set_option maxHeartbeats 1000000 in
theorem iShowPlay_any (B : Nat) (v : Value) (ss : List Txt) (w : World) (V : Vars w) (h : SeeV w B v (ss.map str)) (hB : B ≤ w.heap.size) (hS : shortS ss) (hn : ss.length ≤ 1048576) :
    Calls Tryz.prog 17 #[v] w (StrLt w (showP ss)) := by
  have HC := Lib.hid (iPlayOk_any B v ss w V h hB hS hn)
  unfold showP
  clear V
  cases hp : playB ss with
  | false =>
    rw [hp] at HC
    rw [if_neg (by simp)]
    obtain ⟨A, c, e⟩ := strs_shape h
    subst e
    clear h hp
    go_enter Tryz.func17, Tryz.ntmps17
    go_wp2_with fail
    refine HC.out.mono ?_
    rintro e w1 ⟨rfl, b1⟩
    go_wp2_with fail
    go_ret
    exact ⟨rfl, b1⟩
  | true =>
    have hj := join_len hS (play_open hp).1
    rw [hp] at HC
    rw [if_pos rfl]
    have HA := Lib.hid (fun w1 (b1 : Below w.heap.size w w1) => join_any B v ss w1 (h.below (b1.mono hB)) (Nat.le_trans hB b1.size) hn (by omega))
    obtain ⟨A, c, e⟩ := strs_shape h
    subst e
    clear h hp
    generalize Lib.join ss [32] = t at HA hj ⊢
    go_enter Tryz.func17, Tryz.ntmps17
    go_wp2_with fail
    refine HC.out.mono ?_
    rintro e w1 ⟨rfl, b1⟩
    go_wp2_with fail
    refine (HA.out w1 b1).mono ?_
    rintro e w2 ⟨rfl, b2⟩
    go_wp2_with fail
    go_ret
    exact ⟨rfl, below_then b1 b2 (Nat.le_refl _)⟩

set_option maxHeartbeats 2000000 in
theorem showPlay_law (v : Value) (ss : List (List UInt8)) (w : World) (V : Vars w) (s : SeeV w w.heap.size v (ss.map str)) (hF : fitS ss) :
    Calls Tryz.prog 4 #[v] w fun e w' => e = .returned (.bool true) ∧ Below w.heap.size w w' := by
  obtain ⟨A, c, e⟩ := strs_shape s
  subst e
  rcases (show szL 1048576 (txLens ss) < 0 ∨ 0 ≤ szL 1048576 (txLens ss) by omega) with hz | hz
  · go_enter Tryz.func4, Tryz.ntmps4
    go_wp2_with fail
    refine (szStrs_any _ _ ss 1048576 (by omega) (by omega) _ s hF).mono ?_
    rintro e w1 ⟨rfl, rfl⟩
    generalize szL 1048576 (txLens ss) = z at hz ⊢
    go_wp2_with fail
    go_ret
    exact ⟨rfl, Below.refl _ _⟩
  · obtain ⟨hlen, hS, -⟩ := sz_strs hz (by omega) (by omega)
    have HV := Lib.hid V
    clear V
    have HSN := Lib.hid (fun B v W h1 h2 => sShowPlay_any B v ss W h1 h2 hS hlen)
    have HIN := Lib.hid (fun B v W V h1 h2 => iShowPlay_any B v ss W V h1 h2 hS hlen)
    unfold StrLt at HSN HIN
    generalize showP ss = t at HSN HIN
    have hne : (!(t == t)) = false := by simp
    go_enter Tryz.func4, Tryz.ntmps4
    go_wp2_with fail
    refine (szStrs_any _ _ ss 1048576 (by omega) (by omega) _ s hF).mono ?_
    rintro e w1 ⟨rfl, rfl⟩
    generalize szL 1048576 (txLens ss) = z at hz ⊢
    go_wp2_with fail
    refine (toStrs_any _ _ ss hlen _ s (Nat.le_refl _)).mono ?_
    rintro e w2 ⟨v2, rfl, o2, b2⟩
    obtain ⟨A2, c2, e2⟩ := strs_shape o2.see
    subst e2
    have s2 := s.below b2
    go_wp2_with fail
    refine (HSN.out _ _ _ o2.see (Nat.le_refl _)).mono ?_
    rintro e w3 ⟨rfl, b3⟩
    replace b3 := below_then b2 b3 (Nat.le_refl _)
    have s3 := s.below b3
    clear b2 s2 o2
    go_wp2_with fail
    refine (toStrs_any _ _ ss hlen _ s3 b3.size).mono ?_
    rintro e w4 ⟨v4, rfl, o4, b4⟩
    obtain ⟨A4, c4, e4⟩ := strs_shape o4.see
    subst e4
    replace b4 := below_then b3 b4 (Nat.le_refl _)
    have s4 := s.below b4
    clear b3 s3
    go_wp2_with fail
    refine (HIN.out _ _ _ (HV.out.below b4) o4.see (Nat.le_refl _)).mono ?_
    rintro e w5 ⟨rfl, b5⟩
    have o5 := o4.later b5
    replace b5 := below_then b4 b5 (Nat.le_refl _)
    have s5 := s.below b5
    clear b4 s4 o4
    go_wp2_with fail
    refine (toStrs_any _ _ ss hlen _ s5 b5.size).mono ?_
    rintro e w6 ⟨v6, rfl, o6, b6⟩
    have o7 := o5.later b6
    obtain ⟨A6, c6, e6⟩ := strs_shape o6.see
    subst e6
    replace b6 := below_then b5 b6 (Nat.le_refl _)
    clear b5 s5 o5
    go_wp2_with fail
    refine (eqStrs_any _ _ _ ss ss _ o7.see o6.see).mono ?_
    rintro e w7 ⟨rfl, n7, rfl⟩
    rw [eqT_same]
    go_wp2_with fail
    go_ret
    exact ⟨rfl, below_drewN b6 _⟩

end Go.Proofs.YtblnonlcjfcblaaGreatDoor
