/- Layer 7 (plays): ShowPlay, of the model and of the program; the walk of FnExactShowPlay. Condition: the listed variables hold what the program's text lays (Vars). -/
import Derived.Test.YtbpgleebfiiggaaGreatDoorRdrQ
import Derived.Test.YtbpgleebfiiggaaGreatDoorLowT
import Derived.Test.YtbpgleebfiiggaaGreatDoorWordsA
namespace Go.Proofs.YtbpgleebfiiggaaGreatDoor
open Go.RowKit
set_option linter.unusedVariables false

def StrLt (w : World) (t : Txt) (e : Ending) (w' : World) : Prop := e = .returned (str t) ∧ Below w.heap.size w w'
noncomputable def showP (ss : List Txt) : Txt := if playB ss = true then Lib.join ss [32] else []
theorem tail_len (M : Nat) : ∀ r : List Txt, (∀ s ∈ r, s.length ≤ M) → (Lib.joinTail [32] r).length ≤ r.length * (M + 1)
  | [], _ => by simp [Lib.joinTail]
  | x :: r, h => by
    have h1 := tail_len M r (fun s hs => h s (List.mem_cons_of_mem _ hs))
    have h2 := h x (by simp)
    have e : Lib.joinTail [32] (x :: r) = [32] ++ x ++ Lib.joinTail [32] r := by simp [Lib.joinTail]
    have e3 : (x :: r).length * (M + 1) = r.length * (M + 1) + (M + 1) := by rw [List.length_cons, Nat.add_mul, Nat.one_mul]
    have e4 : ([32] : List UInt8).length = 1 := rfl
    rw [e, List.length_append, List.length_append, e3, e4]
    omega
theorem join_len {ss : List Txt} (h : ∀ s ∈ ss, s.length ≤ 1048576) (hl : ss.length ≤ 100) : (Lib.join ss [32]).length ≤ 200000000 := by
  match ss, h, hl with
  | [], _, _ => simp [Lib.join]
  | x :: r, h, hl =>
    rw [Lib.join_cons, List.length_append]
    have h1 := tail_len 1048576 r (fun s hs => h s (List.mem_cons_of_mem _ hs))
    have h2 := h x (by simp)
    rw [List.length_cons] at hl
    have h3 : r.length * (1048576 + 1) ≤ 99 * (1048576 + 1) := Nat.mul_le_mul_right _ (by omega)
    omega

set_option maxHeartbeats 1000000 in
theorem sShowPlay_any (B : Nat) (v : Value) (ss : List Txt) (w : World) (h : SeeV w B v (ss.map str)) (hB : B ≤ w.heap.size) (hS : shortS ss) (hn : ss.length ≤ 1048576) :
    Calls Tryz.prog 14 #[v] w (StrLt w (showP ss)) := by
  have HC := Lib.hid (sPlayOk_any B v ss w h hB hS hn)
  unfold showP
  cases hp : playB ss with
  | false =>
    rw [hp] at HC
    rw [if_neg (by simp)]
    obtain ⟨A, c, e⟩ := strs_shape h
    subst e
    clear h hp
    go_enter Tryz.func14, Tryz.ntmps14
    go_wp2_with fail
    refine HC.out.mono ?_
    rintro e w1 ⟨rfl, b1⟩
    go_wp2_with fail
    go_ret
    exact ⟨rfl, b1⟩
  | true =>
    have hj := join_len hS (play_open hp).1
    rw [hp] at HC
    rw [if_pos rfl]
    have HA := Lib.hid (fun w1 (b1 : Below w.heap.size w w1) => l1Words_any B v ss [32] w1 (h.below (b1.mono hB)) (by omega))
    obtain ⟨A, c, e⟩ := strs_shape h
    subst e
    clear h hp
    generalize Lib.join ss [32] = t at HA hj ⊢
    go_enter Tryz.func14, Tryz.ntmps14
    go_wp2_with fail
    refine HC.out.mono ?_
    rintro e w1 ⟨rfl, b1⟩
    go_wp2_with fail
    refine (HA.out w1 b1).mono ?_
    rintro e w2 ⟨rfl, rfl⟩
    go_wp2_with fail
    go_ret
    exact ⟨rfl, b1⟩

theorem join_any (B : Nat) (v : Value) (ss : List Txt) (w : World) (h : SeeV w B v (ss.map str)) (hB : B ≤ w.heap.size) (hn : ss.length ≤ 1048576) (hj : (Lib.join ss [32]).length ≤ 140737488355328) :
    Calls Tryz.prog 46 #[v, str [32]] w (StrLt w (Lib.join ss [32])) := by
  obtain ⟨A, c, e⟩ := strs_shape h
  subst e
  match ss, h, hn, hj with
  | [], h, _, _ => exact (Tryz.strings_Join_none A c ⟨#[32]⟩ w).mono fun e w' ⟨he, hw⟩ => ⟨he, by rw [hw]; exact Below.refl _ _⟩
  | x :: r, h, hn, hj =>
    obtain ⟨_, A', c', e', hc, hcell⟩ := h
    injection e' with e1 e2 e3
    subst e1 e3
    obtain ⟨g, o, e0, hg, _⟩ := hcell 0 (str x) rfl
    subst e0
    have hl : ((x :: r).map fun l => (⟨l.toArray⟩ : ByteArray)).length = (x :: r).length := by rw [List.length_map]
    have hm : ((x :: r).map fun l => (⟨l.toArray⟩ : ByteArray)).map (·.data.toList) = x :: r := by
      rw [List.map_map]
      exact List.map_id'' (fun _ => rfl) _
    have q := Tryz.strings_Join g o c ((x :: r).map fun l => (⟨l.toArray⟩ : ByteArray)) ⟨#[32]⟩ w (fun j y hy => by
      rw [List.getElem?_map] at hy
      cases hq : (x :: r)[j]? with
      | none => rw [hq] at hy; cases hy
      | some l =>
        rw [hq] at hy
        injection hy with hy
        subst hy
        obtain ⟨g', o', he, -, hc'⟩ := hcell j (str l) (by rw [List.getElem?_map, hq]; rfl)
        injection he with he
        injection he with e1 e2
        subst e1 e2
        exact hc') (by omega) (by rw [hl]; omega) (by rw [hl]; rw [List.length_map] at hc; exact hc) (by rw [hm]; exact hj)
    rw [hm, hl] at q
    exact q

set_option maxHeartbeats 1000000 in
theorem iShowPlay_any (B : Nat) (v : Value) (ss : List Txt) (w : World) (V : Vars w) (h : SeeV w B v (ss.map str)) (hB : B ≤ w.heap.size) (hS : shortS ss) (hn : ss.length ≤ 1048576) :
    Calls Tryz.prog 9 #[v] w (StrLt w (showP ss)) := by
  have HC := Lib.hid (iPlayOk_any B v ss w V h hB hS hn)
  unfold showP
  clear V
  cases hp : playB ss with
  | false =>
    rw [hp] at HC
    rw [if_neg (by simp)]
    obtain ⟨A, c, e⟩ := strs_shape h
    subst e
    clear h hp
    go_enter Tryz.func9, Tryz.ntmps9
    go_wp2_with fail
    refine HC.out.mono ?_
    rintro e w1 ⟨rfl, b1⟩
    go_wp2_with fail
    go_ret
    exact ⟨rfl, b1⟩
  | true =>
    have hj := join_len hS (play_open hp).1
    rw [hp] at HC
    rw [if_pos rfl]
    have HA := Lib.hid (fun w1 (b1 : Below w.heap.size w w1) => join_any B v ss w1 (h.below (b1.mono hB)) (Nat.le_trans hB b1.size) hn (by omega))
    obtain ⟨A, c, e⟩ := strs_shape h
    subst e
    clear h hp
    generalize Lib.join ss [32] = t at HA hj ⊢
    go_enter Tryz.func9, Tryz.ntmps9
    go_wp2_with fail
    refine HC.out.mono ?_
    rintro e w1 ⟨rfl, b1⟩
    go_wp2_with fail
    refine (HA.out w1 b1).mono ?_
    rintro e w2 ⟨rfl, b2⟩
    go_wp2_with fail
    go_ret
    exact ⟨rfl, below_then b1 b2 (Nat.le_refl _)⟩

end Go.Proofs.YtbpgleebfiiggaaGreatDoor
