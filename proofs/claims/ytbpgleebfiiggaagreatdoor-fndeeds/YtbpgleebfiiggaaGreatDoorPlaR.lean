/- Layer 7 (plays): a play's text, read, gives the play; what is read, shown, is the text; the draws of DrawReadPlay. No conditions but those typed. -/
import Derived.Test.YtbpgleebfiiggaaGreatDoorPlaQ
import Derived.Test.YtbpgleebfiiggaaGreatDoorPlayR
import Derived.Test.YtbpgleebfiiggaaGreatDoorPlayS
import Derived.Test.YtbpgleebfiiggaaGreatDoorDrwJ
import Derived.Test.YtbpgleebfiiggaaGreatDoorBendB
namespace Go.Proofs.YtbpgleebfiiggaaGreatDoor
open Go.RowKit
set_option linter.unusedVariables false

theorem pj_tail (sep x : List UInt8) (r : List (List UInt8)) : Lib.joinTail sep (x :: r) = sep ++ x ++ Lib.joinTail sep r := by simp [Lib.joinTail]
theorem pj_app {b : UInt8} {y h : List UInt8} {t : List (List UInt8)} (hy : cutT b y = h :: t) : ∀ x : List UInt8, b ∉ x → cutT b (x ++ y) = (x ++ h) :: t
  | [], _ => hy
  | c :: x, hx => by
    rw [List.mem_cons, not_or] at hx
    exact cutT_miss (fun e => hx.1 e.symm) (pj_app hy x hx.2)
theorem pj_cut {b : UInt8} : ∀ (r : List (List UInt8)) (x : List UInt8), (∀ y ∈ x :: r, b ∉ y) → cutT b (Lib.join (x :: r) [b]) = x :: r
  | [], x, h => by
    rw [Lib.join_one]
    have := pj_app (b := b) (y := []) (h := []) (t := []) rfl x (h x (List.mem_cons_self ..))
    simpa using this
  | z :: r, x, h => by
    rw [Lib.join_cons, pj_tail]
    have ih := pj_cut r z (fun y hy => h y (List.mem_cons_of_mem _ hy))
    rw [Lib.join_cons] at ih
    have := pj_app (b := b) (y := b :: (z ++ Lib.joinTail [b] r)) (h := []) (t := z :: r) (by rw [cutT_hit, ih]) x (h x (List.mem_cons_self ..))
    simpa using this
theorem pj_join (b : UInt8) (t : List UInt8) : Lib.join (cutT b t) [b] = t := by
  induction t with
  | nil => rfl
  | cons c l ih =>
    obtain ⟨x, r, e⟩ := cutT_ne b l
    rw [e, Lib.join_cons] at ih
    by_cases h : c = b
    · subst h
      rw [cutT_hit, e, Lib.join_cons, pj_tail, ← ih]
      simp
    · rw [cutT_miss h e, Lib.join_cons, List.cons_append, ih]
theorem head_nn {x : Txt} (h : headB x = true) : x ≠ [] := fun e => by rw [e] at h; revert h; decide
theorem read_show7 {t : Txt} {zs : List Txt} (h : readP t = some zs) : showP zs = t := by
  unfold readP at h
  by_cases ht : t = []
  · rw [if_pos ht] at h
    injection h with h
    subst h ht
    unfold showP
    split <;> rfl
  · rw [if_neg ht] at h
    by_cases hp : playB (cutT 32 t) = true
    · rw [if_pos hp] at h
      injection h with h
      subst h
      unfold showP
      rw [if_pos hp]
      exact pj_join 32 t
    · rw [if_neg hp] at h
      cases h
theorem show_read7 {ss : List Txt} (h : playB ss = true) : readP (showP ss) = some ss := by
  unfold showP
  rw [if_pos h]
  match ss, h with
  | [], _ => rfl
  | x :: r, h =>
    have hb := play_noB h
    obtain ⟨h1, D, a, g, h2, _⟩ := play_open h
    have hx : x ≠ [] := by
      rcases h2.inv with ⟨q, _⟩ | ⟨k1, D1, D2, ho, _⟩
      · simp at q
      · have := head_nn ho.head
        rwa [sg7_some (ss := x :: r) (k := 0) (x := x) rfl] at this
    have hc := pj_cut r x hb
    have hne : ¬ Lib.join (x :: r) [32] = [] := by
      rw [Lib.join_cons]
      intro q
      exact hx (List.append_eq_nil_iff.1 q).1
    unfold readP
    rw [if_neg hne, hc, if_pos h]
theorem join_up {ss : List Txt} (h : upTo 30 ss) (hl : ss.length ≤ 101) : (Lib.join ss [32]).length ≤ 4000 := by
  match ss, h, hl with
  | [], _, _ => simp [Lib.join]
  | x :: r, h, hl =>
    rw [Lib.join_cons, List.length_append]
    have h1 := tail_len 30 r (fun s hs => h s (List.mem_cons_of_mem _ hs))
    have h2 := h x (by simp)
    rw [List.length_cons] at hl
    have h3 : r.length * (30 + 1) ≤ 100 * (30 + 1) := Nat.mul_le_mul_right _ (by omega)
    omega
theorem show_up {ss : List Txt} (h : upTo 30 ss) (hl : ss.length ≤ 101) : (showP ss).length ≤ 4000 := by
  unfold showP
  split
  · exact join_up h hl
  · simp
theorem upTo_short {ss : List Txt} (h : upTo 30 ss) : shortS ss := fun s hs => by have := h s hs; omega

theorem read_short {t : Txt} {zs : List Txt} (h : readP t = some zs) (hl : t.length ≤ 1048576) : shortS zs := by
  unfold readP at h
  by_cases ht : t = []
  · rw [if_pos ht] at h
    injection h with h
    subst h
    exact fun s hs => by simp at hs
  · rw [if_neg ht] at h
    by_cases hp : playB (cutT 32 t) = true
    · rw [if_pos hp] at h
      injection h with h
      subst h
      exact cut_fits hl
    · rw [if_neg hp] at h
      cases h
/-- Behind an append of texts. -/
theorem app_more {W w1 : World} {B gv k c m : Nat} {v' : Value} {xs ys : List Txt} (ho : OwnV W B 9 (.slice (some ⟨gv, 0, none⟩) k c) (xs.map str)) (hB : B ≤ W.heap.size) (hm : ys.length = m)
    (h1 : w1.ownsRow B 9 1 v' ((xs.map str).length + m) (xs.map str ++ ys.map str)) (hgr : W.grownBy w1 (some gv)) (hnil : v' = .slice none 0 0 ↔ Value.slice (some ⟨gv, 0, none⟩) k c = .slice none 0 0 ∧ m = 0) :
    ∃ g4 c4, v' = .slice (some ⟨g4, 0, none⟩) (xs ++ ys).length c4 ∧ OwnV w1 B 9 (.slice (some ⟨g4, 0, none⟩) (xs ++ ys).length c4) ((xs ++ ys).map str) ∧ Below B W w1 := by
  have hr : B ≤ gv := (ho.lt gv rfl).1
  have hoo : OwnV w1 B 9 v' ((xs ++ ys).map str) := by
    unfold OwnV
    rw [List.length_map, List.length_append, hm, List.map_append]
    rw [List.length_map] at h1
    exact h1
  obtain ⟨g4, c4, rfl⟩ := hoo.shape1 (fun q => by have := (hnil.1 q).1; cases this)
  rw [List.length_map] at hoo ⊢
  exact ⟨g4, c4, rfl, hoo, (Below.refl _ W).grown hgr hB (fun j hj => by cases hj; exact hr)⟩

/-- A text drawn. -/
def TextDrawn (w : World) (e : Ending) (w' : World) : Prop := ∃ t : Txt, e = .returned (str t) ∧ t.length ≤ 4002 ∧ Below w.heap.size w w'

set_option maxHeartbeats 2000000 in
theorem drawReadPlay_any (A : Option Addr) (n c : Nat) (hn : n ≤ 4096) (w : World) (hs : SeeB w w.heap.size A n) : Calls Tryz.prog 10 #[.slice A n c] w (TextDrawn w) := by
  go_enter Tryz.func10, Tryz.ntmps10
  go_wp2_with fail
  refine (l1New_any A n c hn _ hs).mono ?_
  rintro e w1 ⟨rfl, u1, b1⟩
  have hlt := u1.lt
  go_wp2_with fail
  refine (l7DrawAny_any _ _ u1).mono ?_
  rintro e w2 ⟨g2, c2, xs, rfl, o, lx, ux, -, u2, r⟩
  have hj := join_up ux lx
  go_wp2_with fail
  refine (l1Words_any _ _ xs [32] _ o.see (by omega)).mono ?_
  rintro e w3 ⟨rfl, rfl⟩
  generalize Lib.join xs [32] = t at hj ⊢
  go_wp2_with fail
  refine (l1Once_any _ _ (by decide) (by decide) _ u2).mono ?_
  rintro e w4 ⟨b, rfl, u4, r4⟩
  replace r := grown_trans r r4
  cases b
  · go_wp2_with fail
    go_ret
    exact ⟨t, rfl, by omega, below_cur b1 r⟩
  · go_wp2_with fail
    refine (l1Bend_any _ t [97, 98, 32, 91, 93, 43, 53] (by omega) (by decide) (by decide) _ u4).mono ?_
    rintro e w5 ⟨t5, rfl, hl5, u5, r5⟩
    replace r := grown_trans r r5
    go_wp2_with fail
    go_ret
    exact ⟨t5, rfl, by omega, below_cur b1 r⟩

end Go.Proofs.YtbpgleebfiiggaaGreatDoor
