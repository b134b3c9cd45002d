/- The draws of deeds, told exactly: how many signs are drawn, where the cursor stands then; how deep their [ ] lie. No conditions but those typed. -/
import Derived.Test.YtjcmfdgphhonhaaGreatDoorDrwC
namespace Go.Proofs.YtjcmfdgphhonhaaGreatDoor
open Go.RowKit
set_option linter.unusedVariables false

/-- How many [ are open behind these signs. -/
def lvl : List Txt → Int
  | [] => 0
  | x :: r => (if x = wOpen then 1 else if x = wShut then -1 else 0) + lvl r
theorem lvl_app : ∀ (a b : List Txt), lvl (a ++ b) = lvl a + lvl b
  | [], b => by simp [lvl]
  | x :: r, b => by
    show _ + lvl (r ++ b) = _ + lvl r + lvl b
    rw [lvl_app r b]
    omega
/-- Each [ has its ], and no more than D are open at once. -/
def Brk (D : Int) (xs : List Txt) : Prop := lvl xs = 0 ∧ ∀ p q, xs = p ++ q → 0 ≤ lvl p ∧ lvl p ≤ D
theorem Brk.mono {D E : Int} {xs : List Txt} (h : Brk D xs) (hD : D ≤ E) : Brk E xs := ⟨h.1, fun p q e => ⟨(h.2 p q e).1, by have := (h.2 p q e).2; omega⟩⟩
theorem Brk.app {D : Int} {xs ys : List Txt} (h : Brk D xs) (k : Brk D ys) : Brk D (xs ++ ys) := by
  refine ⟨by rw [lvl_app, h.1, k.1]; rfl, fun p q e => ?_⟩
  rcases List.append_eq_append_iff.1 e with ⟨r, rfl, e2⟩ | ⟨r, e1, e2⟩
  · rw [lvl_app, h.1, Int.zero_add]
    exact k.2 r q e2
  · exact h.2 p r e1
theorem lvl_no : ∀ {xs : List Txt}, noBrs xs → lvl xs = 0
  | [], _ => rfl
  | x :: r, h => by
    have hx := h x (by simp)
    show (if x = wOpen then 1 else if x = wShut then -1 else 0) + lvl r = 0
    rw [if_neg hx.1, if_neg hx.2, lvl_no (fun t ht => h t (List.mem_cons_of_mem _ ht))]
    rfl
theorem Brk.no {D : Int} {xs : List Txt} (hD : 0 ≤ D) (h : noBrs xs) : Brk D xs := by
  refine ⟨lvl_no h, fun p q e => ?_⟩
  rw [lvl_no (fun t ht => h t (by rw [e]; exact List.mem_append_left _ ht))]
  exact ⟨Int.le_refl _, hD⟩
theorem Brk.wrap {D : Int} {xs : List Txt} (hD : 0 ≤ D) (h : Brk D xs) : Brk (D + 1) ([wOpen] ++ (xs ++ [wShut])) := by
  have ho : lvl [wOpen] = 1 := by decide
  have hs : lvl [wShut] = -1 := by decide
  refine ⟨by rw [lvl_app, lvl_app, h.1, ho, hs]; rfl, fun p q e => ?_⟩
  match p, e with
  | [], _ => show 0 ≤ (0 : Int) ∧ (0 : Int) ≤ D + 1; omega
  | y :: p, e =>
    injection e with e1 e2
    subst e1
    have e3 : xs ++ [wShut] = p ++ q := e2
    have hl : lvl (wOpen :: p) = 1 + lvl p := by show (if wOpen = wOpen then 1 else _) + lvl p = _; rw [if_pos rfl]
    rw [hl]
    rcases List.append_eq_append_iff.1 e3 with ⟨r, rfl, e4⟩ | ⟨r, e4, _⟩
    · rw [lvl_app, h.1]
      match r, e4 with
      | [], _ => show 0 ≤ 1 + ((0 : Int) + 0) ∧ 1 + ((0 : Int) + 0) ≤ D + 1; omega
      | z :: r, e4 =>
        injection e4 with e5 e6
        subst e5
        have : r = [] := (List.append_eq_nil_iff.1 e6.symm).1
        subst this
        rw [hs]
        omega
    · have := h.2 p r e4
      omega
theorem brk_if {D : Int} {xs ss d1 d2 : List Txt} (hD : 0 ≤ D) (h : Brk (D + 1) xs) (hs : noBrs ss) (h1 : Brk D d1) (h2 : Brk D d2) : Brk (D + 1) (((((((xs ++ [wIf]) ++ ss) ++ [wOpen]) ++ d1) ++ [wShut, wOpen]) ++ d2) ++ [wShut]) := by
  have e : ((((((xs ++ [wIf]) ++ ss) ++ [wOpen]) ++ d1) ++ [wShut, wOpen]) ++ d2) ++ [wShut] = xs ++ ([wIf] ++ (ss ++ (([wOpen] ++ (d1 ++ [wShut])) ++ ([wOpen] ++ (d2 ++ [wShut]))))) := by simp
  rw [e]
  exact h.app ((Brk.no (by omega) (noBrs_one ⟨by decide, by decide⟩)).app ((Brk.no (by omega) hs).app ((h1.wrap hD).app (h2.wrap hD))))
theorem brk_while {D : Int} {xs d1 : List Txt} {x t : Txt} (hD : 0 ≤ D) (h : Brk (D + 1) xs) (hx : noBr x) (ht : noBr t) (h1 : Brk D d1) : Brk (D + 1) (((xs ++ [wWhile, [60], x, t, wOpen]) ++ d1) ++ [wSet, x, [43], x, [49], wShut]) := by
  have e : ((xs ++ [wWhile, [60], x, t, wOpen]) ++ d1) ++ [wSet, x, [43], x, [49], wShut] = xs ++ ([wWhile, [60], x, t] ++ ([wOpen] ++ ((d1 ++ [wSet, x, [43], x, [49]]) ++ [wShut]))) := by simp
  rw [e]
  have n1 : noBrs [wWhile, [60], x, t] := by
    intro y hy
    simp at hy
    rcases hy with rfl | rfl | rfl | rfl
    · exact ⟨by decide, by decide⟩
    · exact ⟨by decide, by decide⟩
    · exact hx
    · exact ht
  have n2 : noBrs [wSet, x, [43], x, [49]] := by
    intro y hy
    simp at hy
    rcases hy with h | h | h | h | h <;> rw [h]
    · exact ⟨by decide, by decide⟩
    · exact hx
    · exact ⟨by decide, by decide⟩
    · exact hx
    · exact ⟨by decide, by decide⟩
  exact h.app ((Brk.no (by omega) n1).app ((h1.app (Brk.no hD n2)).wrap hD))

/-- At the head of the loop: k deeds are still to be drawn. -/
def DdAt (bs : List Int) (f : Nat × Int → Nat × (Nat × Int)) (D : Int) (N : Nat) (S : Nat × Int) (w : World) (g : Nat) (o nv : Value) (wr : World) : Prop :=
  ∃ (k gg c : Nat) (xs : List Txt) (st : Nat × Int), nv = .int .i64 (k : Int) ∧ k ≤ 300 ∧ o = .slice (some ⟨gg, 0, none⟩) xs.length c ∧ OwnV wr w.heap.size 9 (.slice (some ⟨gg, 0, none⟩) xs.length c) (xs.map str) ∧ CurS bs wr g st ∧ w.grownBy wr (some g) ∧ upTo 30 xs ∧ Brk D xs ∧ Hid (xs.length + (timesG f k st).1 = N ∧ (timesG f k st).2 = S)
theorem ddNext {bs : List Int} {f : Nat × Int → Nat × (Nat × Int)} {D : Int} {N : Nat} {S : Nat × Int} {w wr : World} {g k gg c : Nat} {ys : List Txt} {st st' : Nat × Int} {n m d : Nat} {z : Int} (hH : n + (timesG f (k + 1) st).1 = N ∧ (timesG f (k + 1) st).2 = S) (hf : f st = (d, st')) (hl : ys.length = n + d) (hk : k ≤ 300) (hz : z = (k : Int)) (hm : m = ys.length)
    (ho : OwnV wr w.heap.size 9 (.slice (some ⟨gg, 0, none⟩) ys.length c) (ys.map str)) (hc : CurS bs wr g st') (hg : w.grownBy wr (some g)) (hu : upTo 30 ys) (hb : Brk D ys) : DdAt bs f D N S w g (.slice (some ⟨gg, 0, none⟩) m c) (.int .i64 z) wr := by
  subst hz hm
  refine ⟨k, gg, c, ys, st', rfl, hk, rfl, ho, hc, hg, hu, hb, Lib.hid ?_⟩
  obtain ⟨h1, h2⟩ := hH
  unfold timesG at h1 h2
  rw [hf] at h1 h2
  exact ⟨by have q : n + (d + (timesG f k st').1) = N := h1; omega, h2⟩
/-- So many signs drawn, their [ ] no deeper than D. -/
def DeedsX (bs : List Int) (n : Nat) (D : Int) (w : World) (g : Nat) (s : Nat × Int) (e : Ending) (w' : World) : Prop := ∃ g' c, ∃ xs : List Txt, e = .returned (.slice (some ⟨g', 0, none⟩) xs.length c) ∧ OwnV w' w.heap.size 9 (.slice (some ⟨g', 0, none⟩) xs.length c) (xs.map str) ∧ Hid (xs.length = n) ∧ upTo 30 xs ∧ Brk D xs ∧ CurS bs w' g s ∧ w.grownBy w' (some g)

end Go.Proofs.YtjcmfdgphhonhaaGreatDoor
