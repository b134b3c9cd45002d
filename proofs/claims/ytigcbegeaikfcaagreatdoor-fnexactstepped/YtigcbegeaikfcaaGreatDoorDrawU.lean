/- The draws of layer 6: boxes: set, drawn. Only bounds are kept of what is drawn. -/
import Derived.Test.YtigcbegeaikfcaaGreatDoorDrawT
import Derived.Test.YtigcbegeaikfcaaGreatDoorBoxL
namespace Go.Proofs.YtigcbegeaikfcaaGreatDoor
open Go.RowKit
set_option linter.unusedVariables false

theorem OwnBx.apart {w w' : World} {B : Nat} {e : TypeId} {v : Value} {bs : List Bx} {row : Option Nat} (h : OwnBx w B e v bs) (hg : w.grownBy w' row) (hr : ∀ g, row = some g → g < B) : OwnBx w' B e v bs := by
  have hlt := OwnN.lt h
  obtain ⟨⟨hl, h⟩, hn⟩ := h
  refine ⟨⟨hl, ?_⟩, hn⟩
  rcases h with h | ⟨b, cap, cur, rfl, hb', hg', h⟩
  · exact .inl h
  · exact .inr ⟨b, cap, cur, rfl, hb', by rw [hg.block b (hlt b rfl).2 (fun e => by have := hr b e.symm; omega)]; exact hg', h⟩
theorem OwnBx.less {w : World} {B B' : Nat} {e : TypeId} {v : Value} {bs : List Bx} (h : OwnBx w B e v bs) (hB : B' ≤ B) : OwnBx w B' e v bs := OwnN.less h hB
theorem OwnBx.alloc {w : World} {B : Nat} {e : TypeId} {v : Value} {bs : List Bx} (h : OwnBx w B e v bs) (o : Obj) : OwnBx (w.alloc o) B e v bs := OwnN.alloc h o
theorem OwnBx.lt {w : World} {B : Nat} {e : TypeId} {v : Value} {bs : List Bx} (h : OwnBx w B e v bs) : ∀ g, v.ownBlock = some g → B ≤ g ∧ g < w.heap.size := OwnN.lt h
theorem OwnBx.row {w : World} {B : Nat} {e : TypeId} {v : Value} {bs : List Bx} (h : OwnBx w B e v bs) : w.ownsRow B e 2 v bs.length (bs.map boxV).flatten := by have := h.1; rwa [List.length_map] at this
theorem OwnBx.of_row {w : World} {B n : Nat} {e : TypeId} {v : Value} {bs : List Bx} (h : w.ownsRow B e 2 v n (bs.map boxV).flatten) (hn : n = bs.length) : OwnBx w B e v bs := ⟨by rw [List.length_map, ← hn]; exact h, boxes_two bs⟩
theorem OwnBx.shape1 {w : World} {B : Nat} {e : TypeId} {v : Value} {bs : List Bx} (h : OwnBx w B e v bs) (hn : ¬ v = .slice none 0 0) : ∃ g c, v = .slice (some ⟨g, 0, none⟩) bs.length c := by
  rcases h.row.2 with ⟨q, _⟩ | ⟨g, cap, _, q, _⟩
  · exact absurd q hn
  · exact ⟨g, cap, q⟩
theorem OwnBx.cap {w : World} {B g n c : Nat} {e : TypeId} {bs : List Bx} (h : OwnBx w B e (.slice (some ⟨g, 0, none⟩) n c) bs) : bs.length ≤ c := by
  rcases h.row.2 with ⟨q, _⟩ | ⟨g2, cap2, cur, q, _, _, h3, _⟩
  · cases q
  · injection q with _ _ q3; subst q3; exact h3
theorem OwnBx.empty (w : World) (e : TypeId) : OwnBx (w.alloc (.cells #[] e)) w.heap.size e (.slice (some ⟨w.heap.size, 0, none⟩) 0 0) [] := OwnN.empty 2 w w.heap.size e (Nat.le_refl _)
/-- The cells of boxes that are read. -/
theorem bx_news {W : World} {B g o n c : Nat} {bs : List Bx} (h : SeeBx W B (.slice (some ⟨g, o, none⟩) n c) bs) : ∀ j u, (bs.map boxV).flatten[j]? = some u → W.cell? ((⟨g, o, none⟩ : Addr).add j) = some u := fun j u hu => by
  have hj := (List.getElem?_eq_some_iff.1 hu).1
  rw [flat_len (boxes_two bs), List.length_map] at hj
  have hk : j / 2 < bs.length := by omega
  have hx : (bs.map boxV)[j / 2]? = some (boxV bs[j / 2]) := by rw [List.getElem?_map, List.getElem?_eq_getElem hk]; rfl
  have hi : j % 2 < 2 := Nat.mod_lt _ (by omega)
  have hy : (boxV bs[j / 2])[j % 2]? = some ((boxV bs[j / 2])[j % 2]'(by simpa using hi)) := List.getElem?_eq_getElem _
  have e := flat_at (boxes_two bs) hx hy
  rw [show j / 2 * 2 + j % 2 = j by omega, hu] at e
  obtain ⟨g', o', e1, _, hc⟩ := SeeN.at_ h hx
  cases e1
  have := hc (j % 2) _ hy
  rw [add_at, show o + j = o + j / 2 * 2 + j % 2 by omega, this, ← e]
theorem bx_one (bs : List Bx) (u : Value) (h : u ∈ (bs.map boxV).flatten) : u.oneCell' = true := by
  obtain ⟨l, hl, hu⟩ := List.mem_flatten.1 h
  obtain ⟨b, _, rfl⟩ := List.mem_map.1 hl
  simp [boxV] at hu
  rcases hu with rfl | rfl <;> rfl
theorem bx_new (w : World) (a b : Value) (t : TypeId) : ∀ j u, [a, b][j]? = some u → (w.alloc (.cells #[a, b] t)).cell? ((⟨w.heap.size, 0, none⟩ : Addr).add j) = some u := fun j u hu => by
  rw [add_at, Nat.zero_add, cell_of_row _ _ _ _ _ (0, 0) (heap_alloc_new _ _)]
  simpa using hu
theorem bx_flat (xs ys : List Bx) : ((xs ++ ys).map boxV).flatten = (xs.map boxV).flatten ++ (ys.map boxV).flatten := by simp
theorem bx_len (bs : List Bx) : (bs.map boxV).flatten.length = bs.length * 2 := by rw [flat_len (boxes_two bs), List.length_map]
/-- No name is longer than m. -/
def upB (m : Nat) (bs : List Bx) : Prop := ∀ b ∈ bs, b.1.length ≤ m
theorem upB_app {m : Nat} {xs ys : List Bx} (h : upB m xs) (k : upB m ys) : upB m (xs ++ ys) := fun s hs => by
  rcases List.mem_append.1 hs with q | q
  · exact h s q
  · exact k s q
theorem upB_one {m : Nat} {n : List UInt8} {x : Int} (h : n.length ≤ m) : upB m [(n, x)] := fun s hs => by simp at hs; subst hs; exact h
/-- A part of boxes that are read. -/
theorem SeeBx.part {w : World} {B g o n c : Nat} {bs : List Bx} (h : SeeBx w B (.slice (some ⟨g, o, none⟩) n c) bs) (a m : Nat) (hm : a + m ≤ bs.length) : SeeBx w B (.slice (some ⟨g, o + a * 2, none⟩) m (c - a)) ((bs.drop a).take m) := by
  obtain ⟨h0, A, c', he, hc, h1⟩ := h
  injection he with e1 e2 e3
  subst e3
  have hl : (((bs.drop a).take m).map boxV).length = m := by simp; omega
  rw [List.length_map] at hc
  refine ⟨by rw [hl]; rw [List.length_map] at h0; omega, some ⟨g, o + a * 2, none⟩, c - a, by rw [hl], by rw [hl]; omega, fun k x hx => ?_⟩
  have hk : k < m := by have := (List.getElem?_eq_some_iff.1 hx).1; omega
  rw [List.getElem?_map, List.getElem?_take, if_pos hk, List.getElem?_drop] at hx
  obtain ⟨g', o', e, hg, hcell⟩ := h1 (a + k) x (by rw [List.getElem?_map]; exact hx)
  rw [← e1] at e
  injection e with e
  injection e with e4 e5
  subst e4 e5
  exact ⟨g, o + a * 2, rfl, hg, fun i y hy => by rw [show o + a * 2 + k * 2 + i = o + (a + k) * 2 + i by omega]; exact hcell i y hy⟩

end Go.Proofs.YtigcbegeaikfcaaGreatDoor
