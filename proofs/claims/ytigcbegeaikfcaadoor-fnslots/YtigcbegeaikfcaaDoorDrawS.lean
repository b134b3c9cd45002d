/- The draws of layer 6: sums. Only bounds are kept of what is drawn; the cursor goes on; nothing else that was there turns. -/
import Derived.Test.YtigcbegeaikfcaaDoorWordD
import Derived.Test.YtigcbegeaikfcaaDoorNamS
namespace Go.Proofs.YtigcbegeaikfcaaDoor
open Go.RowKit
set_option linter.unusedVariables false

theorem grown_far {w wr w1 : World} {g : Nat} {row : Option Nat} (h : w.grownBy wr (some g)) (k : wr.grownBy w1 row) (hr : ∀ j, row = some j → w.heap.size ≤ j) : w.grownBy w1 (some g) :=
  ⟨k.os.trans h.os, k.tape.trans h.tape, k.output.trans h.output, Nat.le_trans h.size k.size, fun i hi hne => (k.block i (Nat.lt_of_lt_of_le hi h.size) (fun e => by have := hr i e.symm; omega)).trans (h.block i hi hne)⟩
theorem Cur.apart {wr w1 : World} {g : Nat} {row : Option Nat} (h : Cur wr g) (k : wr.grownBy w1 row) (hr : ∀ j, row = some j → g < j) : Cur w1 g := by
  have hlt := h.lt
  obtain ⟨A, n, c, i, x, hh, hs, hi⟩ := h
  refine ⟨A, n, c, i, x, (k.block g hlt (fun e => by have := hr g e.symm; omega)).trans hh, hs.keep fun p hp => ?_, hi⟩
  exact World.cell?_of_block (k.block p.block (by omega) (fun e => by have := hr p.block e.symm; omega))
theorem OwnV.one (w : World) (e : TypeId) (x : Value) : OwnV (w.alloc (.cells #[x] e)) w.heap.size e (.slice (some ⟨w.heap.size, 0, none⟩) 1 1) [x] :=
  ⟨rfl, .inr ⟨w.heap.size, 1, #[x], rfl, Nat.le_refl _, heap_alloc_new _ _, Nat.le_refl _, by unfold maxLen; omega, rfl, rfl⟩⟩
/-- No text is longer than m. -/
def upTo (m : Nat) (xs : List Txt) : Prop := ∀ s ∈ xs, s.length ≤ m
/-- Texts drawn. -/
def TxsOut (m : Nat) (w : World) (g : Nat) (e : Ending) (w' : World) : Prop := ∃ g' c, ∃ xs : List Txt, e = .returned (.slice (some ⟨g', 0, none⟩) xs.length c) ∧ OwnV w' w.heap.size 9 (.slice (some ⟨g', 0, none⟩) xs.length c) (xs.map str) ∧ xs.length ≤ m ∧ upTo 30 xs ∧ Cur w' g ∧ w.grownBy w' (some g)

/-- An append of texts that are read, under draws. -/
theorem draw_more {w W w1 : World} {g gv k c m : Nat} {v' : Value} {xs ys : List Txt} (hg : g < w.heap.size) (ho : OwnV W w.heap.size 9 (.slice (some ⟨gv, 0, none⟩) k c) (xs.map str)) (hc : Cur W g) (hw : w.grownBy W (some g)) (hm : ys.length = m)
    (h1 : w1.ownsRow w.heap.size 9 1 v' ((xs.map str).length + m) (xs.map str ++ ys.map str)) (hgr : W.grownBy w1 (some gv)) (hnil : v' = .slice none 0 0 ↔ Value.slice (some ⟨gv, 0, none⟩) k c = .slice none 0 0 ∧ m = 0) :
    ∃ g4 c4, v' = .slice (some ⟨g4, 0, none⟩) (xs ++ ys).length c4 ∧ OwnV w1 w.heap.size 9 (.slice (some ⟨g4, 0, none⟩) (xs ++ ys).length c4) ((xs ++ ys).map str) ∧ Cur w1 g ∧ w.grownBy w1 (some g) := by
  have hr : w.heap.size ≤ gv := (ho.lt gv rfl).1
  have hoo : OwnV w1 w.heap.size 9 v' ((xs ++ ys).map str) := by
    unfold OwnV
    rw [List.length_map, List.length_append, hm, List.map_append]
    rw [List.length_map] at h1
    exact h1
  obtain ⟨g4, c4, rfl⟩ := hoo.shape1 (fun q => by have := (hnil.1 q).1; cases this)
  rw [List.length_map] at hoo ⊢
  exact ⟨g4, c4, rfl, hoo, hc.apart hgr (fun j hj => by cases hj; omega), grown_far hw hgr (fun j hj => by cases hj; exact hr)⟩
theorem ret_len {g n m c : Nat} (h : n = m) : Ending.returned (.slice (some ⟨g, 0, none⟩) n c) = .returned (.slice (some ⟨g, 0, none⟩) m c) := by rw [h]
theorem upTo_app {m : Nat} {xs ys : List Txt} (h : upTo m xs) (k : upTo m ys) : upTo m (xs ++ ys) := fun s hs => by
  rcases List.mem_append.1 hs with q | q
  · exact h s q
  · exact k s q
theorem news_of {W : World} {B g n c : Nat} {ys : List Txt} (h : SeeV W B (.slice (some ⟨g, 0, none⟩) n c) (ys.map str)) : ∀ j u, (ys.map str)[j]? = some u → W.cell? ((⟨g, 0, none⟩ : Addr).add j) = some u := fun j u hu => by
  obtain ⟨g', o', e, _, hc⟩ := h.at_ hu
  cases e
  rw [add_at]
  exact hc

end Go.Proofs.YtigcbegeaikfcaaDoor
