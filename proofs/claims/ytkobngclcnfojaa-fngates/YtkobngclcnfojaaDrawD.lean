/- The draw of an order and two ranks. -/
import Derived.Test.YtkobngclcnfojaaDrawC
import Derived.Test.YtkobngclcnfojaaOrdW
namespace Go.Proofs.Ytkobngclcnfojaa
open Go.RowKit
set_option linter.unusedVariables false

theorem off_cell {W w' : World} {g : Nat} (q : W.grownBy w' (some g)) {b o : Nat} (h1 : b < W.heap.size) (h2 : b ≠ g) : w'.cell? ⟨b, o, none⟩ = W.cell? ⟨b, o, none⟩ := World.cell?_of_block (q.block b h1 (fun e => h2 (by injection e)))
theorem off_frozen {W w' : World} {g : Nat} (q : W.grownBy w' (some g)) {b o : Nat} (h1 : b < W.heap.size) (h2 : b ≠ g) : w'.frozen? ⟨b, o, none⟩ = W.frozen? ⟨b, o, none⟩ := World.frozen?_of_block (q.block b h1 (fun e => h2 (by injection e)))
theorem below_grown {w w1 w2 : World} {g : Nat} (hb : Below w.heap.size w w1) (hg : w1.grownBy w2 (some g)) (h : w.heap.size ≤ g) : Below w.heap.size w w2 :=
  ⟨hg.os.trans hb.os, hg.tape.trans hb.tape, hg.output.trans hb.output, Nat.le_trans hb.size hg.size, fun k hk => (hg.block k (Nat.lt_of_lt_of_le hk hb.size) (fun e => by injection e; omega)).trans (hb.block k hk)⟩
theorem see_apart {w : World} {B : Nat} {v : Value} {us : List Int} (h : SeeI w w.heap.size v us) (hf : From B v) {p : Addr} (hp : p.block < B) (u : Value) : SeeI (w.setCell p u) (w.setCell p u).heap.size v us := by
  obtain ⟨h0, A, c, rfl, h1⟩ := h
  refine ⟨h0, A, c, rfl, fun k hk' => ?_⟩
  obtain ⟨b, o, rfl, hq, hc⟩ := h1 k hk'
  have := hf _ _ _ rfl
  exact ⟨b, o, rfl, by simpa using hq, (World.cell?_setCell_other w _ _ _ (fun e => by subst e; simp at this; simp at hp; omega)).trans hc⟩

end Go.Proofs.Ytkobngclcnfojaa
