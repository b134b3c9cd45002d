/- The draws of layer 1, and the law FnSets' walk. -/
import Derived.Test.YtkobngclcnfojaaSetE
import Derived.Test.YtkobngclcnfojaaDrawA
namespace Go.Proofs.Ytkobngclcnfojaa
open Go.RowKit
set_option linter.unusedVariables false

def IntOut (w : World) (g : Nat) (e : Ending) (w' : World) : Prop := ∃ x : Int, e = .returned (.int .i64 x) ∧ Cur w' g ∧ w.grownBy w' (some g)
theorem Cur.alloc {w : World} {g : Nat} (h : Cur w g) (o : Obj) : Cur (w.alloc o) g := by
  obtain ⟨A, n, c, i, x, hh, hs, hi⟩ := h
  have hlt : g < w.heap.size := (Array.getElem?_eq_some_iff.1 hh).1
  exact ⟨A, n, c, i, x, (Below.heap_alloc w o g hlt).trans hh, hs.keep fun p hp => World.cell?_alloc_lt w _ p (by omega), hi⟩
theorem Cur.lt {w : World} {g : Nat} (h : Cur w g) : g < w.heap.size := by
  obtain ⟨A, n, c, i, x, hh, hs, hi⟩ := h
  exact (Array.getElem?_eq_some_iff.1 hh).1
theorem grown_of_alloc {w w' : World} {g : Nat} (o : Obj) (h : (w.alloc o).grownBy w' (some g)) : w.grownBy w' (some g) :=
  ⟨h.os, h.tape, h.output, by have := h.size; simp at this; omega, fun k hk hne => (h.block k (by simp; omega) hne).trans (Below.heap_alloc w o k hk)⟩
theorem grown_trans {a b c : World} {g : Nat} (h : a.grownBy b (some g)) (k : b.grownBy c (some g)) : a.grownBy c (some g) :=
  ⟨k.os.trans h.os, k.tape.trans h.tape, k.output.trans h.output, Nat.le_trans h.size k.size, fun i hi hne => (k.block i (Nat.lt_of_lt_of_le hi h.size) hne).trans (h.block i hi hne)⟩

set_option maxHeartbeats 1000000 in
theorem l1DrawSet_any (g : Nat) (w : World) (hc : Cur w g) : Calls Try.prog 60 #[.pointer (some ⟨g, 0, none⟩)] w (IntOut w g) := by
  go_enter Try.func60, Try.ntmps60
  go_wp2_with fail
  refine (l1Once_any g _ (by decide) (by decide) _ hc).mono ?_
  rintro e w1 ⟨b, rfl, hc1, hg1⟩
  cases b
  · go_wp2_with fail
    refine (l1Below_any g _ (by decide) (by decide) _ hc1).mono ?_
    rintro e w2 ⟨x, rfl, -, -, hc2, hg2⟩
    go_wp2_with fail
    go_ret
    exact ⟨_, rfl, hc2, grown_trans hg1 hg2⟩
  · have hlt := hc1.lt
    go_wp2_with fail
    refine (l1Below_any g _ (by decide) (by decide) _ (hc1.alloc _)).mono ?_
    rintro e w2 ⟨x, rfl, hx0, hx1, hc2, hg2⟩
    have hk : w2.heap[w1.heap.size]? = some (.cells #[.int .i64 (-1), .int .i64 63, .int .i64 64, .int .i64 1099511627776] 2 (0, 0)) :=
      (hg2.block _ (by simp) (by simp; omega)).trans (heap_alloc_new _ _)
    have hx : x = 0 ∨ x = 1 ∨ x = 2 ∨ x = 3 := by omega
    have hcell : ∃ y : Int, w2.cell? ⟨w1.heap.size, x.toNat, none⟩ = some (.int .i64 y) := by
      rw [cell_of_row w2 _ _ _ _ (0, 0) hk]
      rcases hx with rfl | rfl | rfl | rfl <;> exact ⟨_, rfl⟩
    obtain ⟨y, hy⟩ := hcell
    have G := grown_trans hg1 (grown_of_alloc _ hg2)
    clear hk hx hg1 hg2 hc1
    go_wp2_with fail
    go_ret
    exact ⟨_, rfl, hc2, G⟩

def PairOut (w : World) (e : Ending) (w' : World) : Prop := ∃ x y : Int, e = .returned (.tuple #[.int .i64 x, .int .i64 y]) ∧ Below w.heap.size w w'
def OneOut (w : World) (e : Ending) (w' : World) : Prop := ∃ x : Int, e = .returned (.int .i64 x) ∧ Below w.heap.size w w'
theorem below_cur {w w1 w2 : World} (hb : Below w.heap.size w w1) (hg : w1.grownBy w2 (some w.heap.size)) : Below w.heap.size w w2 :=
  hb.grown hg hb.size (fun k hk => by injection hk with hk; omega)

theorem has_mem (s i : Int) : hasI (memB s) i = hasB s i := by
  unfold hasI
  cases h : hasB s i
  · rw [decide_eq_false_iff_not]
    intro hm
    obtain ⟨j, _, rfl, hp⟩ := mem_sel.1 hm
    rw [h] at hp; cases hp
  · rw [decide_eq_true_iff]
    have h1 : inB i 0 5 = true := by simp only [hasB, Bool.and_eq_true] at h; exact h.1.2
    have h2 : 0 ≤ i ∧ i ≤ 5 := by simpa [inB] using h1
    obtain ⟨j, rfl⟩ := Int.eq_ofNat_of_zero_le h2.1
    exact mem_sel.2 ⟨j, by omega, rfl, h⟩
theorem ris_snoc {zs : List Int} {z : Int} (h : risTo zs zs.length) (hz : ∀ x ∈ zs, x < z) : risTo (zs ++ [z]) (zs ++ [z]).length := by
  intro k hk
  rw [List.length_append, List.length_singleton] at hk
  by_cases e : k + 1 = zs.length
  · have h1 : k < zs.length := by omega
    have h2 : (zs ++ [z]).getD (k + 1) 0 = z := by rw [e]; simp
    have h3 : (zs ++ [z]).getD k 0 = zs[k] := by rw [List.getD_eq_getElem?_getD, List.getElem?_append_left h1, List.getElem?_eq_getElem h1]; rfl
    rw [h2, h3]
    exact hz _ (List.getElem_mem h1)
  · have h1 : k + 1 < zs.length := by omega
    have := h k h1
    simpa only [List.getD_eq_getElem?_getD, List.getElem?_append_left h1, List.getElem?_append_left (show k < zs.length by omega)] using this
theorem ris_sel (p : Int → Bool) (k : Nat) : risTo (sel p k) (sel p k).length := by
  induction k with
  | zero => intro j hj; simp [sel] at hj
  | succ k ih =>
    cases hp : p k
    · rw [sel_no hp]; exact ih
    · rw [sel_yes hp]
      refine ris_snoc ih fun x hx => ?_
      obtain ⟨j, h1, rfl, _⟩ := mem_sel.1 hx
      omega
theorem ris_mem (s : Int) : risB (memB s) = true := by
  unfold risB
  simp only [decide_eq_true_eq]
  exact ris_sel _ _
theorem all_facts (n : Int) (h : 0 ≤ allB n) : cntB (allB n) = n ∧ hasB (allB n) n = false := by
  unfold allB at h ⊢
  split at h
  · rename_i hn
    rw [if_pos hn]
    obtain ⟨h0, h1⟩ := hn
    have h : n = 0 ∨ n = 1 ∨ n = 2 ∨ n = 3 ∨ n = 4 ∨ n = 5 ∨ n = 6 := by omega
    rcases h with rfl | rfl | rfl | rfl | rfl | rfl | rfl <;> decide +kernel
  · omega

end Go.Proofs.Ytkobngclcnfojaa
