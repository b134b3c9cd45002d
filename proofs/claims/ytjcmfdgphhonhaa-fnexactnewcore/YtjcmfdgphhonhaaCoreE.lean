/- Layer 9 (the player): NewCore of the program and of the model; the walk of FnExactNewCore. No conditions but those typed. -/
import Derived.Test.YtjcmfdgphhonhaaCoreA
import Derived.Laws.MakeOwn
namespace Go.Proofs.Ytjcmfdgphhonhaa
open Go.RowKit
set_option linter.unusedVariables false

def NewOut (w : World) (e : Ending) (w' : World) : Prop := ∃ g, e = .returned (.agg #[.int .i64 0, .slice none 0 0, .slice none 0 0, .slice (some ⟨g, 0, none⟩) 4 4, .int .i64 0]) ∧ OwnI w' w.heap.size 2 (.slice (some ⟨g, 0, none⟩) 4 4) [0, 0, 0, 0] ∧ Below w.heap.size w w'

set_option maxHeartbeats 1000000 in
theorem iNewCore_any (w : World) : Calls Try.prog 12 #[] w (NewOut w) := by
  have hr : Array.range 4 = #[0, 1, 2, 3] := by decide +kernel
  have hmd : madeCells #[.int .i64 0] 4 = #[.int .i64 0, .int .i64 0, .int .i64 0, .int .i64 0] := by unfold madeCells; rw [hr]; kernel_rfl
  have hmk : ∀ W : World, Sem.run Try.prog (Instr.makeSlice 22 (.int .i64 4) (.int .i64 4)) W = .ok (.slice (some ⟨W.heap.size, 0, none⟩) 4 4) (W.alloc (.cells #[.int .i64 0, .int .i64 0, .int .i64 0, .int .i64 0] 2)) := fun W => by
    have h := run_make_row' (P := Try.prog) 22 2 (.int .i64 0) 8 Try.underlying22 Try.infoI64 rfl .i64 .i64 4 (by omega) (by omega) W
    rw [hmd] at h
    exact h
  clear hmd hr
  have R1 : Hid (∀ o : Obj, ((w.alloc o).alloc (.cells #[.int .i64 0, .int .i64 0, .int .i64 0, .int .i64 0] 2)).heap[w.heap.size + 1]? = some (.cells #[.int .i64 0, .int .i64 0, .int .i64 0, .int .i64 0] 2 (0, 0))) :=
    Lib.hid (fun o => by have := heap_alloc_new (w.alloc o) (.cells #[.int .i64 0, .int .i64 0, .int .i64 0, .int .i64 0] 2); rwa [World.size_alloc] at this)
  go_enter Try.func12, Try.ntmps12
  go_wp2_with fail
  refine bodyPost_ret (v := .agg #[.int .i64 0, .slice none 0 0, .slice none 0 0, .slice (some ⟨w.heap.size + 1, 0, none⟩) 4 4, .int .i64 0]) (by simp [results, Try.results12, go_sem]) rfl ⟨_, rfl, ?_, ((Below.refl _ _).alloc (Nat.le_refl _) _).alloc (by simp) _⟩
  exact ⟨by simp, .inr ⟨w.heap.size + 1, 4, _, rfl, by omega, R1.out _, by simp, by unfold maxLen; omega, by simp, by simp⟩⟩

set_option maxHeartbeats 1000000 in
theorem sNewCore_any (w : World) : Calls Try.prog 11 #[] w (NewOut w) := by
  have hr : Array.range 4 = #[0, 1, 2, 3] := by decide +kernel
  have hmd : madeCells #[.int .i64 0] 4 = #[.int .i64 0, .int .i64 0, .int .i64 0, .int .i64 0] := by unfold madeCells; rw [hr]; kernel_rfl
  have hmk : ∀ W : World, Sem.run Try.prog (Instr.makeSlice 22 (.int .i64 4) (.int .i64 4)) W = .ok (.slice (some ⟨W.heap.size, 0, none⟩) 4 4) (W.alloc (.cells #[.int .i64 0, .int .i64 0, .int .i64 0, .int .i64 0] 2)) := fun W => by
    have h := run_make_row' (P := Try.prog) 22 2 (.int .i64 0) 8 Try.underlying22 Try.infoI64 rfl .i64 .i64 4 (by omega) (by omega) W
    rw [hmd] at h
    exact h
  clear hmd hr
  have R1 : Hid (∀ o : Obj, ((w.alloc o).alloc (.cells #[.int .i64 0, .int .i64 0, .int .i64 0, .int .i64 0] 2)).heap[w.heap.size + 1]? = some (.cells #[.int .i64 0, .int .i64 0, .int .i64 0, .int .i64 0] 2 (0, 0))) :=
    Lib.hid (fun o => by have := heap_alloc_new (w.alloc o) (.cells #[.int .i64 0, .int .i64 0, .int .i64 0, .int .i64 0] 2); rwa [World.size_alloc] at this)
  go_enter Try.func11, Try.ntmps11
  go_wp2_with fail
  refine bodyPost_ret (v := .agg #[.int .i64 0, .slice none 0 0, .slice none 0 0, .slice (some ⟨w.heap.size + 1, 0, none⟩) 4 4, .int .i64 0]) (by simp [results, Try.results11, go_sem]) rfl ⟨_, rfl, ?_, ((Below.refl _ _).alloc (Nat.le_refl _) _).alloc (by simp) _⟩
  exact ⟨by simp, .inr ⟨w.heap.size + 1, 4, _, rfl, by omega, R1.out _, by simp, by unfold maxLen; omega, by simp, by simp⟩⟩

theorem NewOut.own {w w' : World} {g : Nat} (o : OwnI w' w.heap.size 2 (.slice (some ⟨g, 0, none⟩) 4 4) [0, 0, 0, 0]) : OwnC w' w.heap.size (.slice none 0 0) (.slice none 0 0) (.slice (some ⟨g, 0, none⟩) 4 4) [] [] [0, 0, 0, 0] :=
  ⟨OwnI.nil _ _ _, OwnN.nil _ _ _ _, o, fun _ h => by simp [Value.ownBlock] at h, fun _ h => by simp [Value.ownBlock] at h, fun _ h => by simp [Value.ownBlock] at h⟩
theorem SeeI.nil (w : World) (B : Nat) : SeeI w B (.slice none 0 0) [] := ⟨Nat.zero_le _, none, 0, rfl, fun k hk => absurd hk (by simp)⟩
theorem SeeBx.nil (w : World) (B : Nat) : SeeBx w B (.slice none 0 0) [] := ⟨Nat.zero_le _, none, 0, rfl, Nat.le_refl _, fun k x hx => by simp at hx⟩

set_option maxHeartbeats 4000000 in
theorem newCore_law (w : World) : Calls Try.prog 4 #[] w fun e w' => e = .returned (.bool true) ∧ Below w.heap.size w w' := by
  go_enter Try.func4, Try.ntmps4
  go_wp2_with fail
  refine (sNewCore_any _).mono ?_
  rintro e w1 ⟨g, rfl, o1, b1⟩
  have bx := below_new w1 (.cells #[.int .i64 0, .slice none 0 0, .slice none 0 0, .slice (some ⟨g, 0, none⟩) 4 4, .int .i64 0] 30)
  have X1 := heap_alloc_new w1 (.cells #[.int .i64 0, .slice none 0 0, .slice none 0 0, .slice (some ⟨g, 0, none⟩) 4 4, .int .i64 0] 30)
  have h1 := (o1.see.below bx).more bx.size
  replace b1 := below_then b1 bx (Nat.le_refl _)
  have hwz := b1.size
  have hx0 := heap_lt X1
  go_wp2_with fail
  clear o1 bx
  generalize w1.alloc _ = W1 at *
  generalize w1.heap.size = M1 at *
  refine (iNewCore_any _).mono ?_
  rintro e w2 ⟨g2, rfl, o2, b2⟩
  have c2 := NewOut.own o2
  replace X1 := row_later X1 b2
  replace h1 := h1.below b2
  have bx := below_new w2 (.cells #[.int .i64 0, .slice none 0 0, .slice none 0 0, .slice (some ⟨g2, 0, none⟩) 4 4, .int .i64 0] 30)
  have X2 := heap_alloc_new w2 (.cells #[.int .i64 0, .slice none 0 0, .slice none 0 0, .slice (some ⟨g2, 0, none⟩) 4 4, .int .i64 0] 30)
  have hg1 := (c2.lt g2 (.inr (.inr rfl))).1
  have hg2 := (c2.lt g2 (.inr (.inr rfl))).2
  have hx1 : M1 < W1.heap.size := hx0
  have hs2 := b2.size
  replace X1 := row_later X1 bx
  replace h1 := h1.below (bx.mono hs2)
  replace c2 := c2.later bx
  replace b1 := below_then (below_then b1 b2 (Nat.le_refl _)) bx (Nat.le_refl _)
  obtain ⟨p0, p1, p2, p3, p4⟩ := cells5 X1
  go_wp2_with fail
  clear b2 o2 p0 p1 p2 p3 p4
  have hs3 := bx.size
  clear bx
  generalize w2.alloc _ = W2 at *
  generalize w2.heap.size = M2 at *
  have hx2 := heap_lt X2
  generalize hZ : W1.heap.size = Z at *
  clear hZ
  refine (eqCore_same W2.heap.size 0 0 _ _ _ _ _ _ [] [] [0, 0, 0, 0] W2 (Nat.le_refl _) (SeeI.nil _ _) (SeeBx.nil _ _) c2.o3.see (SeeI.nil _ _) (SeeBx.nil _ _) (h1.more (by omega))).mono ?_
  rintro e w3 ⟨rfl, b3⟩
  replace X1 := row_later X1 b3
  replace X2 := row_later X2 b3
  replace h1 := h1.below (b3.mono (by omega))
  replace c2 := c2.later b3
  have hs4 := b3.size
  replace b1 := below_then b1 b3 (Nat.le_refl _)
  clear b3
  obtain ⟨p0, p1, p2, p3, p4⟩ := cells5 X2
  have CM := Lib.hid (markCore_any _ 0 0 _ _ _ [] [] [0, 0, 0, 0] 1 w3 c2 (by omega) (by simp [nC]))
  go_wp2_with fail
  clear p0 p1 p2 p3 p4
  refine CM.out.mono ?_
  clear CM
  rintro e w4 ⟨rfl, c4, n4⟩
  have hrow : ∀ k, rowsC (.slice none 0 0) (.slice none 0 0) (.slice (some ⟨g2, 0, none⟩) 4 4) k → k = g2 := fun k h => by
    rcases h with h | h | h <;> simp [Value.ownBlock] at h
    exact h.symm
  have b4 : Below Z w3 w4 := n4.below (by omega) (fun k h => by rw [hrow k h]; omega)
  have X2' := (n4.block M2 (by omega) (fun h => by have := hrow _ h; omega)).trans X2
  replace X1 := (b4.block M1 hx1).trans X1
  replace h1 := h1.below b4
  replace b1 := b1.trans (b4.mono hwz)
  have hs5 := b4.size
  clear X2 n4 b4 c2
  have hn : ((1 + nC [] [] [0, 0, 0, 0] : Nat) : Int) = 5 := by simp [nC]
  rw [hn]
  clear hn
  obtain ⟨p0, p1, p2, p3, p4⟩ := cells5 X2'
  have CH := Lib.hid (fun W s1 s2 s3 hB => heldCore_any (B := W.heap.size) 0 0 (.slice none 0 0) (.slice none 0 0) (.slice (some ⟨g2, 0, none⟩) 4 4) 0 0 4 1 W s1 s2 s3 hB (by omega) (by omega))
  go_wp2_with fail
  clear p0 p1 p2 p3 p4
  refine (CH.out _ (SeeI.nil _ _) (SeeBx.nil _ _) c4.o3.see (Nat.le_refl _)).mono ?_
  rintro e w5 ⟨rfl, b5⟩
  replace X1 := row_later X1 b5
  replace X2' := row_later X2' b5
  replace h1 := h1.below (b5.mono (by omega))
  replace c4 := c4.later b5
  replace b1 := below_then b1 b5 (Nat.le_refl _)
  have hs6 := b5.size
  clear b5
  go_wp2_with fail
  refine (iNewCore_any _).mono ?_
  rintro e w6 ⟨g3, rfl, o3, b6⟩
  have bx := below_new w6 (.cells #[.int .i64 0, .slice none 0 0, .slice none 0 0, .slice (some ⟨g3, 0, none⟩) 4 4, .int .i64 0] 30)
  have X3 := heap_alloc_new w6 (.cells #[.int .i64 0, .slice none 0 0, .slice none 0 0, .slice (some ⟨g3, 0, none⟩) 4 4, .int .i64 0] 30)
  have h3 := o3.see.below bx
  replace X1 := row_later (row_later X1 b6) bx
  replace X2' := row_later (row_later X2' b6) bx
  replace c4 := (c4.later b6).later bx
  have hs7 := b6.size
  have hs8 := bx.size
  replace h1 := (h1.below (b6.mono (by omega))).below (bx.mono (by omega))
  replace b1 := below_then (below_then b1 b6 (Nat.le_refl _)) bx (Nat.le_refl _)
  clear b6 bx o3
  obtain ⟨p0, p1, p2, p3, p4⟩ := cells5 X1
  go_wp2_with fail
  clear p0 p1 p2 p3 p4
  generalize w6.alloc _ = W6 at *
  generalize w6.heap.size = M3 at *
  refine (eqCore_same W6.heap.size 0 0 _ _ _ _ _ _ [] [] [0, 0, 0, 0] W6 (Nat.le_refl _) (SeeI.nil _ _) (SeeBx.nil _ _) (h3.more hs8) (SeeI.nil _ _) (SeeBx.nil _ _) (h1.more (by omega))).mono ?_
  rintro e w7 ⟨rfl, b7⟩
  replace X2' := row_later X2' b7
  replace c4 := c4.later b7
  replace b1 := below_then b1 b7 (Nat.le_refl _)
  obtain ⟨p0, p1, p2, p3, p4⟩ := cells5 X2'
  go_wp2_with fail
  refine (CH.out _ (SeeI.nil _ _) (SeeBx.nil _ _) c4.o3.see (Nat.le_refl _)).mono ?_
  rintro e w8 ⟨rfl, b8⟩
  go_wp2_with fail
  go_ret
  exact ⟨rfl, below_then b1 b8 (Nat.le_refl _)⟩

end Go.Proofs.Ytjcmfdgphhonhaa
