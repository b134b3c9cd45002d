/- The walk of FnExactShowCode. Condition: the listed variables hold what the program's text lays (Forms, TabV). -/
import Derived.Test.YtbpgleebfiiggaaDoorCodW
import Derived.Test.YtbpgleebfiiggaaDoorOpT
namespace Go.Proofs.YtbpgleebfiiggaaDoor
open Go.RowKit
set_option linter.unusedVariables false

set_option maxHeartbeats 8000000 in
set_option maxRecDepth 100000 in
theorem showCode_law (v : Value) (cs : List Opv) (w : World) (F : Forms w) (T : TabV w) (s : SeeOp w w.heap.size v cs) (hF : fitO cs) :
    Calls Tryd.prog 4 #[v] w fun e w' => e = .returned (.bool true) ∧ Below w.heap.size w w' := by
  obtain ⟨A, c, rfl⟩ := s.shape
  rcases szL_fits (ls := nmLens8 cs) (left := 1048576) (by omega) with hz | ⟨hz, _, e2, e3⟩
  · go_enter Tryd.func4, Tryd.ntmps4
    go_wp2_with fail
    refine (szOps_any _ _ cs 1048576 (by omega) (by omega) _ s (Nat.le_refl _) hF).mono ?_
    rintro e w1 ⟨rfl, b1⟩
    rw [hz]
    go_wp2_with fail
    go_ret
    exact ⟨rfl, b1⟩
  have hlen : cs.length ≤ 1048576 := by
    have e : (nmLens8 cs).length = cs.length := by simp [nmLens8]
    omega
  have hS : ∀ o ∈ cs, o.2.2.length ≤ 1048576 := fun o ho => by
    have := e3 o.2.2.length (by unfold nmLens8; exact List.mem_map_of_mem (f := fun o : Opv => o.2.2.length) ho)
    omega
  have HF := Lib.hid F
  have HT := Lib.hid T
  have HSN := Lib.hid (fun B v W h1 h2 => sShowCode_any B v cs W h1 h2 hlen hS)
  have HIN := Lib.hid (fun B v W h1 h2 F T => iShowCode_any B v cs W h1 h2 hlen hS F T)
  clear F T e2 e3
  generalize codeTxt cs = tx at HSN HIN
  go_enter Tryd.func4, Tryd.ntmps4
  go_wp2_with fail
  refine (szOps_any _ _ cs 1048576 (by omega) (by omega) _ s (Nat.le_refl _) hF).mono ?_
  rintro e w1 ⟨rfl, b1⟩
  generalize szL 1048576 (nmLens8 cs) = z at hz ⊢
  have s1 := s.below b1
  have h1 := b1.size
  go_wp2_with fail
  refine (toOps_any _ _ cs hlen _ s1 h1).mono ?_
  rintro e w2 ⟨v2, rfl, o2, b2⟩
  obtain ⟨A2, c2, rfl⟩ := o2.see.shape
  replace b2 := below_then b1 b2 (Nat.le_refl _)
  go_wp2_with fail
  refine (HSN.out _ _ _ o2.see (Nat.le_refl _)).mono ?_
  rintro e w3 ⟨rfl, b3⟩
  replace b3 := below_then b2 b3 (Nat.le_refl _)
  have s3 := s.below b3
  have h3 := b3.size
  clear b1 b2 o2 s1 h1
  go_wp2_with fail
  refine (toOps_any _ _ cs hlen _ s3 h3).mono ?_
  rintro e w4 ⟨v4, rfl, o4, b4⟩
  obtain ⟨A4, c4, rfl⟩ := o4.see.shape
  replace b4 := below_then b3 b4 (Nat.le_refl _)
  clear b3 s3
  generalize w3.heap.size = N at o4 h3
  go_wp2_with fail
  refine (HIN.out _ _ _ o4.see (Nat.le_refl _) (HF.out.below b4) (TabV.below HT.out b4)).mono ?_
  rintro e w5 ⟨rfl, b5⟩
  have o5 := o4.later b5
  replace b5 := below_then b4 b5 (Nat.le_refl _)
  have s5 := s.below b5
  have h5 := b5.size
  clear o4 b4
  go_wp2_with fail
  refine (toOps_any _ _ cs hlen _ s5 h5).mono ?_
  rintro e w6 ⟨v6, rfl, o6, b6⟩
  obtain ⟨A6, c6, rfl⟩ := o6.see.shape
  have r6 := (o5.see.below b6).more b6.size
  replace b6 := below_then b5 b6 (Nat.le_refl _)
  have h6 := o6.see
  go_wp2_with fail
  refine (eqOps_any _ _ _ cs cs _ (Nat.le_refl _) r6 h6).mono ?_
  rintro e w7 ⟨rfl, b7⟩
  rw [eqOpl_same]
  go_wp2_with fail
  go_ret
  exact ⟨rfl, below_then b6 b7 (Nat.le_refl _)⟩

end Go.Proofs.YtbpgleebfiiggaaDoor
