/- A scope in which the run jumps to whatever labels of it: what holds at each jump, and a measure that every pass lowers. No program is named here. Layer 7 (plays): the program's reader in memory: its six cells, its three rows, and what its methods do to them. Condition: the listed variables hold what the program's text lays (Vars). Layer 7 (plays): the program's reader: atEnd, next, takesName, takesGate. Condition: the listed variables hold what the program's text lays (Vars). Layer 7 (plays): the program's reader: takesSum, opens, closes. Condition: the listed variables hold what the program's text lays (Vars). Layer 7 (plays): the program's reader: opens and closes. No conditions but those typed. -/
import Derived.Test.YtjcmfdgphhonhaaGreatDoorDeedC
import Derived.ScopeJumps
import Derived.WalkMore
import Derived.Deep.RegionLaw
import Derived.BigRegion
import Derived.Deep.CutRange
namespace Go.Proofs.YtjcmfdgphhonhaaGreatDoor
open Go
set_option linter.unusedVariables false

/-- As Q; by a goto to label l: J l. -/
def jumps (J : Nat → Act → World → Prop) (Q : Exit → Act → World → Prop) : Exit → Act → World → Prop
  | .goto l, a, w => J l a w
  | e, a, w => Q e a w
theorem jumps_goto {J : Nat → Act → World → Prop} {Q : Exit → Act → World → Prop} {l : Nat} {a : Act} {w : World} : jumps J Q (.goto l) a w = J l a w := rfl
theorem jumps_ret {J : Nat → Act → World → Prop} {Q : Exit → Act → World → Prop} {a : Act} {w : World} : jumps J Q .ret a w = Q .ret a w := rfl
theorem jumps_normal {J : Nat → Act → World → Prop} {Q : Exit → Act → World → Prop} {a : Act} {w : World} : jumps J Q .normal a w = Q .normal a w := rfl

theorem wp_scope_many {P : Program} {a : Act} {w : World} {Q : Exit → Act → World → Prop} {c : Code} (J : Nat → Act → World → Prop) (μ : Nat → Act → World → Nat)
    (first : c.wp P (jumps J Q) a w)
    (pass : ∀ l a w, J l a w → ∃ rest, findLabel c l = some rest ∧ rest.wp P (jumps (fun l' a' w' => J l' a' w' ∧ μ l' a' w' < μ l a w) Q) a w) : (Code.scope c).wp P Q a w := by
  intro b k cs
  have hg : ∀ l rest, findLabel c l = some rest → gotoIn l (.inScope c :: k) = some (.code rest :: .inScope c :: k) := fun l rest hf => by simp [gotoIn, hf]
  have key : ∀ n l rest a w, μ l a w = n → findLabel c l = some rest → J l a w → ∃ e a' w', Q e a' w' ∧ Arrives P (lone (b.at a (.code rest :: .inScope c :: k)) cs w) b k cs e a' w' := by
    intro n
    induction n using Nat.strongRecOn with
    | _ n ih =>
      intro l rest a w hn hf hJ
      obtain ⟨rest', hf', hp⟩ := pass l a w hJ
      rw [hf] at hf'
      cases hf'
      obtain ⟨e, a₁, w₁, hq, harr⟩ := hp b (.inScope c :: k) cs
      cases e with
      | normal => exact ⟨.normal, a₁, w₁, hq, Steps.trans harr (.one step_inScope)⟩
      | exit id => exact ⟨.exit id, a₁, w₁, hq, fun k' hk => harr k' (by simp [exitTo, hk])⟩
      | goto l' =>
        obtain ⟨hJ', hlt⟩ := hq
        obtain ⟨rest2, hf2, _⟩ := pass l' a₁ w₁ hJ'
        obtain ⟨e₂, a₂, w₂, hq₂, harr₂⟩ := ih _ (by omega) l' rest2 a₁ w₁ rfl hf2 hJ'
        exact ⟨e₂, a₂, w₂, hq₂, .of_steps (harr _ (hg _ _ hf2)) harr₂⟩
      | ret => exact ⟨_, a₁, w₁, hq, harr⟩
      | panic ch => exact ⟨_, a₁, w₁, hq, harr⟩
      | outgrown => exact ⟨_, a₁, w₁, hq, harr⟩
  obtain ⟨e, a₁, w₁, hq, harr⟩ := first b (.inScope c :: k) cs
  cases e with
  | normal => exact ⟨.normal, a₁, w₁, hq, .head step_scope (Steps.trans harr (.one step_inScope))⟩
  | exit id => exact ⟨.exit id, a₁, w₁, hq, fun k' hk => .head step_scope (harr k' (by simp [exitTo, hk]))⟩
  | goto l' =>
    obtain ⟨rest2, hf2, _⟩ := pass l' a₁ w₁ hq
    obtain ⟨e₂, a₂, w₂, hq₂, harr₂⟩ := key _ l' rest2 a₁ w₁ rfl hf2 hq
    exact ⟨e₂, a₂, w₂, hq₂, .of_steps (.head step_scope (harr _ (hg _ _ hf2))) harr₂⟩
  | ret => exact ⟨_, a₁, w₁, hq, .of_steps (.one step_scope) harr⟩
  | panic ch => exact ⟨_, a₁, w₁, hq, .of_steps (.one step_scope) harr⟩
  | outgrown => exact ⟨_, a₁, w₁, hq, .of_steps (.one step_scope) harr⟩

end Go.Proofs.YtjcmfdgphhonhaaGreatDoor

namespace Go.Proofs.YtjcmfdgphhonhaaGreatDoor
open Go.RowKit
set_option linter.unusedVariables false

/-- Rows of two types lie in two blocks. -/
theorem rows_apart {w : World} {B B2 sz sz2 n m : Nat} {e e2 : TypeId} {v u : Value} {xs ys : List Value} (h : w.ownsRow B e sz v n xs) (h2 : w.ownsRow B2 e2 sz2 u m ys) (hne : e ≠ e2) : v.ownBlock = none ∨ v.ownBlock ≠ u.ownBlock := by
  obtain ⟨_, h⟩ := h
  obtain ⟨_, h2⟩ := h2
  rcases h with ⟨rfl, _⟩ | ⟨g', cap, cur, rfl, _, h3, _⟩
  · exact .inl rfl
  rcases h2 with ⟨rfl, _⟩ | ⟨g2', cap2, cur2, rfl, _, h4, _⟩
  · exact .inr (fun q => by cases q)
  refine .inr fun q => ?_
  cases q
  rw [h3] at h4
  injection h4 with h4
  injection h4 with _ h4
  exact hne h4

structure Rd (B g : Nat) (sv : Value) (ss : List Txt) (w : World) (a : Int) (vn vg vo : Value) (nm : List Txt) (gt : List Int) (op : List Bool) (dp : Nat) : Prop where
  blk : w.heap[g]? = some (.cells #[sv, .int .i64 a, vn, vg, vo, .int .i64 (dp : Int)] 81 (0, 0))
  low : B ≤ g
  see : SeeV w B sv (ss.map str)
  names : OwnV w (g + 1) 9 vn (nm.map str)
  gates : OwnI w (g + 1) 2 vg gt
  opens : OwnV w (g + 1) 4 vo (op.reverse.map Value.bool)

section
variable {B g : Nat} {sv : Value} {ss : List Txt} {w w1 : World} {a : Int} {vn vg vo : Value} {nm : List Txt} {gt : List Int} {op : List Bool} {dp : Nat}
theorem Rd.lt (h : Rd B g sv ss w a vn vg vo nm gt op dp) : g < w.heap.size := (Array.getElem?_eq_some_iff.1 h.blk).1
theorem Rd.c0 (h : Rd B g sv ss w a vn vg vo nm gt op dp) : w.cell? ⟨g, 0, none⟩ = some sv := by rw [cell_of_row _ _ 0 _ _ (0, 0) h.blk]; rfl
theorem Rd.c1 (h : Rd B g sv ss w a vn vg vo nm gt op dp) : w.cell? ⟨g, 1, none⟩ = some (.int .i64 a) := by rw [cell_of_row _ _ 1 _ _ (0, 0) h.blk]; rfl
theorem Rd.c2 (h : Rd B g sv ss w a vn vg vo nm gt op dp) : w.cell? ⟨g, 2, none⟩ = some vn := by rw [cell_of_row _ _ 2 _ _ (0, 0) h.blk]; rfl
theorem Rd.c3 (h : Rd B g sv ss w a vn vg vo nm gt op dp) : w.cell? ⟨g, 3, none⟩ = some vg := by rw [cell_of_row _ _ 3 _ _ (0, 0) h.blk]; rfl
theorem Rd.c4 (h : Rd B g sv ss w a vn vg vo nm gt op dp) : w.cell? ⟨g, 4, none⟩ = some vo := by rw [cell_of_row _ _ 4 _ _ (0, 0) h.blk]; rfl
theorem Rd.c5 (h : Rd B g sv ss w a vn vg vo nm gt op dp) : w.cell? ⟨g, 5, none⟩ = some (.int .i64 (dp : Int)) := by rw [cell_of_row _ _ 5 _ _ (0, 0) h.blk]; rfl
theorem Rd.fz (h : Rd B g sv ss w a vn vg vo nm gt op dp) (k : Nat) : w.frozen? ⟨g, k, none⟩ = false := frozen_row h.blk
theorem Rd.later (h : Rd B g sv ss w a vn vg vo nm gt op dp) (b : Below w.heap.size w w1) : Rd B g sv ss w1 a vn vg vo nm gt op dp :=
  ⟨(b.block _ h.lt).trans h.blk, h.low, h.see.below (b.mono (by have := h.lt; have := h.low; omega)), h.names.later b, h.gates.later b, h.opens.later b⟩
theorem Rd.alloc (h : Rd B g sv ss w a vn vg vo nm gt op dp) (o : Obj) : Rd B g sv ss (w.alloc o) a vn vg vo nm gt op dp := h.later ((Below.refl _ w).alloc (Nat.le_refl _) o)
theorem Rd.drewN (h : Rd B g sv ss w a vn vg vo nm gt op dp) (n : Nat) : Rd B g sv ss (w.drewN n) a vn vg vo nm gt op dp := ⟨h.blk, h.low, h.see, h.names, h.gates, h.opens⟩
theorem Rd.seeSet (h : Rd B g sv ss w a vn vg vo nm gt op dp) (k : Nat) (u : Value) : SeeV (w.setCell ⟨g, k, none⟩ u) B sv (ss.map str) :=
  h.see.keep fun p hp => World.cell?_setCell_other w ⟨g, k, none⟩ p u (fun e => by subst e; have := h.low; simp at hp; omega)
theorem Rd.setAt (h : Rd B g sv ss w a vn vg vo nm gt op dp) (b : Int) : Rd B g sv ss (w.setCell ⟨g, 1, none⟩ (.int .i64 b)) b vn vg vo nm gt op dp :=
  ⟨by rw [heap_set h.blk]; rfl, h.low, h.seeSet _ _, h.names.far (by simp) _, ownsRow_setCell_below h.gates (by simp) _, h.opens.far (by simp) _⟩
theorem Rd.setDeep (h : Rd B g sv ss w a vn vg vo nm gt op dp) (d : Nat) : Rd B g sv ss (w.setCell ⟨g, 5, none⟩ (.int .i64 (d : Int))) a vn vg vo nm gt op d :=
  ⟨by rw [heap_set h.blk]; rfl, h.low, h.seeSet _ _, h.names.far (by simp) _, ownsRow_setCell_below h.gates (by simp) _, h.opens.far (by simp) _⟩
theorem Rd.setOpen (h : Rd B g sv ss w a vn vg vo nm gt op dp) {v : Value} {o2 : List Bool} (ho : OwnV w (g + 1) 4 v (o2.reverse.map Value.bool)) : Rd B g sv ss (w.setCell ⟨g, 4, none⟩ v) a vn vg v nm gt o2 dp :=
  ⟨by rw [heap_set h.blk]; rfl, h.low, h.seeSet _ _, h.names.far (by simp) _, ownsRow_setCell_below h.gates (by simp) _, ho.far (by simp) _⟩
/-- Behind an append to the names: the row has grown, all else is as it was; then the store. -/
theorem Rd.grewN {vn' : Value} {nm' : List Txt} (h : Rd B g sv ss w a vn vg vo nm gt op dp) (hg : w.grownBy w1 vn.ownBlock) (ho : OwnV w1 (g + 1) 9 vn' (nm'.map str)) :
    w1.heap[g]? = w.heap[g]? ∧ Rd B g sv ss (w1.setCell ⟨g, 2, none⟩ vn') a vn' vg vo nm' gt op dp := by
  have hq : w1.heap[g]? = w.heap[g]? := hg.block g h.lt (fun q => by have := (h.names.lt g q.symm).1; omega)
  have hb : w1.heap[g]? = some (.cells #[sv, .int .i64 a, vn, vg, vo, .int .i64 (dp : Int)] 81 (0, 0)) := hq.trans h.blk
  have hs1 : SeeV w1 B sv (ss.map str) := h.see.keep fun p hp => World.cell?_of_block (hg.block p.block (by have := h.lt; have := h.low; omega) (fun q => by have := (h.names.lt _ q.symm).1; have := h.low; omega))
  refine ⟨hq, ⟨by rw [heap_set hb]; rfl, h.low, ?_, ho.far (by simp) _, ownsRow_setCell_below (World.ownsRow.kept h.gates hg (rows_apart h.gates h.names (by decide))) (by simp) _, OwnV.far (World.ownsRow.kept h.opens hg (rows_apart h.opens h.names (by decide))) (by simp) _⟩⟩
  exact hs1.keep fun p hp => World.cell?_setCell_other w1 ⟨g, 2, none⟩ p _ (fun e => by subst e; have := h.low; simp at hp; omega)
theorem Rd.grewG {vg' : Value} {gt' : List Int} (h : Rd B g sv ss w a vn vg vo nm gt op dp) (hg : w.grownBy w1 vg.ownBlock) (ho : OwnI w1 (g + 1) 2 vg' gt') :
    w1.heap[g]? = w.heap[g]? ∧ Rd B g sv ss (w1.setCell ⟨g, 3, none⟩ vg') a vn vg' vo nm gt' op dp := by
  have hq : w1.heap[g]? = w.heap[g]? := hg.block g h.lt (fun q => by have := (h.gates.lt g q.symm).1; omega)
  have hb : w1.heap[g]? = some (.cells #[sv, .int .i64 a, vn, vg, vo, .int .i64 (dp : Int)] 81 (0, 0)) := hq.trans h.blk
  have hs1 : SeeV w1 B sv (ss.map str) := h.see.keep fun p hp => World.cell?_of_block (hg.block p.block (by have := h.lt; have := h.low; omega) (fun q => by have := (h.gates.lt _ q.symm).1; have := h.low; omega))
  refine ⟨hq, ⟨by rw [heap_set hb]; rfl, h.low, ?_, OwnV.far (World.ownsRow.kept h.names hg (rows_apart h.names h.gates (by decide))) (by simp) _, ownsRow_setCell_below ho (by simp) _, OwnV.far (World.ownsRow.kept h.opens hg (rows_apart h.opens h.gates (by decide))) (by simp) _⟩⟩
  exact hs1.keep fun p hp => World.cell?_setCell_other w1 ⟨g, 3, none⟩ p _ (fun e => by subst e; have := h.low; simp at hp; omega)
theorem Rd.grewO {vo' : Value} {op' : List Bool} (h : Rd B g sv ss w a vn vg vo nm gt op dp) (hg : w.grownBy w1 vo.ownBlock) (ho : OwnV w1 (g + 1) 4 vo' (op'.reverse.map Value.bool)) :
    w1.heap[g]? = w.heap[g]? ∧ Rd B g sv ss (w1.setCell ⟨g, 4, none⟩ vo') a vn vg vo' nm gt op' dp := by
  have hq : w1.heap[g]? = w.heap[g]? := hg.block g h.lt (fun q => by have := (h.opens.lt g q.symm).1; omega)
  have hb : w1.heap[g]? = some (.cells #[sv, .int .i64 a, vn, vg, vo, .int .i64 (dp : Int)] 81 (0, 0)) := hq.trans h.blk
  have hs1 : SeeV w1 B sv (ss.map str) := h.see.keep fun p hp => World.cell?_of_block (hg.block p.block (by have := h.lt; have := h.low; omega) (fun q => by have := (h.opens.lt _ q.symm).1; have := h.low; omega))
  refine ⟨hq, ⟨by rw [heap_set hb]; rfl, h.low, ?_, OwnV.far (World.ownsRow.kept h.names hg (rows_apart h.names h.opens (by decide))) (by simp) _, ownsRow_setCell_below (World.ownsRow.kept h.gates hg (rows_apart h.gates h.opens (by decide))) (by simp) _, ho.far (by simp) _⟩⟩
  exact hs1.keep fun p hp => World.cell?_setCell_other w1 ⟨g, 4, none⟩ p _ (fun e => by subst e; have := h.low; simp at hp; omega)
end

end Go.Proofs.YtjcmfdgphhonhaaGreatDoor

namespace Go.Proofs.YtjcmfdgphhonhaaGreatDoor
open Go.RowKit
set_option linter.unusedVariables false

/-- The next place. -/
def nx (ss : List Txt) (k : Nat) : Nat := if k < ss.length then k + 1 else k
theorem nx_in {ss : List Txt} {k : Nat} (h : k < ss.length) : nx ss k = k + 1 := if_pos h
theorem nx_out {ss : List Txt} {k : Nat} (h : ¬ k < ss.length) : nx ss k = k := if_neg h
theorem sg7_short {ss : List Txt} (hS : shortS ss) (k : Nat) : (sg7 ss k).length ≤ 1048576 := by
  by_cases h : k < ss.length
  · have e := List.getElem?_eq_getElem h
    rw [sg7_some e]
    exact hS _ (List.mem_of_getElem? e)
  · rw [sg7_out (by omega)]; simp

/-- The reader behind a call. -/
def RrOut (B g : Nat) (sv : Value) (ss : List Txt) (w : World) (r : Value) (k : Int) (nm : List Txt) (gt : List Int) (op : List Bool) (dp : Nat) (e : Ending) (w' : World) : Prop :=
  e = .returned r ∧ Below g w w' ∧ ∃ vn vg vo, Rd B g sv ss w' k vn vg vo nm gt op dp

set_option maxHeartbeats 1000000 in
theorem atEnd_any (B g : Nat) (sv : Value) (ss : List Txt) (w : World) (k : Nat) (vn vg vo : Value) (nm : List Txt) (gt : List Int) (op : List Bool) (dp : Nat) (h : Rd B g sv ss w (k : Int) vn vg vo nm gt op dp) (hn : ss.length ≤ 1048576) :
    Calls Tryz.prog 167 #[.pointer (some ⟨g, 0, none⟩)] w (BoolLt w (decide (ss.length ≤ k))) := by
  obtain ⟨A, c, e⟩ := strs_shape h.see
  subst e
  have c0 := h.c0
  have c1 := h.c1
  clear h
  go_enter Tryz.func167, Tryz.ntmps167
  go_wp2_with fail
  go_quiet (fail)
  go_wp2_with fail
  go_ret
  exact ⟨ret_bool (by simp), below_drewN (Below.refl _ _) _⟩

set_option maxHeartbeats 1000000 in
theorem next_any (B g : Nat) (sv : Value) (ss : List Txt) (w : World) (k : Nat) (vn vg vo : Value) (nm : List Txt) (gt : List Int) (op : List Bool) (dp : Nat) (h : Rd B g sv ss w (k : Int) vn vg vo nm gt op dp) (hn : ss.length ≤ 1048576) :
    Calls Tryz.prog 113 #[.pointer (some ⟨g, 0, none⟩)] w (RrOut B g sv ss w (str (sg7 ss k)) ((nx ss k : Nat) : Int) nm gt op dp) := by
  obtain ⟨A, c, e⟩ := strs_shape h.see
  subst e
  by_cases hlt : k < ss.length
  · have hx := List.getElem?_eq_getElem hlt
    generalize ss[k] = x at hx
    have HE : Hid (sg7 ss k = x) := Lib.hid (sg7_some hx)
    have HN : Hid (nx ss k = k + 1) := Lib.hid (nx_in hlt)
    have HD : Hid (decide (ss.length ≤ k) = false) := Lib.hid (by simp; omega)
    rw [HE.out, HN.out]
    go_enter Tryz.func113, Tryz.ntmps113
    go_wp2_with fail
    refine (atEnd_any B g _ ss _ k vn vg vo nm gt op dp h hn).mono ?_
    rintro e w1 ⟨rfl, b1⟩
    rw [HD.out]
    have h1 := h.later b1
    obtain ⟨gs, os, e0, -, hcx⟩ := strs_at h1.see hx
    subst e0
    have c0 := h1.c0
    have c1 := h1.c1
    have f1 := h1.fz 1
    have HH := Lib.hid (fun n => (h1.drewN n).setAt ((k + 1 : Nat) : Int))
    have HB : Hid (Below g w w1) := Lib.hid (b1.mono (Nat.le_of_lt h.lt))
    clear h h1 hx b1
    go_wp2_with fail
    go_quiet (fail)
    go_wp2_with fail
    go_ret
    exact ⟨rfl, (below_drewN HB.out _).setCell (by simp) _, _, _, _, HH.out _⟩
  · have HE : Hid (sg7 ss k = []) := Lib.hid (sg7_out (by omega))
    have HN : Hid (nx ss k = k) := Lib.hid (nx_out hlt)
    have HD : Hid (decide (ss.length ≤ k) = true) := Lib.hid (by simp; omega)
    rw [HE.out, HN.out]
    go_enter Tryz.func113, Tryz.ntmps113
    go_wp2_with fail
    refine (atEnd_any B g _ ss _ k vn vg vo nm gt op dp h hn).mono ?_
    rintro e w1 ⟨rfl, b1⟩
    rw [HD.out]
    have HH := Lib.hid (h.later b1)
    have HB : Hid (Below g w w1) := Lib.hid (b1.mono (Nat.le_of_lt h.lt))
    clear h b1
    go_wp2_with fail
    go_ret
    exact ⟨rfl, HB.out, _, _, _, HH.out⟩

set_option maxHeartbeats 1000000 in
theorem takesName_any (B g : Nat) (sv : Value) (ss : List Txt) (w : World) (k : Nat) (vn vg vo : Value) (nm : List Txt) (gt : List Int) (op : List Bool) (dp : Nat) (h : Rd B g sv ss w (k : Int) vn vg vo nm gt op dp) (hn : ss.length ≤ 1048576) (hS : shortS ss) (hnm : nm.length ≤ 4194304) :
    Calls Tryz.prog 203 #[.pointer (some ⟨g, 0, none⟩)] w (RrOut B g sv ss w (.bool (nameB (sg7 ss k))) ((nx ss k : Nat) : Int) (nm ++ [sg7 ss k]) gt op dp) := by
  obtain ⟨i0, hi, hz0, hz1, hz2⟩ := info_parts Tryz.infoStr
  have hsx := sg7_short hS k
  have HNX := Lib.hid (next_any B g sv ss w k vn vg vo nm gt op dp h hn)
  generalize sg7 ss k = x at hsx HNX ⊢
  go_enter Tryz.func203, Tryz.ntmps203
  go_wp2_with fail
  refine HNX.out.mono ?_
  rintro e w1 ⟨rfl, b1, vn1, vg1, vo1, h1⟩
  have c2 := h1.c2
  have f2 := h1.fz 2
  have hl1 := h1.lt
  have HOR : Hid (w1.ownsRow (g + 1) 9 1 vn1 nm.length (nm.map str)) := Lib.hid (by
    have := h1.names
    unfold OwnV at this
    rwa [List.length_map] at this)
  obtain ⟨A, c, e⟩ := strs_shape h1.names.see
  subst e
  have H1 := Lib.hid h1
  clear h h1
  go_wp2_with (at_builtin; refine wpList_append_own _ rfl _ _ 24 rfl (g + 1) 9 i0 (.string ⟨#[]⟩) 1 16 Tryz.underlying24 hi hz0 hz1 hz2 rfl (by decide) _ _ _ rfl (World.ownsRow.alloc HOR.out _) ⟨w1.heap.size, 0, none⟩ 1 1 [str x] rfl rfl (cell_one_new _ _ _) (by simp [Value.oneCell']) (by unfold maxLen; omega) (by omega) (by simp; omega) ?_; intro v3 w3 hown3 hgrow3 hnil3; obtain ⟨g3, c3, rfl⟩ := ownsRow_succ hown3; obtain ⟨hq, R3⟩ := (H1.out.alloc _).grewN (nm' := nm ++ [x]) hgrow3 (by unfold OwnV; rw [List.length_map, List.length_append, List.map_append]; exact hown3); have R4 := Lib.hid R3; have d2 := (World.cell?_of_block hq).trans (H1.out.alloc _).c2; have d3 := (World.frozen?_of_block hq).trans ((H1.out.alloc _).fz 2); have B3 : Hid (Below g w1 w3) := Lib.hid (((Below.refl _ w1).alloc (by omega) _).grown hgrow3 (by simp; omega) (fun j hj => by have := (World.ownsRow.lt HOR.out j hj).1; omega)); clear R3 hq hgrow3 hown3)
  refine (iNameOk_any x hsx _).mono ?_
  rintro e w' ⟨rfl, rfl⟩
  go_wp2_with fail
  go_ret
  exact ⟨rfl, (b1.trans B3.out).setCell (by simp) _, _, _, _, R4.out⟩

theorem gate_rd {s : Txt} {j : Nat} (h : gateN s = some j) : rdS s = some (j : Int) := by
  unfold gateN at h
  by_cases h0 : s = [48]
  · subst h0; simp at h; subst h; decide
  rw [if_neg h0] at h
  by_cases h1 : s = [49]
  · subst h1; simp at h; subst h; decide
  rw [if_neg h1] at h
  by_cases h2 : s = [50]
  · subst h2; simp at h; subst h; decide
  rw [if_neg h2] at h
  by_cases h3 : s = [51]
  · subst h3; simp at h; subst h; decide
  rw [if_neg h3] at h
  cases h
theorem rd_gate {s : Txt} {j : Nat} (h : rdS s = some (j : Int)) (hj : j < 4) : gateN s = some j := by
  have e := (rdS_some h).2
  have hd : Lib.itoa (j : Int) = [UInt8.ofNat (48 + j)] := by rw [Lib.itoa_nonneg, dec_small (by omega)]
  rw [hd] at e
  subst e
  match j, hj with
  | 0, _ => decide
  | 1, _ => decide
  | 2, _ => decide
  | 3, _ => decide
def gz (s : Txt) : Int := (rdS s).getD 0
theorem gz_gate {s : Txt} {j : Nat} (h : gateN s = some j) : gz s = (j : Int) := by unfold gz; rw [gate_rd h]; rfl

theorem gate_bool (x : Txt) : ((rdS x).isSome && decide (0 ≤ gz x) && decide (gz x < 4)) = (gateN x).isSome := by
  unfold gz
  cases hr : rdS x with
  | none =>
    cases hg : gateN x with
    | none => rfl
    | some j => rw [gate_rd hg] at hr; cases hr
  | some v =>
    by_cases hv : 0 ≤ v ∧ v < 4
    · have e : v = ((v.toNat : Nat) : Int) := by omega
      rw [e] at hr
      rw [rd_gate hr (by omega)]
      simp [hv]
    · cases hg : gateN x with
      | none =>
        simp only [Option.isSome_some, Bool.true_and, Option.getD_some, Option.isSome_none, Bool.and_eq_false_imp, decide_eq_true_eq, decide_eq_false_iff_not]
        omega
      | some j =>
        have hj := gateN_lt hg
        rw [gate_rd hg] at hr
        injection hr with hr
        exact absurd ⟨by omega, by omega⟩ hv

set_option maxRecDepth 100000 in
set_option maxHeartbeats 1000000 in
theorem takesGate_any (B g : Nat) (sv : Value) (ss : List Txt) (w : World) (k : Nat) (vn vg vo : Value) (nm : List Txt) (gt : List Int) (op : List Bool) (dp : Nat) (V : ∀ w', Below g w w' → Vars w') (h : Rd B g sv ss w (k : Int) vn vg vo nm gt op dp) (hn : ss.length ≤ 1048576) (hS : shortS ss) (hgt : gt.length ≤ 4194304) :
    Calls Tryz.prog 205 #[.pointer (some ⟨g, 0, none⟩)] w (RrOut B g sv ss w (.bool (gateN (sg7 ss k)).isSome) ((nx ss k : Nat) : Int) nm (gt ++ [gz (sg7 ss k)]) op dp) := by
  obtain ⟨i0, hi, hz0, hz1, hz2⟩ := info_parts Tryz.info7
  have hsx := sg7_short hS k
  have HV := Lib.hid V
  clear V
  have HNX := Lib.hid (next_any B g sv ss w k vn vg vo nm gt op dp h hn)
  generalize sg7 ss k = x at hsx HNX ⊢
  have HRW : Hid (∀ w1, Below g w w1 → Calls Tryz.prog 213 #[str x] w1 fun e w' => e = .returned (.tuple #[.int .i64 (gz x), .bool (rdS x).isSome]) ∧ Below w1.heap.size w1 w') := Lib.hid (fun w1 b1 => iReadWord_any x hsx _ (HV.out _ b1))
  rw [← gate_bool x]
  generalize gz x = z at HRW ⊢
  generalize (rdS x).isSome = is at HRW ⊢
  go_enter Tryz.func205, Tryz.ntmps205
  go_wp2_with fail
  refine HNX.out.mono ?_
  rintro e w1 ⟨rfl, b1, vn1, vg1, vo1, h1⟩
  go_wp2_with fail
  refine (HRW.out _ b1).mono ?_
  rintro e w2 ⟨rfl, b2⟩
  have h2 := h1.later b2
  have B2 := Lib.hid (b1.trans (b2.mono (Nat.le_of_lt h1.lt)))
  clear h h1 b1 b2
  have c2 := h2.c3
  have f2 := h2.fz 3
  have hl1 := h2.lt
  have HOR : Hid (w2.ownsRow (g + 1) 2 1 vg1 gt.length (gt.map (Value.int .i64))) := Lib.hid h2.gates
  obtain ⟨A, c, e⟩ := h2.gates.see.shape
  subst e
  have H1 := Lib.hid h2
  clear h2
  go_wp2_with (at_builtin; refine wpList_append_own _ rfl _ _ 37 rfl (g + 1) 2 i0 (.int .i64 0) 1 8 Tryz.underlying37 hi hz0 hz1 hz2 rfl (by decide) _ _ _ rfl (World.ownsRow.alloc HOR.out _) ⟨w2.heap.size, 0, none⟩ 1 1 [.int .i64 z] rfl rfl (cell_one_new _ _ _) (by simp [Value.oneCell']) (by unfold maxLen; omega) (by omega) (by simp; omega) ?_; intro v3 w3 hown3 hgrow3 hnil3; obtain ⟨g3, c3, rfl⟩ := ownsRow_succ hown3; obtain ⟨hq, R3⟩ := (H1.out.alloc _).grewG (gt' := gt ++ [z]) hgrow3 (by unfold OwnI; rw [List.length_append, List.map_append]; exact hown3); have R4 := Lib.hid R3; have d2 := (World.cell?_of_block hq).trans (H1.out.alloc _).c3; have d3 := (World.frozen?_of_block hq).trans ((H1.out.alloc _).fz 3); have B3 : Hid (Below g w2 w3) := Lib.hid (((Below.refl _ w2).alloc (by omega) _).grown hgrow3 (by simp; omega) (fun j hj => by have := (World.ownsRow.lt HOR.out j hj).1; omega)); clear R3 hq hgrow3 hown3)
  all_goals (go_ret)
  all_goals (exact ⟨ret_bool (by first | (simp_all; done) | (simp_all; omega)), (B2.out.trans B3.out).setCell (by simp) _, _, _, _, R4.out⟩)

end Go.Proofs.YtjcmfdgphhonhaaGreatDoor

namespace Go.Proofs.YtjcmfdgphhonhaaGreatDoor
open Go.RowKit
set_option linter.unusedVariables false

/-- An append at a step of a drawn region. -/
theorem step_append_row {P : Program} (w : World) {ops : Array Oper} {o : Oper} {a : Act} {K : Act → World → Prop} {Q : Exit → Act → World → Prop} {E : Prop} (hgd : o.guard = none) (s x : Operand) (t : TypeId)
    (ho : o.op = .call { callee := .builtin .append, args := #[s, x], argTypes := #[t, t] }) (B : Nat) (e : TypeId) (i : TypeInfo) (z : Value) (size bytes : Nat) (ht : P.underlying t = some (.slice e)) (hi : P.info? e = some i) (hz : i.zero = some z)
    (hsize : i.size = size) (hby : i.bytes = bytes) (hzs : z.cells.size = size) (hsz : 0 < size) (v : Value) (n : Nat) (xs : List Value) (hs : a.eval s = v) (hown : w.ownsRow B e size v n xs)
    (ad : Addr) (m c : Nat) (news : List Value) (hx : a.eval x = .slice (some ad) m c) (hl : news.length = m * size) (hnews : ∀ j u, news[j]? = some u → w.cell? (ad.add j) = some u) (h1 : ∀ u ∈ news, u.oneCell' = true)
    (hb : n + m ≤ maxLen) (hbb : (n + m) * bytes ≤ 140737488355328) (hbase : B ≤ w.heap.size)
    (h : ∀ v' w', w'.ownsRow B e size v' (n + m) (xs ++ news) → w.grownBy w' v.ownBlock → K (a.put o.dst v') w') :
    if Region.wanted o (yielded ops a.tmps) = true then Oper.wp P o a w K Q else E := by
  have hw : Region.wanted o (yielded ops a.tmps) = true := by simp [Region.wanted, hgd]
  rw [if_pos hw]
  obtain ⟨v', w', hr, h2, h3, h4, h5⟩ := run_append_own_at (P := P) w B t o.type e i z size bytes ht hi hz hsize hby hzs hsz v n xs hown ad m c news hl hnews h1 hb hbb hbase
  unfold Oper.wp execOp
  simp only [ho, resolve, invoke, builtin, Sem.run_bind, Sem.run_pure, Result.andThen_ok, List.map_toArray, List.map_cons, List.map_nil, hs, hx, hr]
  exact h v' w' h2 h3
theorem row_shape {w : World} {B sz n : Nat} {e : TypeId} {v : Value} {xs : List Value} (h : w.ownsRow B e sz v n xs) : ∃ A c, v = .slice A n c := by
  obtain ⟨_, h⟩ := h
  rcases h with ⟨rfl, hn⟩ | ⟨g, cap, cur, rfl, _⟩
  · exact ⟨none, 0, by rw [hn]⟩
  · exact ⟨_, cap, rfl⟩
theorem news_see {W : World} {B g n c : Nat} {ys : List Txt} (h : SeeV W B (.slice (some ⟨g, 0, none⟩) n c) (ys.map str)) : ∀ j u, (ys.map str)[j]? = some u → W.cell? ((⟨g, 0, none⟩ : Addr).add j) = some u := fun j u hu => by
  obtain ⟨g', o', e, _, hc⟩ := h.at_ hu
  cases e
  rw [add_at]
  exact hc

/-- In the midst of takesSum. -/
def Mid (B g : Nat) (sv : Value) (ss : List Txt) (w : World) (k : Int) (nm : List Txt) (gt : List Int) (op : List Bool) (dp : Nat) (W : World) : Prop := Below g w W ∧ ∃ vn vg vo, Rd B g sv ss W k vn vg vo nm gt op dp
theorem Mid.drewN {B g : Nat} {sv : Value} {ss : List Txt} {w : World} {k : Int} {nm : List Txt} {gt : List Int} {op : List Bool} {dp : Nat} {W : World} (h : Mid B g sv ss w k nm gt op dp W) (n : Nat) : Mid B g sv ss w k nm gt op dp (W.drewN n) := by
  obtain ⟨b, vn, vg, vo, r⟩ := h
  exact ⟨below_drewN b n, vn, vg, vo, r.drewN n⟩

set_option maxRecDepth 100000 in
set_option maxHeartbeats 4000000 in
theorem takesSum_any (B g : Nat) (sv : Value) (ss : List Txt) (w : World) (k : Nat) (vn vg vo : Value) (nm : List Txt) (gt : List Int) (op : List Bool) (dp : Nat) (V : ∀ w', Below g w w' → Vars w') (h : Rd B g sv ss w (k : Int) vn vg vo nm gt op dp) (hn : ss.length ≤ 1048576) (hS : shortS ss) (hnm : nm.length ≤ 4194304) :
    Calls Tryz.prog 204 #[.pointer (some ⟨g, 0, none⟩)] w (RrOut B g sv ss w (.bool (decide (0 ≤ sumEndS ss (k : Int)))) (sumEndS ss (k : Int)) (nm ++ namesS ss (k : Int)) gt op dp) := by
  obtain ⟨i0, hi, hz0, hz1, hz2⟩ := info_parts Tryz.infoStr
  have HV := Lib.hid V
  have hlt := h.lt
  have hlow := h.low
  have hnl : (namesS ss (k : Int)).length ≤ 1048576 := by
    by_cases q : sumEndS ss (k : Int) < 0
    · rw [names_no q]; simp
    · have := names_len (ss := ss) (k := k) (k1 := (sumEndS ss (k : Int)).toNat) (by unfold nnE; rw [if_pos (by omega)])
      have h2 := end_in (ss := ss) (k := k) (k1 := (sumEndS ss (k : Int)).toNat) (by unfold nnE; rw [if_pos (by omega)])
      omega
  have bd : Below w.heap.size w w.drew := (Below.refl _ w).drew
  have HC1 : Hid (Calls Tryz.prog 237 #[sv, .int .i64 (k : Int)] w.drew (PutOut w.heap.size (namesS ss (k : Int)) w.drew)) := Lib.hid (iNamesIn_any B sv ss (k : Int) w.drew (V _ (bd.mono (Nat.le_of_lt hlt))) (h.see.below (bd.mono (by omega))) (by show B ≤ w.heap.size; omega) hS hn)
  have HC2 : Hid (∀ W, Below g w W → SeeV W B sv (ss.map str) → g < W.heap.size → Calls Tryz.prog 238 #[sv, .int .i64 (k : Int)] W (IntLt W (sumEndS ss (k : Int)))) := Lib.hid (fun W b s l => iSumEnd_any B sv ss (k : Int) W (V _ b) s (by omega) hS hn)
  clear V
  generalize namesS ss (k : Int) = ns at hnl HC1 ⊢
  generalize sumEndS ss (k : Int) = z at HC2 ⊢
  have c0 := h.c0
  have c1 := h.c1
  have c2 := h.c2
  obtain ⟨A, c, e⟩ := strs_shape h.see
  subst e
  obtain ⟨An, cn, e⟩ := strs_shape h.names.see
  subst e
  have H := Lib.hid h
  clear h
  go_enter Tryz.func204, Tryz.ntmps204
  go_upto_region 1 with fail
  go_cut [3] from 3 (fun s wc => Mid B g (.slice A ss.length c) ss w (k : Int) (nm ++ ns) gt op dp wc)
  case first =>
    go_region_law (first
      | (go_simp; refine HC1.out.mono ?_; rintro e w1 ⟨g1, k1, rfl, o1, b1⟩; have R1 := Lib.hid (H.out.later (bd.trans b1)); have d0 := R1.out.c0; have d1 := R1.out.c1; have d2 := R1.out.c2; have l1 := R1.out.lt; dsimp only)
      | (refine step_append_row _ (by rfl) _ _ _ (by rfl) (g + 1) 9 i0 (.string ⟨#[]⟩) 1 16 Tryz.underlying24 hi hz0 hz1 hz2 rfl (by decide) _ _ _ (by rfl) R1.out.names ⟨g1, 0, none⟩ ns.length k1 (ns.map str) (by rfl) (by simp) (news_see o1.see) (fun u hu => str_one u _ hu) (by unfold maxLen; simp; omega) (by simp; omega) (by omega) ?_; intro v5 w5 hown5 hgr5; obtain ⟨A5, c5, rfl⟩ := row_shape hown5; obtain ⟨hq, R3⟩ := R1.out.grewN (nm' := nm ++ ns) hgr5 (by unfold OwnV; rw [List.map_append, List.length_append, List.length_map, List.length_map]; rw [List.length_map] at hown5; exact hown5); have R4 := Lib.hid R3; have q2 := (World.cell?_of_block hq).trans R1.out.c2; have q3 := (World.frozen?_of_block hq).trans (R1.out.fz 2); have B5 : Hid (Below g w w5) := Lib.hid (((bd.trans b1).mono (Nat.le_of_lt hlt)).grown hgr5 (by omega) (fun j hj => by have := (R1.out.names.lt j hj).1; omega)); clear R3 hq hgr5 hown5))
    all_goals (
      go_wp2_with fail
      go_meet
      case rel => exact ⟨B5.out.setCell (by simp) _, _, _, _, R4.out⟩)
  case rest =>
    obtain ⟨b2, vn2, vg2, vo2, h2⟩ := hcut
    obtain ⟨An2, cn2, e⟩ := strs_shape h2.names.see
    subst e
    clear c0 c1 c2 HC1
    have c0 := h2.c0
    have c1 := h2.c1
    have l2 := h2.lt
    have f1 := h2.fz 1
    have bd2 : Below wc.heap.size wc wc.drew := (Below.refl _ wc).drew
    have HC : Hid (Calls Tryz.prog 238 #[.slice A ss.length c, .int .i64 (k : Int)] wc.drew (IntLt wc.drew z)) := Lib.hid (HC2.out _ (b2.trans (bd2.mono (Nat.le_of_lt l2))) (h2.see.below (bd2.mono (by omega))) l2)
    have H2 := Lib.hid h2
    clear h2 HC2
    go_upto_region 2 with fail
    go_cut [20] from 20 (fun s wc => Mid B g (.slice A ss.length c) ss w z (nm ++ ns) gt op dp wc)
    case first =>
      go_region_law (go_simp; refine HC.out.mono ?_; rintro e w1 ⟨rfl, b1⟩; have R1 := Lib.hid (H2.out.later (bd2.trans b1)); have d0 := R1.out.c0; have d1 := R1.out.c1; have d2 := R1.out.fz 1; dsimp only)
      all_goals (
        go_wp2_with fail
        go_meet
        case rel => exact ⟨(b2.trans ((bd2.trans b1).mono (Nat.le_of_lt l2))).setCell (by simp) _, _, _, _, R1.out.setAt z⟩)
    case rest =>
      obtain ⟨b3, vn3, vg3, vo3, h3⟩ := hcut
      have d1 := h3.c1
      have H3 := Lib.hid h3
      clear h3
      go_wp2_with fail
      go_ret
      exact ⟨rfl, b3, _, _, _, H3.out⟩

end Go.Proofs.YtjcmfdgphhonhaaGreatDoor

namespace Go.Proofs.YtjcmfdgphhonhaaGreatDoor
open Go.RowKit
set_option linter.unusedVariables false

theorem Tryz.info7b : (Tryz.prog.info? 4).map (fun i => (i.zero, i.size, i.bytes)) = some (some (.bool false), 1, 1) := by kernel_rfl
theorem rev_cons (b : Bool) (op : List Bool) : (b :: op).reverse.map Value.bool = op.reverse.map Value.bool ++ [.bool b] := by rw [List.reverse_cons, List.map_append]; rfl
theorem open_eq (x : Txt) : (x == [91]) = decide (x = wOpen) := by
  by_cases h : x = [91]
  · subst h; decide
  · rw [decide_eq_false h]; simpa using h

set_option maxRecDepth 100000 in
set_option maxHeartbeats 4000000 in
theorem opens_any (B g : Nat) (sv : Value) (ss : List Txt) (w : World) (k : Nat) (vn vg vo : Value) (nm : List Txt) (gt : List Int) (op : List Bool) (dp : Nat) (b : Bool) (h : Rd B g sv ss w (k : Int) vn vg vo nm gt op dp) (hn : ss.length ≤ 1048576) (hop : op.length ≤ 4194304) :
    Calls Tryz.prog 206 #[.pointer (some ⟨g, 0, none⟩), .bool b] w (RrOut B g sv ss w (.bool (decide (sg7 ss k = wOpen))) ((nx ss k : Nat) : Int) nm gt (b :: op) (max dp (op.length + 1))) := by
  obtain ⟨i0, hi, hz0, hz1, hz2⟩ := info_parts Tryz.info7b
  have HNX : Hid (∀ W (vn vg vo : Value), Rd B g sv ss W (k : Int) vn vg vo nm gt (b :: op) (max dp (op.length + 1)) → Calls Tryz.prog 113 #[.pointer (some ⟨g, 0, none⟩)] W (RrOut B g sv ss W (str (sg7 ss k)) ((nx ss k : Nat) : Int) nm gt (b :: op) (max dp (op.length + 1)))) := Lib.hid (fun W vn vg vo hr => next_any B g sv ss W k vn vg vo nm gt (b :: op) _ hr hn)
  have HOE := Lib.hid (open_eq (sg7 ss k))
  rw [← HOE.out]
  generalize sg7 ss k = x at HNX ⊢
  have c4 := h.c4
  have f4 := h.fz 4
  have c5 := h.c5
  have f5 := h.fz 5
  have hlt := h.lt
  have HOR : Hid (w.ownsRow (g + 1) 4 1 vo op.length (op.reverse.map Value.bool)) := Lib.hid (by
    have := h.opens
    unfold OwnV at this
    rwa [List.length_map, List.length_reverse] at this)
  obtain ⟨A, c, e⟩ := row_shape HOR.out
  subst e
  have H1 := Lib.hid h
  clear h
  go_enter Tryz.func206, Tryz.ntmps206
  go_upto_region 2 with (at_builtin; refine wpList_append_own _ rfl _ _ 79 rfl (g + 1) 4 i0 (.bool false) 1 1 Tryz.underlying79 hi hz0 hz1 hz2 rfl (by decide) _ _ _ rfl (World.ownsRow.alloc HOR.out _) ⟨w.heap.size, 0, none⟩ 1 1 [.bool b] rfl rfl (cell_one_new _ _ _) (by simp [Value.oneCell']) (by unfold maxLen; omega) (by omega) (by simp; omega) ?_; intro v3 w3 hown3 hgrow3 hnil3; obtain ⟨g3, c3, rfl⟩ := ownsRow_succ hown3; obtain ⟨hq, R3⟩ := (H1.out.alloc _).grewO (op' := b :: op) hgrow3 (by rw [rev_cons]; unfold OwnV; rw [List.length_append, List.length_map, List.length_reverse]; exact hown3); have R4 := Lib.hid R3; have d2 := (World.cell?_of_block hq).trans (H1.out.alloc _).c4; have d3 := (World.frozen?_of_block hq).trans ((H1.out.alloc _).fz 4); have B3 : Hid (Below g w w3) := Lib.hid (((Below.refl _ w).alloc (by omega) _).grown hgrow3 (by simp; omega) (fun j hj => by have := (World.ownsRow.lt HOR.out j hj).1; omega)); clear R3 hq hgrow3 hown3)
  have B4 : Hid (Below g w (w3.setCell ⟨g, 4, none⟩ (.slice (some ⟨g3, 0, none⟩) (op.length + 1) c3))) := Lib.hid (B3.out.setCell (by simp) _)
  have e4 := R4.out.c4
  have e5 := R4.out.c5
  have e6 := R4.out.fz 5
  generalize w3.setCell ⟨g, 4, none⟩ _ = W at R4 B4 e4 e5 e6 ⊢
  clear c4 f4 c5 f5 d2 d3
  go_cut [15] from 15 (fun s wc => Mid B g sv ss w (k : Int) nm gt (b :: op) (max dp (op.length + 1)) wc)
  case first =>
    go_region
    all_goals (
      go_wp2_with fail
      go_meet
      case rel => exact ⟨(B4.out.setCell (by simp) _).drew, _, _, _, by have q := R4.out.setDeep (max dp (op.length + 1)); rw [show ((max dp (op.length + 1) : Nat) : Int) = max (dp : Int) ((op.length : Int) + 1) by omega] at q; exact q.drewN 1⟩)
  case rest =>
    obtain ⟨b2, vn2, vg2, vo2, h2⟩ := hcut
    have HC := Lib.hid (HNX.out wc vn2 vg2 vo2 h2)
    clear h2 HNX
    go_wp2_with fail
    refine HC.out.mono ?_
    rintro e w5 ⟨rfl, b5, vn5, vg5, vo5, h5⟩
    go_wp2_with fail
    go_ret
    exact ⟨rfl, b2.trans b5, _, _, _, h5⟩

set_option maxHeartbeats 1000000 in
theorem closes_any (B g : Nat) (sv : Value) (ss : List Txt) (w : World) (k : Int) (vn vg vo : Value) (nm : List Txt) (gt : List Int) (op : List Bool) (dp : Nat) (b : Bool) (h : Rd B g sv ss w k vn vg vo nm gt (b :: op) dp) (hop : op.length ≤ 4194304) :
    Calls Tryz.prog 207 #[.pointer (some ⟨g, 0, none⟩)] w (RrOut B g sv ss w (.bool b) k nm gt op dp) := by
  have HOR : w.ownsRow (g + 1) 4 1 vo (op.length + 1) (op.reverse.map Value.bool ++ [.bool b]) := by
    have := h.opens
    rw [rev_cons] at this
    unfold OwnV at this
    rwa [List.length_append, List.length_map, List.length_reverse] at this
  obtain ⟨g3, c3, rfl⟩ := ownsRow_succ HOR
  have c4 := h.c4
  have f4 := h.fz 4
  have hcb : w.cell? ⟨g3, op.length, none⟩ = some (.bool b) := by
    obtain ⟨g', o', e, -, hc⟩ := h.opens.see.at_ (k := op.length) (x := .bool b) (by rw [rev_cons, List.getElem?_append_right (by simp)]; simp)
    cases e
    rwa [Nat.zero_add] at hc
  have hcap : op.length + 1 ≤ c3 := by
    obtain ⟨_, q⟩ := HOR
    rcases q with ⟨q, _⟩ | ⟨g2, cap2, cur, q1, q2, q3, q4, q5⟩
    · cases q
    · injection q1 with e1 e2 e3
      omega
  have HR := Lib.hid (row_cut HOR (j := op.length) (by omega))
  have H2 : Hid (Rd B g sv ss (w.setCell ⟨g, 4, none⟩ (.slice (some ⟨g3, 0, none⟩) op.length c3)) k vn vg (.slice (some ⟨g3, 0, none⟩) op.length c3) nm gt op dp) := Lib.hid (h.setOpen (by
    have q := HR.out
    rw [List.take_left' (by simp)] at q
    unfold OwnV
    rw [List.length_map, List.length_reverse]
    exact q))
  clear h HR HOR
  go_enter Tryz.func207, Tryz.ntmps207
  go_wp2_with fail
  go_ret
  exact ⟨rfl, (Below.refl _ _).setCell (by simp) _, _, _, _, H2.out⟩

end Go.Proofs.YtjcmfdgphhonhaaGreatDoor
