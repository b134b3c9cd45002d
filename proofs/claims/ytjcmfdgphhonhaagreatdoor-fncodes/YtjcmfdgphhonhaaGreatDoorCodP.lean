/- Layer 8 (steps): the program's coder in memory: its reader, its room, its size; what put, leadHere, next, gate do. Condition: the listed variables hold what the program's text lays (Vars). Layer 8 (steps): the program's turnSum, turnSet, turnIn, turnOut. Condition: the listed variables hold what the program's text lays (Vars). Layer 8 (steps): the program's turnBracketed, turnIf, turnWhile, turnDeeds. Condition: the listed variables hold what the program's text lays (Vars). Layer 8 (steps): the program's turnDeeds. Condition: the listed variables hold what the program's text lays (Vars). Layer 8 (steps): the program's code: the ops cut out of the room and copied. No conditions but those typed. Layer 8 (steps): the program's coder as it is made. No conditions but those typed. -/
import Derived.Test.YtjcmfdgphhonhaaGreatDoorDeedP
import Derived.Test.YtjcmfdgphhonhaaGreatDoorCodS
import Derived.Test.YtjcmfdgphhonhaaGreatDoorRdrP
import Derived.Test.YtjcmfdgphhonhaaGreatDoorSumS
import Derived.Test.YtjcmfdgphhonhaaGreatDoorRdrQ
import Derived.Deep.RegionLaw
import Derived.BigRegion
import Derived.Handy
import Derived.Deep.LoopGhost
import Derived.Laws.CopyRow
import Derived.Laws.CopyOwn
import Derived.Laws.MakeOwn
namespace Go.Proofs.YtjcmfdgphhonhaaGreatDoor
open Go.RowKit
set_option linter.unusedVariables false

structure Cd (B g : Nat) (sv : Value) (ss : List Txt) (w : World) (k : Nat) (cs : List Opv) : Prop where
  blk : ∃ cur : Array Value, w.heap[g]? = some (.cells cur 84 (0, 0)) ∧ cur.size = 907 ∧ cur[0]? = some sv ∧ cur[1]? = some (.int .i64 (k : Int)) ∧ cur[906]? = some (.int .i64 (cs.length : Int)) ∧
    ∀ j o, cs[j]? = some o → cur[6 + j * 3]? = some (.int .i64 o.1) ∧ cur[6 + j * 3 + 1]? = some (.int .i64 o.2.1) ∧ cur[6 + j * 3 + 2]? = some (str o.2.2)
  low : B ≤ g
  see : SeeV w B sv (ss.map str)

section
variable {B g : Nat} {sv : Value} {ss : List Txt} {w w1 : World} {k : Nat} {cs : List Opv}
theorem Cd.lt (h : Cd B g sv ss w k cs) : g < w.heap.size := by
  obtain ⟨cur, hb, _⟩ := h.blk
  exact (Array.getElem?_eq_some_iff.1 hb).1
theorem Cd.c0 (h : Cd B g sv ss w k cs) : w.cell? ⟨g, 0, none⟩ = some sv := by
  obtain ⟨cur, hb, _, h0, _⟩ := h.blk
  rw [cell_of_row _ _ 0 _ _ (0, 0) hb]; exact h0
theorem Cd.c1 (h : Cd B g sv ss w k cs) : w.cell? ⟨g, 1, none⟩ = some (.int .i64 (k : Int)) := by
  obtain ⟨cur, hb, _, _, h1, _⟩ := h.blk
  rw [cell_of_row _ _ 1 _ _ (0, 0) hb]; exact h1
theorem Cd.cZ (h : Cd B g sv ss w k cs) : w.cell? ⟨g, 906, none⟩ = some (.int .i64 (cs.length : Int)) := by
  obtain ⟨cur, hb, _, _, _, h1, _⟩ := h.blk
  rw [cell_of_row _ _ 906 _ _ (0, 0) hb]; exact h1
theorem Cd.fz (h : Cd B g sv ss w k cs) (j : Nat) : w.frozen? ⟨g, j, none⟩ = false := by
  obtain ⟨cur, hb, _⟩ := h.blk
  exact frozen_row hb
theorem Cd.any (h : Cd B g sv ss w k cs) {j : Nat} (hj : j < 907) : ∃ u, w.cell? ⟨g, j, none⟩ = some u := by
  obtain ⟨cur, hb, hs, _⟩ := h.blk
  rw [cell_of_row _ _ j _ _ (0, 0) hb]
  exact ⟨cur[j], Array.getElem?_eq_getElem (by omega)⟩
theorem Cd.later (h : Cd B g sv ss w k cs) (b : Below w.heap.size w w1) : Cd B g sv ss w1 k cs := by
  obtain ⟨cur, hb, hr⟩ := h.blk
  exact ⟨⟨cur, (b.block _ h.lt).trans hb, hr⟩, h.low, h.see.below (b.mono (by have := h.lt; have := h.low; omega))⟩
theorem Cd.alloc (h : Cd B g sv ss w k cs) (o : Obj) : Cd B g sv ss (w.alloc o) k cs := h.later ((Below.refl _ w).alloc (Nat.le_refl _) o)
theorem Cd.drewN (h : Cd B g sv ss w k cs) (n : Nat) : Cd B g sv ss (w.drewN n) k cs := ⟨h.blk, h.low, h.see⟩
theorem Cd.seeSet (h : Cd B g sv ss w k cs) (j : Nat) (u : Value) : SeeV (w.setCell ⟨g, j, none⟩ u) B sv (ss.map str) :=
  h.see.keep fun p hp => World.cell?_setCell_other w ⟨g, j, none⟩ p u (fun e => by subst e; have := h.low; simp at hp; omega)
theorem at_set {cur : Array Value} {i j : Nat} {u x : Value} (h : cur[j]? = some x) (hne : i ≠ j) : (cur.setIfInBounds i u)[j]? = some x := by
  rw [Array.getElem?_setIfInBounds_ne hne]; exact h
theorem at_here {cur : Array Value} {i : Nat} {u : Value} (h : i < cur.size) : (cur.setIfInBounds i u)[i]? = some u := Array.getElem?_setIfInBounds_self_of_lt h
theorem Cd.setAt (h : Cd B g sv ss w k cs) (m : Nat) : Cd B g sv ss (w.setCell ⟨g, 1, none⟩ (.int .i64 (m : Int))) m cs := by
  obtain ⟨cur, hb, hs, h0, h1, h2, h3⟩ := h.blk
  refine ⟨⟨_, heap_set hb _, by rw [Array.size_setIfInBounds]; exact hs, at_set h0 (by omega), at_here (by omega), at_set h2 (by omega), fun j o hj => ?_⟩, h.low, h.seeSet _ _⟩
  obtain ⟨a, b, c⟩ := h3 j o hj
  exact ⟨at_set a (by omega), at_set b (by omega), at_set c (by omega)⟩
/-- An op put behind the others. -/
theorem Cd.put (h : Cd B g sv ss w k cs) (hn : cs.length < 300) (o : Opv) :
    Cd B g sv ss ((((w.setCell ⟨g, 6 + cs.length * 3, none⟩ (.int .i64 o.1)).setCell ⟨g, 6 + cs.length * 3 + 1, none⟩ (.int .i64 o.2.1)).setCell ⟨g, 6 + cs.length * 3 + 2, none⟩ (str o.2.2)).setCell ⟨g, 906, none⟩ (.int .i64 ((cs.length + 1 : Nat) : Int))) k (cs ++ [o]) := by
  obtain ⟨cur, hb, hs, h0, h1, h2, h3⟩ := h.blk
  refine ⟨⟨_, heap_set (heap_set (heap_set (heap_set hb _) _) _) _, by simp only [Array.size_setIfInBounds]; exact hs, at_set (at_set (at_set (at_set h0 (by omega)) (by omega)) (by omega)) (by omega), at_set (at_set (at_set (at_set h1 (by omega)) (by omega)) (by omega)) (by omega), ?_, fun j x hj => ?_⟩, h.low, ?_⟩
  · rw [at_here (by simp only [Array.size_setIfInBounds]; omega), List.length_append]; rfl
  · by_cases hl : j < cs.length
    · rw [List.getElem?_append_left hl] at hj
      obtain ⟨a, b, c⟩ := h3 j x hj
      exact ⟨at_set (at_set (at_set (at_set a (by omega)) (by omega)) (by omega)) (by omega), at_set (at_set (at_set (at_set b (by omega)) (by omega)) (by omega)) (by omega), at_set (at_set (at_set (at_set c (by omega)) (by omega)) (by omega)) (by omega)⟩
    · have hj2 := (List.getElem?_eq_some_iff.1 hj).1
      rw [List.length_append] at hj2
      have e : j = cs.length := by simp at hj2; omega
      subst e
      have e2 : x = o := by
        rw [List.getElem?_append_right (Nat.le_refl _), Nat.sub_self] at hj
        simpa using hj.symm
      subst e2
      exact ⟨at_set (at_set (at_set (at_here (by omega)) (by omega)) (by omega)) (by omega), at_set (at_set (at_here (by simp only [Array.size_setIfInBounds]; omega)) (by omega)) (by omega), at_set (at_here (by simp only [Array.size_setIfInBounds]; omega)) (by omega)⟩
  · have hs0 := h.see
    refine SeeV.keep hs0 fun p hp => ?_
    have hne : ∀ j, (⟨g, j, none⟩ : Addr) ≠ p := fun j e => by subst e; have := h.low; simp at hp; omega
    rw [World.cell?_setCell_other _ _ p _ (hne _), World.cell?_setCell_other _ _ p _ (hne _), World.cell?_setCell_other _ _ p _ (hne _), World.cell?_setCell_other _ _ p _ (hne _)]
/-- The number of an op turned. -/
theorem Cd.lead {p q : List Opv} {o : Opv} (h : Cd B g sv ss w k cs) (hc : cs = p ++ o :: q) (z : Int) (hl : p.length < 300) : Cd B g sv ss (w.setCell ⟨g, 6 + p.length * 3 + 1, none⟩ (.int .i64 z)) k (p ++ (o.1, z, o.2.2) :: q) := by
  obtain ⟨cur, hb, hs, h0, h1, h2, h3⟩ := h.blk
  have hs2 : cs.set p.length (o.1, z, o.2.2) = p ++ (o.1, z, o.2.2) :: q := by rw [hc]; simp
  have hlen : (p ++ (o.1, z, o.2.2) :: q).length = cs.length := by rw [← hs2, List.length_set]
  refine ⟨⟨_, heap_set hb _, by rw [Array.size_setIfInBounds]; exact hs, at_set h0 (by omega), at_set h1 (by omega), ?_, fun j x hj => ?_⟩, h.low, h.seeSet _ _⟩
  · rw [hlen]; exact at_set h2 (by omega)
  · rw [← hs2] at hj
    by_cases e : j = p.length
    · subst e
      have hk : cs[p.length]? = some o := by rw [hc]; simp
      obtain ⟨a, b, c⟩ := h3 _ o hk
      have hlt := (List.getElem?_eq_some_iff.1 hk).1
      rw [List.getElem?_set_self hlt] at hj
      injection hj with hj
      subst hj
      exact ⟨at_set a (by omega), at_here (by omega), at_set c (by omega)⟩
    · rw [List.getElem?_set_ne (fun q => e q.symm)] at hj
      obtain ⟨a, b, c⟩ := h3 _ x hj
      exact ⟨at_set a (by omega), at_set b (by omega), at_set c (by omega)⟩
end

/-- The coder behind a call. -/
def CdOut (B g : Nat) (sv : Value) (ss : List Txt) (w : World) (r : Value) (k : Nat) (cs : List Opv) (e : Ending) (w' : World) : Prop := e = .returned r ∧ Below g w w' ∧ Cd B g sv ss w' k cs

set_option maxRecDepth 100000 in
set_option maxHeartbeats 4000000 in
theorem put_any (B g : Nat) (sv : Value) (ss : List Txt) (w : World) (k : Nat) (cs : List Opv) (o : Opv) (h : Cd B g sv ss w k cs) (hn : cs.length < 300) :
    Calls Tryz.prog 55 #[.pointer (some ⟨g, 0, none⟩), .agg #[.int .i64 o.1, .int .i64 o.2.1, str o.2.2]] w (CdOut B g sv ss w (.int .i64 (cs.length : Int)) k (cs ++ [o])) := by
  have h1 := h.alloc (.cells #[.int .i64 o.1, .int .i64 o.2.1, str o.2.2] 30)
  have HP := Lib.hid ((h.put hn o).alloc (.cells #[.int .i64 o.1, .int .i64 o.2.1, str o.2.2] 30))
  have hlt := h.lt
  have cS := h1.cZ
  obtain ⟨u0, e0⟩ := h.any (j := 6 + cs.length * 3) (by omega)
  obtain ⟨u1, e1⟩ := h.any (j := 6 + cs.length * 3 + 1) (by omega)
  obtain ⟨u2, e2⟩ := h.any (j := 6 + cs.length * 3 + 2) (by omega)
  have e3 := h.cZ
  have d0 := (World.cell?_alloc_lt w (.cells #[.int .i64 o.1, .int .i64 o.2.1, str o.2.2] 30) ⟨g, 6 + cs.length * 3, none⟩ hlt).trans e0
  have d1 := (World.cell?_alloc_lt w (.cells #[.int .i64 o.1, .int .i64 o.2.1, str o.2.2] 30) ⟨g, 6 + cs.length * 3 + 1, none⟩ hlt).trans e1
  have d2 := (World.cell?_alloc_lt w (.cells #[.int .i64 o.1, .int .i64 o.2.1, str o.2.2] 30) ⟨g, 6 + cs.length * 3 + 2, none⟩ hlt).trans e2
  have f0 := h1.fz (6 + cs.length * 3)
  have f1 := h1.fz (6 + cs.length * 3 + 1)
  have f2 := h1.fz (6 + cs.length * 3 + 2)
  have f3 := h1.fz 906
  have k0 := h.fz (6 + cs.length * 3)
  have k1 := h.fz (6 + cs.length * 3 + 1)
  have k2 := h.fz (6 + cs.length * 3 + 2)
  have k3 := h.fz 906
  have n0 : ¬ 6 + cs.length * 3 = 906 := by omega
  have n1 : ¬ 6 + cs.length * 3 + 1 = 906 := by omega
  have n2 : ¬ 6 + cs.length * 3 + 2 = 906 := by omega
  have hi : (0 : Int) ≤ (cs.length : Int) ∧ (cs.length : Int) < 300 := by omega
  clear h h1
  obtain ⟨o1, o2, o3⟩ := o
  dsimp only at *
  go_enter Tryz.func55, Tryz.ntmps55
  go_wp2_with fail
  go_region
  go_wp2_with fail
  go_ret
  exact ⟨rfl, (((((((Below.refl g w).setCell (by simp) _).setCell (by simp) _).setCell (by simp) _).setCell (by simp) _).alloc (by simp; omega) _)).drew, HP.out.drewN 1⟩

set_option maxRecDepth 100000 in
set_option maxHeartbeats 4000000 in
theorem leadHere_any (B g : Nat) (sv : Value) (ss : List Txt) (w : World) (k : Nat) (cs p q : List Opv) (o : Opv) (h : Cd B g sv ss w k cs) (hc : cs = p ++ o :: q) (hn : cs.length ≤ 300) :
    Calls Tryz.prog 174 #[.pointer (some ⟨g, 0, none⟩), .int .i64 (p.length : Int)] w (CdOut B g sv ss w (.tuple #[]) k (p ++ (o.1, (cs.length : Int), o.2.2) :: q)) := by
  have hl : p.length < 300 := by have : cs.length = p.length + (q.length + 1) := by rw [hc]; simp
                                 omega
  have HP := Lib.hid (h.lead hc (cs.length : Int) hl)
  have hlt := h.lt
  have e3 := h.cZ
  obtain ⟨u1, e1⟩ := h.any (j := 6 + p.length * 3 + 1) (by omega)
  have k1 := h.fz (6 + p.length * 3 + 1)
  have hi : (0 : Int) ≤ (p.length : Int) ∧ (p.length : Int) < 300 := by omega
  clear h hc
  go_enter Tryz.func174, Tryz.ntmps174
  go_wp2_with fail
  go_region
  go_wp2_with fail
  go_returns
  exact ⟨rfl, ((Below.refl g w).setCell (by simp) _).drew, HP.out.drewN 1⟩

set_option maxHeartbeats 1000000 in
theorem cdEnd_any (B g : Nat) (sv : Value) (ss : List Txt) (w : World) (k : Nat) (cs : List Opv) (h : Cd B g sv ss w k cs) (hn : ss.length ≤ 1048576) :
    Calls Tryz.prog 167 #[.pointer (some ⟨g, 0, none⟩)] w (BoolLt w (decide (ss.length ≤ k))) := by
  obtain ⟨A, c, e⟩ := strs_shape h.see
  subst e
  have c0 := h.c0
  have c1 := h.c1
  clear h
  go_enter Tryz.func167, Tryz.ntmps167
  go_wp2_with fail
  go_quiet (fail)
  go_wp2_with fail
  go_ret
  exact ⟨ret_bool (by simp), below_drewN (Below.refl _ _) _⟩

set_option maxHeartbeats 1000000 in
theorem cdNext_any (B g : Nat) (sv : Value) (ss : List Txt) (w : World) (k : Nat) (cs : List Opv) (h : Cd B g sv ss w k cs) (hn : ss.length ≤ 1048576) :
    Calls Tryz.prog 113 #[.pointer (some ⟨g, 0, none⟩)] w (CdOut B g sv ss w (str (sg7 ss k)) (nx ss k) cs) := by
  obtain ⟨A, c, e⟩ := strs_shape h.see
  subst e
  by_cases hlt : k < ss.length
  · have hx := List.getElem?_eq_getElem hlt
    generalize ss[k] = x at hx
    have HE : Hid (sg7 ss k = x) := Lib.hid (sg7_some hx)
    have HN : Hid (nx ss k = k + 1) := Lib.hid (nx_in hlt)
    have HD : Hid (decide (ss.length ≤ k) = false) := Lib.hid (by simp; omega)
    rw [HE.out, HN.out]
    go_enter Tryz.func113, Tryz.ntmps113
    go_wp2_with fail
    refine (cdEnd_any B g _ ss _ k cs h hn).mono ?_
    rintro e w1 ⟨rfl, b1⟩
    rw [HD.out]
    have h1 := h.later b1
    obtain ⟨gs, os, e0, -, hcx⟩ := strs_at h1.see hx
    subst e0
    have c0 := h1.c0
    have c1 := h1.c1
    have f1 := h1.fz 1
    have HH := Lib.hid (fun n => (h1.drewN n).setAt (k + 1))
    have HB : Hid (Below g w w1) := Lib.hid (b1.mono (Nat.le_of_lt h.lt))
    clear h h1 hx b1
    go_wp2_with fail
    go_quiet (fail)
    go_wp2_with fail
    go_ret
    exact ⟨rfl, (below_drewN HB.out _).setCell (by simp) _, HH.out _⟩
  · have HE : Hid (sg7 ss k = []) := Lib.hid (sg7_out (by omega))
    have HN : Hid (nx ss k = k) := Lib.hid (nx_out hlt)
    have HD : Hid (decide (ss.length ≤ k) = true) := Lib.hid (by simp; omega)
    rw [HE.out, HN.out]
    go_enter Tryz.func113, Tryz.ntmps113
    go_wp2_with fail
    refine (cdEnd_any B g _ ss _ k cs h hn).mono ?_
    rintro e w1 ⟨rfl, b1⟩
    rw [HD.out]
    have HH := Lib.hid (h.later b1)
    have HB : Hid (Below g w w1) := Lib.hid (b1.mono (Nat.le_of_lt h.lt))
    clear h b1
    go_wp2_with fail
    go_ret
    exact ⟨rfl, HB.out, HH.out⟩

set_option maxHeartbeats 1000000 in
theorem cdGate_any (B g : Nat) (sv : Value) (ss : List Txt) (w : World) (k j : Nat) (cs : List Opv) (V : ∀ w', Below g w w' → Vars w') (h : Cd B g sv ss w k cs) (hn : ss.length ≤ 1048576) (hS : shortS ss) (hj : gateN (sg7 ss k) = some j) :
    Calls Tryz.prog 172 #[.pointer (some ⟨g, 0, none⟩)] w (CdOut B g sv ss w (.int .i64 (j : Int)) (k + 1) cs) := by
  have hk := sg7_in (ss := ss) (k := k) (fun q => by rw [q, gateN_nil] at hj; cases hj)
  have hsx := sg7_short hS k
  have HNX := Lib.hid (cdNext_any B g sv ss w k cs h hn)
  rw [nx_in hk] at HNX
  have hz : (gz (sg7 ss k), (rdS (sg7 ss k)).isSome) = ((j : Int), true) := by rw [gz_gate hj, gate_rd hj]; rfl
  have HRW : Hid (∀ w1, Below g w w1 → Calls Tryz.prog 213 #[str (sg7 ss k)] w1 fun e w' => e = .returned (.tuple #[.int .i64 (j : Int), .bool true]) ∧ Below w1.heap.size w1 w') := Lib.hid (fun w1 b1 => by
    injection hz with e1 e2
    have := iReadWord_any (sg7 ss k) hsx w1 (V _ b1)
    rw [← e1, ← e2]
    exact this)
  clear hz hj
  generalize sg7 ss k = x at hsx HNX HRW
  go_enter Tryz.func172, Tryz.ntmps172
  go_wp2_with fail
  refine HNX.out.mono ?_
  rintro e w1 ⟨rfl, b1, h1⟩
  go_wp2_with fail
  refine (HRW.out _ b1).mono ?_
  rintro e w2 ⟨rfl, b2⟩
  go_wp2_with fail
  go_ret
  exact ⟨rfl, b1.trans (b2.mono (Nat.le_of_lt h1.lt)), h1.later b2⟩

end Go.Proofs.YtjcmfdgphhonhaaGreatDoor

namespace Go.Proofs.YtjcmfdgphhonhaaGreatDoor
open Go.RowKit
set_option linter.unusedVariables false
set_option linter.unusedSectionVars false

/-- The program's turnSum is right at a sum. -/
def TurnGood (ss : List Txt) (t : Sum) : Prop := ∀ (B g k : Nat) (sv : Value) (cs : List Opv) (w : World), SumAt ss k t → Cd B g sv ss w k cs → (∀ w', Below g w w' → Vars w') → cs.length + t.flat.length ≤ 300 →
  Calls Tryz.prog 171 #[.pointer (some ⟨g, 0, none⟩)] w (CdOut B g sv ss w (.tuple #[]) (k + t.flat.length) (cs ++ codeT t))
theorem vars_then {g : Nat} {w w1 : World} (V : ∀ w', Below g w w' → Vars w') (b : Below g w w1) : ∀ w', Below g w1 w' → Vars w' := fun w' b' => V w' (b.trans b')

set_option maxHeartbeats 4000000 in
theorem turnSum_leaf (ss : List Txt) (hS : shortS ss) (hn : ss.length ≤ 1048576) (s : Txt) : TurnGood ss (.leaf s) := by
  intro B g k sv cs w ht h V hl
  obtain ⟨hxs, hop, hlf⟩ := at_leaf ht
  have hk : k < ss.length := (List.getElem?_eq_some_iff.1 hxs).1
  have hsx := hS s (List.mem_of_getElem? hxs)
  have HK : Hid (k + (Sum.leaf s).flat.length = k + 1) := Lib.hid rfl
  rw [HK.out]
  replace hl : cs.length + 1 ≤ 300 := hl
  have HNX := Lib.hid (cdNext_any B g sv ss w k cs h hn)
  rw [nx_in hk, sg7_some hxs] at HNX
  have HSH : Hid (∀ w1, Below g w w1 → Calls Tryz.prog 212 #[str s] w1 (ValLt w1 (shapeV s))) := Lib.hid (fun w1 b1 => shape_any s hsx _ (V _ b1))
  clear hxs h
  cases hr : rdS s with
  | some y =>
    have HC : Hid (codeT (.leaf s) = [(1, y, [])]) := Lib.hid (by rw [codeT, hr])
    have hnm : nameB s = false := by
      cases q : nameB s with
      | false => rfl
      | true => rw [name_no_word q] at hr; cases hr
    rw [shape_word hop hnm hr] at HSH
    rw [HC.out]
    have qw := as_ww
    have qn := as_wn
    have qo := as_wo
    clear hnm hr hop hlf ht HC
    go_enter Tryz.func171, Tryz.ntmps171
    go_wp2_with fail
    refine HNX.out.mono ?_
    rintro e w1 ⟨rfl, b1, h1⟩
    go_wp2_with fail
    refine (HSH.out _ b1).mono ?_
    rintro e w2 ⟨rfl, b2⟩
    have B2 := Lib.hid (b1.trans (b2.mono (Nat.le_of_lt h1.lt)))
    have H2 := Lib.hid (put_any B g sv ss w2 (k + 1) cs (1, y, []) (h1.later b2) (by omega))
    clear h1 b2 b1
    go_wp2_with fail
    refine H2.out.mono ?_
    rintro e w3 ⟨rfl, b3, h3⟩
    go_wp2_with fail
    go_returns
    exact ⟨rfl, B2.out.trans b3, h3⟩
  | none =>
    have HC : Hid (codeT (.leaf s) = [(2, 0, s)]) := Lib.hid (by rw [codeT, hr])
    have hnm : nameB s = true := by
      unfold leafB at hlf
      rw [hr] at hlf
      simpa using hlf
    rw [shape_name hop hnm] at HSH
    rw [HC.out]
    have qw := as_nw
    have qn := as_nn
    have qo := as_no
    clear hnm hr hop hlf ht HC
    go_enter Tryz.func171, Tryz.ntmps171
    go_wp2_with fail
    refine HNX.out.mono ?_
    rintro e w1 ⟨rfl, b1, h1⟩
    go_wp2_with fail
    refine (HSH.out _ b1).mono ?_
    rintro e w2 ⟨rfl, b2⟩
    have B2 := Lib.hid (b1.trans (b2.mono (Nat.le_of_lt h1.lt)))
    have H2 := Lib.hid (put_any B g sv ss w2 (k + 1) cs (2, 0, s) (h1.later b2) (by omega))
    clear h1 b2 b1
    go_wp2_with fail
    refine H2.out.mono ?_
    rintro e w3 ⟨rfl, b3, h3⟩
    go_wp2_with fail
    go_returns
    exact ⟨rfl, B2.out.trans b3, h3⟩

set_option maxHeartbeats 4000000 in
theorem turnSum_op (ss : List Txt) (hS : shortS ss) (hn : ss.length ≤ 1048576) (s : Txt) (a b : Sum) (ia : TurnGood ss a) (ib : TurnGood ss b) : TurnGood ss (.op s a b) := by
  intro B g k sv cs w ht h V hl
  obtain ⟨hxs, hop, ha, hb⟩ := at_op ht
  have hk : k < ss.length := (List.getElem?_eq_some_iff.1 hxs).1
  have hsx := hS s (List.mem_of_getElem? hxs)
  have HK : Hid (k + (Sum.op s a b).flat.length = k + 1 + a.flat.length + b.flat.length) := Lib.hid (by simp [Sum.flat]; omega)
  have HC : Hid (cs ++ codeT (.op s a b) = cs ++ codeT a ++ codeT b ++ [(3, opN s, [])]) := Lib.hid (by simp [codeT])
  rw [HK.out, HC.out]
  replace hl : cs.length + (a.flat.length + b.flat.length + 1) ≤ 300 := by simpa [Sum.flat] using hl
  have HNX := Lib.hid (cdNext_any B g sv ss w k cs h hn)
  rw [nx_in hk, sg7_some hxs] at HNX
  have HSH : Hid (∀ w1, Below g w w1 → Calls Tryz.prog 212 #[str s] w1 (ValLt w1 (shapeV s))) := Lib.hid (fun w1 b1 => shape_any s hsx _ (V _ b1))
  rw [shape_op hop] at HSH
  have hla : (codeT a).length = a.flat.length := codeT_len a
  have hlb : (codeT b).length = b.flat.length := codeT_len b
  have HIA := Lib.hid (fun W x1 x2 => ia B g (k + 1) sv cs W ha x1 x2 (by omega))
  have HIB := Lib.hid (fun W x1 x2 => ib B g (k + 1 + a.flat.length) sv (cs ++ codeT a) W hb x1 x2 (by simp; omega))
  clear hxs h ha hb ht ia ib
  have qw := as_ow
  have qn := as_on
  have qo := as_oo
  have hl3 : (cs ++ codeT a ++ codeT b).length < 300 := by simp; omega
  clear hop hla hlb
  generalize opN s = op at HSH ⊢
  generalize hx3 : cs ++ codeT a ++ codeT b = x3 at HIB hl3 ⊢
  generalize cs ++ codeT a = x2 at HIA HIB hx3
  generalize a.flat.length = la at *
  generalize b.flat.length = lb at *
  have V' := Lib.hid V
  clear V hx3
  go_enter Tryz.func171, Tryz.ntmps171
  go_wp2_with fail
  refine HNX.out.mono ?_
  rintro e w1 ⟨rfl, b1, h1⟩
  go_wp2_with fail
  refine (HSH.out _ b1).mono ?_
  rintro e w2 ⟨rfl, b2⟩
  have B2 := Lib.hid (b1.trans (b2.mono (Nat.le_of_lt h1.lt)))
  have H2 := Lib.hid (h1.later b2)
  clear h1 b2 b1
  go_wp2_with fail
  refine (HIA.out _ H2.out (vars_then V'.out B2.out)).mono ?_
  rintro e w3 ⟨rfl, b3, h3⟩
  have B3 := Lib.hid (B2.out.trans b3)
  have H3 := Lib.hid h3
  clear b3 h3
  go_wp2_with fail
  refine (HIB.out _ H3.out (vars_then V'.out B3.out)).mono ?_
  rintro e w4 ⟨rfl, b4, h4⟩
  have B4 := Lib.hid (B3.out.trans b4)
  have H4 := Lib.hid (put_any B g sv ss w4 (k + 1 + la + lb) x3 (3, op, []) h4 hl3)
  clear b4 h4
  go_wp2_with fail
  refine H4.out.mono ?_
  rintro e w5 ⟨rfl, b5, h5⟩
  go_wp2_with fail
  go_returns
  exact ⟨rfl, B4.out.trans b5, h5⟩
theorem turnSum_good (ss : List Txt) (hS : shortS ss) (hn : ss.length ≤ 1048576) : ∀ t : Sum, TurnGood ss t
  | .leaf s => turnSum_leaf ss hS hn s
  | .op s a b => turnSum_op ss hS hn s a b (turnSum_good ss hS hn a) (turnSum_good ss hS hn b)

section
variable (ss : List Txt) (hS : shortS ss) (hn : ss.length ≤ 1048576)
include hS hn

set_option maxHeartbeats 4000000 in
theorem turnSet_any (B g k : Nat) (sv : Value) (cs : List Opv) (t : Sum) (w : World) (h2 : SumAt ss (k + 1) t) (h : Cd B g sv ss w k cs) (V : ∀ w', Below g w w' → Vars w') (hl : cs.length + t.flat.length + 1 ≤ 300) :
    Calls Tryz.prog 114 #[.pointer (some ⟨g, 0, none⟩)] w (CdOut B g sv ss w (.tuple #[]) (k + 1 + t.flat.length) (cs ++ (codeT t ++ [(4, 0, sg7 ss k)]))) := by
  have hp := t.pos
  have hsl := sum_len h2
  have HNX := Lib.hid (cdNext_any B g sv ss w k cs h hn)
  rw [nx_in (by omega)] at HNX
  have hlt := codeT_len t
  have HS := Lib.hid (fun W x1 x2 => turnSum_good ss hS hn t B g (k + 1) sv cs W h2 x1 x2 (by omega))
  have hl2 : (cs ++ codeT t).length < 300 := by simp; omega
  rw [← List.append_assoc]
  generalize cs ++ codeT t = x2 at HS hl2 ⊢
  generalize sg7 ss k = x at HNX ⊢
  generalize t.flat.length = lt at *
  have V' := Lib.hid V
  clear V h h2 hlt
  go_enter Tryz.func114, Tryz.ntmps114
  go_wp2_with fail
  refine HNX.out.mono ?_
  rintro e w1 ⟨rfl, b1, h1⟩
  have B1 := Lib.hid b1
  have H1 := Lib.hid h1
  clear b1 h1
  go_wp2_with fail
  refine (HS.out _ H1.out (vars_then V'.out B1.out)).mono ?_
  rintro e w2 ⟨rfl, b2, h2⟩
  have B2 := Lib.hid (B1.out.trans b2)
  have H2 := Lib.hid (put_any B g sv ss w2 (k + 1 + lt) x2 (4, 0, x) h2 hl2)
  clear b2 h2
  go_wp2_with fail
  refine H2.out.mono ?_
  rintro e w5 ⟨rfl, b5, h5⟩
  go_wp2_with fail
  go_returns
  exact ⟨rfl, B2.out.trans b5, h5⟩

set_option maxHeartbeats 4000000 in
theorem turnIn_any (B g k j : Nat) (sv : Value) (cs : List Opv) (w : World) (hj : gateN (sg7 ss (k + 1)) = some j) (h : Cd B g sv ss w k cs) (V : ∀ w', Below g w w' → Vars w') (hl : cs.length + 1 ≤ 300) :
    Calls Tryz.prog 115 #[.pointer (some ⟨g, 0, none⟩)] w (CdOut B g sv ss w (.tuple #[]) (k + 2) (cs ++ [(5, (j : Int), sg7 ss k)])) := by
  have hk := sg7_in (ss := ss) (k := k + 1) (fun q => by rw [q, gateN_nil] at hj; cases hj)
  have HNX := Lib.hid (cdNext_any B g sv ss w k cs h hn)
  rw [nx_in (by omega)] at HNX
  have HG := Lib.hid (fun W x1 x2 => cdGate_any B g sv ss W (k + 1) j cs x1 x2 hn hS hj)
  generalize sg7 ss k = x at HNX ⊢
  have V' := Lib.hid V
  clear V h hj
  go_enter Tryz.func115, Tryz.ntmps115
  go_wp2_with fail
  refine HNX.out.mono ?_
  rintro e w1 ⟨rfl, b1, h1⟩
  have B1 := Lib.hid b1
  have H1 := Lib.hid h1
  clear b1 h1
  go_wp2_with fail
  refine (HG.out _ (vars_then V'.out B1.out) H1.out).mono ?_
  rintro e w2 ⟨rfl, b2, h2⟩
  have B2 := Lib.hid (B1.out.trans b2)
  have H2 := Lib.hid (put_any B g sv ss w2 (k + 2) cs (5, (j : Int), x) h2 (by omega))
  clear b2 h2
  go_wp2_with fail
  refine H2.out.mono ?_
  rintro e w5 ⟨rfl, b5, h5⟩
  go_wp2_with fail
  go_returns
  exact ⟨rfl, B2.out.trans b5, h5⟩

set_option maxHeartbeats 4000000 in
theorem turnOut_any (B g k j : Nat) (sv : Value) (cs : List Opv) (t : Sum) (w : World) (hj : gateN (sg7 ss k) = some j) (h2 : SumAt ss (k + 1) t) (h : Cd B g sv ss w k cs) (V : ∀ w', Below g w w' → Vars w') (hl : cs.length + t.flat.length + 1 ≤ 300) :
    Calls Tryz.prog 116 #[.pointer (some ⟨g, 0, none⟩)] w (CdOut B g sv ss w (.tuple #[]) (k + 1 + t.flat.length) (cs ++ (codeT t ++ [(6, (j : Int), [])]))) := by
  have HG := Lib.hid (cdGate_any B g sv ss w k j cs V h hn hS hj)
  have hlt := codeT_len t
  have HS := Lib.hid (fun W x1 x2 => turnSum_good ss hS hn t B g (k + 1) sv cs W h2 x1 x2 (by omega))
  have hl2 : (cs ++ codeT t).length < 300 := by simp; omega
  rw [← List.append_assoc]
  generalize cs ++ codeT t = x2 at HS hl2 ⊢
  generalize t.flat.length = lt at *
  have V' := Lib.hid V
  clear V h h2 hlt hj
  go_enter Tryz.func116, Tryz.ntmps116
  go_wp2_with fail
  refine HG.out.mono ?_
  rintro e w1 ⟨rfl, b1, h1⟩
  have B1 := Lib.hid b1
  have H1 := Lib.hid h1
  clear b1 h1
  go_wp2_with fail
  refine (HS.out _ H1.out (vars_then V'.out B1.out)).mono ?_
  rintro e w2 ⟨rfl, b2, h2⟩
  have B2 := Lib.hid (B1.out.trans b2)
  have H2 := Lib.hid (put_any B g sv ss w2 (k + 1 + lt) x2 (6, (j : Int), []) h2 hl2)
  clear b2 h2
  go_wp2_with fail
  refine H2.out.mono ?_
  rintro e w5 ⟨rfl, b5, h5⟩
  go_wp2_with fail
  go_returns
  exact ⟨rfl, B2.out.trans b5, h5⟩
end

end Go.Proofs.YtjcmfdgphhonhaaGreatDoor

namespace Go.Proofs.YtjcmfdgphhonhaaGreatDoor
open Go.RowKit
set_option linter.unusedVariables false
set_option linter.unusedSectionVars false

/-- The program's turnDeeds is right at deeds of at most L signs. -/
def DeedsGood (ss : List Txt) (L : Nat) : Prop := ∀ (B g k m : Nat) (sv : Value) (cs ds : List Opv) (w : World), m < k + L → Turn ss k m cs.length ds → headB (sg7 ss m) = false → Cd B g sv ss w k cs → (∀ w', Below g w w' → Vars w') → cs.length + ds.length ≤ 300 →
  Calls Tryz.prog 54 #[.pointer (some ⟨g, 0, none⟩)] w (CdOut B g sv ss w (.tuple #[]) (nx ss m) (cs ++ ds))
def BrackGood (ss : List Txt) (L : Nat) : Prop := ∀ (B g k m : Nat) (sv : Value) (cs ds : List Opv) (w : World), m < k + 1 + L → Turn ss (k + 1) m cs.length ds → sg7 ss m = wShut → Cd B g sv ss w k cs → (∀ w', Below g w w' → Vars w') → cs.length + ds.length ≤ 300 →
  Calls Tryz.prog 173 #[.pointer (some ⟨g, 0, none⟩)] w (CdOut B g sv ss w (.tuple #[]) (m + 1) (cs ++ ds))

section
variable (ss : List Txt) (hS : shortS ss) (hn : ss.length ≤ 1048576)
include hS hn

set_option maxHeartbeats 4000000 in
theorem brack_good (L : Nat) (hd : DeedsGood ss L) : BrackGood ss L := by
  intro B g k m sv cs ds w hm ht hs h V hl
  have hmn := sg7_in (ss := ss) (k := m) (by rw [hs]; simp)
  have hle := ht.len
  have HNX := Lib.hid (cdNext_any B g sv ss w k cs h hn)
  rw [nx_in (by omega)] at HNX
  have HD := Lib.hid (fun W x1 x2 => hd B g (k + 1) m sv cs ds W hm ht (shut_head hs) x1 x2 hl)
  rw [nx_in hmn] at HD
  generalize cs ++ ds = x2 at HD ⊢
  generalize sg7 ss k = x at HNX
  have V' := Lib.hid V
  clear V h ht hs
  go_enter Tryz.func173, Tryz.ntmps173
  go_wp2_with fail
  refine HNX.out.mono ?_
  rintro e w1 ⟨rfl, b1, h1⟩
  have B1 := Lib.hid b1
  have H1 := Lib.hid h1
  clear b1 h1
  go_wp2_with fail
  refine (HD.out _ H1.out (vars_then V'.out B1.out)).mono ?_
  rintro e w2 ⟨rfl, b2, h2⟩
  go_wp2_with fail
  go_returns
  exact ⟨rfl, B1.out.trans b2, h2⟩

set_option maxHeartbeats 4000000 in
theorem turnWhile_any (L : Nat) (hb : BrackGood ss L) (B g k m : Nat) (sv : Value) (cs ds : List Opv) (t : Sum) (w : World) (hm : m < k + 1 + L) (h2 : SumAt ss k t) (ht : Turn ss (k + t.flat.length + 1) m (cs.length + t.flat.length + 1) ds) (hs : sg7 ss m = wShut) (h : Cd B g sv ss w k cs) (V : ∀ w', Below g w w' → Vars w') (hl : cs.length + (t.flat.length + ds.length + 2) ≤ 300) :
    Calls Tryz.prog 118 #[.pointer (some ⟨g, 0, none⟩)] w (CdOut B g sv ss w (.tuple #[]) (m + 1) (cs ++ (codeT t ++ (8, ((cs.length + t.flat.length + 1 + ds.length + 1 : Nat) : Int), []) :: (ds ++ [(7, (cs.length : Int), [])])))) := by
  have hlt := codeT_len t
  have hpo := t.pos
  have HS := Lib.hid (fun W x1 x2 => turnSum_good ss hS hn t B g k sv cs W h2 x1 x2 (by omega))
  have hl2 : (cs ++ codeT t).length = cs.length + t.flat.length := by simp; omega
  have HB := Lib.hid (fun W x1 x2 => hb B g (k + t.flat.length) m sv (cs ++ codeT t ++ [(8, 0, [])]) ds W (by omega) (ht.at_ (by simp; omega)) hs x1 x2 (by simp; omega))
  have HL := Lib.hid (fun W x1 => leadHere_any B g sv ss W (m + 1) (cs ++ codeT t ++ [(8, 0, [])] ++ ds ++ [(7, (cs.length : Int), [])]) (cs ++ codeT t) (ds ++ [(7, (cs.length : Int), [])]) (8, 0, []) x1 (by simp) (by simp; omega))
  have HP1 := Lib.hid (fun W x1 => put_any B g sv ss W (k + t.flat.length) (cs ++ codeT t) (8, 0, []) x1 (by omega))
  have HP2 := Lib.hid (fun W x1 => put_any B g sv ss W (m + 1) (cs ++ codeT t ++ [(8, 0, [])] ++ ds) (7, (cs.length : Int), []) x1 (by simp; omega))
  have HZ : Hid (cs ++ codeT t ++ ((8 : Int), ((cs ++ codeT t ++ [((8 : Int), (0 : Int), ([] : Txt))] ++ ds ++ [((7 : Int), (cs.length : Int), ([] : Txt))]).length : Int), ([] : Txt)) :: (ds ++ [((7 : Int), (cs.length : Int), ([] : Txt))]) = cs ++ (codeT t ++ (8, ((cs.length + t.flat.length + 1 + ds.length + 1 : Nat) : Int), []) :: (ds ++ [(7, (cs.length : Int), [])]))) := Lib.hid (by
    rw [List.append_assoc]
    congr 4
    simp only [List.length_append, List.length_cons, List.length_nil, hlt])
  rw [← HZ.out]
  dsimp only at HL
  have cZ := h.cZ
  have HH := Lib.hid h
  have V' := Lib.hid V
  clear V h h2 ht hs HZ
  generalize ((cs ++ codeT t ++ [((8 : Int), (0 : Int), ([] : Txt))] ++ ds ++ [((7 : Int), (cs.length : Int), ([] : Txt))]).length : Int) = zz at HL ⊢
  generalize cs ++ codeT t ++ [((8 : Int), (0 : Int), ([] : Txt))] ++ ds ++ [((7 : Int), (cs.length : Int), ([] : Txt))] = x5 at HP2 HL
  generalize cs ++ codeT t ++ [((8 : Int), (0 : Int), ([] : Txt))] ++ ds = x4 at HP2 HB
  generalize cs ++ codeT t ++ [((8 : Int), (0 : Int), ([] : Txt))] = x3 at HP1 HB
  generalize cs ++ codeT t ++ ((8 : Int), zz, ([] : Txt)) :: (ds ++ [((7 : Int), (cs.length : Int), ([] : Txt))]) = x6 at HL ⊢
  clear hl2
  generalize cs ++ codeT t = x2 at HS HP1 HL
  generalize t.flat.length = lt at *
  go_enter Tryz.func118, Tryz.ntmps118
  go_wp2_with fail
  refine (HS.out _ HH.out V'.out).mono ?_
  rintro e w1 ⟨rfl, b1, h1⟩
  have B1 := Lib.hid b1
  have H1 := Lib.hid h1
  clear b1 h1 cZ
  go_wp2_with fail
  refine (HP1.out _ H1.out).mono ?_
  rintro e w2 ⟨rfl, b2, h2⟩
  have B2 := Lib.hid (B1.out.trans b2)
  have H2 := Lib.hid h2
  clear b2 h2
  go_wp2_with fail
  refine (HB.out _ H2.out (vars_then V'.out B2.out)).mono ?_
  rintro e w3 ⟨rfl, b3, h3⟩
  have B3 := Lib.hid (B2.out.trans b3)
  have H3 := Lib.hid h3
  clear b3 h3
  go_wp2_with fail
  refine (HP2.out _ H3.out).mono ?_
  rintro e w4 ⟨rfl, b4, h4⟩
  have B4 := Lib.hid (B3.out.trans b4)
  have H4 := Lib.hid h4
  clear b4 h4
  go_wp2_with fail
  refine (HL.out _ H4.out).mono ?_
  rintro e w5 ⟨rfl, b5, h5⟩
  go_wp2_with fail
  go_returns
  exact ⟨rfl, B4.out.trans b5, h5⟩

set_option maxHeartbeats 4000000 in
theorem turnIf_any (L : Nat) (hb : BrackGood ss L) (B g k m m2 : Nat) (sv : Value) (cs ds bs : List Opv) (t : Sum) (w : World) (hm : m < k + 1 + L) (hm2 : m2 < m + 2 + L) (h2 : SumAt ss k t) (ht : Turn ss (k + t.flat.length + 1) m (cs.length + t.flat.length + 1) ds) (hs : sg7 ss m = wShut)
    (ht2 : Turn ss (m + 2) m2 (cs.length + t.flat.length + 1 + ds.length + 1) bs) (hs2 : sg7 ss m2 = wShut) (h : Cd B g sv ss w k cs) (V : ∀ w', Below g w w' → Vars w') (hl : cs.length + (t.flat.length + ds.length + bs.length + 2) ≤ 300) :
    Calls Tryz.prog 117 #[.pointer (some ⟨g, 0, none⟩)] w (CdOut B g sv ss w (.tuple #[]) (m2 + 1) (cs ++ (codeT t ++ (8, ((cs.length + t.flat.length + 1 + ds.length + 1 : Nat) : Int), []) :: (ds ++ (7, ((cs.length + t.flat.length + 1 + ds.length + 1 + bs.length : Nat) : Int), []) :: bs)))) := by
  have hlt := codeT_len t
  have hpo := t.pos
  obtain ⟨z8, e8⟩ : ∃ z : Int, z = ((cs.length + t.flat.length + 1 + ds.length + 1 : Nat) : Int) := ⟨_, rfl⟩
  obtain ⟨z7, e7⟩ : ∃ z : Int, z = ((cs.length + t.flat.length + 1 + ds.length + 1 + bs.length : Nat) : Int) := ⟨_, rfl⟩
  have HS := Lib.hid (fun W x1 x2 => turnSum_good ss hS hn t B g k sv cs W h2 x1 x2 (by omega))
  have hl2 : (cs ++ codeT t).length = cs.length + t.flat.length := by simp; omega
  have HP1 := Lib.hid (fun W x1 => put_any B g sv ss W (k + t.flat.length) (cs ++ codeT t) (8, 0, []) x1 (by omega))
  have HB := Lib.hid (fun W x1 x2 => hb B g (k + t.flat.length) m sv (cs ++ codeT t ++ [(8, 0, [])]) ds W (by omega) (ht.at_ (by simp; omega)) hs x1 x2 (by simp; omega))
  have HP2 := Lib.hid (fun W x1 => put_any B g sv ss W (m + 1) (cs ++ codeT t ++ [(8, 0, [])] ++ ds) (7, 0, []) x1 (by simp; omega))
  have HL := Lib.hid (fun W x1 => leadHere_any B g sv ss W (m + 1) (cs ++ codeT t ++ [(8, 0, [])] ++ ds ++ [(7, 0, [])]) (cs ++ codeT t) (ds ++ [(7, 0, [])]) (8, 0, []) x1 (by simp) (by simp; omega))
  have q8 : ((cs ++ codeT t ++ [((8 : Int), (0 : Int), ([] : Txt))] ++ ds ++ [((7 : Int), (0 : Int), ([] : Txt))]).length : Int) = z8 := by rw [e8]; simp only [List.length_append, List.length_cons, List.length_nil, hlt]
  rw [q8] at HL
  have hl4 : (cs ++ codeT t ++ [((8 : Int), (0 : Int), ([] : Txt))] ++ ds).length = (cs ++ codeT t ++ (8, z8, []) :: ds).length := by simp
  have HX6 : Hid (cs ++ codeT t ++ ((8 : Int), z8, ([] : Txt)) :: (ds ++ [((7 : Int), (0 : Int), ([] : Txt))]) = (cs ++ codeT t ++ (8, z8, []) :: ds) ++ [(7, 0, [])]) := Lib.hid (by simp)
  have HB2 := Lib.hid (fun W x1 x2 => hb B g (m + 1) m2 sv (cs ++ codeT t ++ ((8 : Int), z8, ([] : Txt)) :: (ds ++ [((7 : Int), (0 : Int), ([] : Txt))])) bs W (by omega) (ht2.at_ (by simp; omega)) hs2 x1 x2 (by simp; omega))
  have HL2 := Lib.hid (fun W x1 => leadHere_any B g sv ss W (m2 + 1) (cs ++ codeT t ++ ((8 : Int), z8, ([] : Txt)) :: (ds ++ [((7 : Int), (0 : Int), ([] : Txt))]) ++ bs) (cs ++ codeT t ++ (8, z8, []) :: ds) bs (7, 0, []) x1 (by simp) (by simp; omega))
  have q7 : ((cs ++ codeT t ++ ((8 : Int), z8, ([] : Txt)) :: (ds ++ [((7 : Int), (0 : Int), ([] : Txt))]) ++ bs).length : Int) = z7 := by rw [e7]; simp only [List.length_append, List.length_cons, List.length_nil, hlt]; omega
  rw [q7] at HL2
  have HZ : Hid (cs ++ codeT t ++ (8, z8, []) :: ds ++ ((7 : Int), z7, ([] : Txt)) :: bs = cs ++ (codeT t ++ (8, z8, []) :: (ds ++ (7, z7, []) :: bs))) := Lib.hid (by simp)
  rw [← e8, ← e7, ← HZ.out]
  dsimp only at HL HL2
  have HH := Lib.hid h
  have V' := Lib.hid V
  have E8 := Lib.hid e8
  have E7 := Lib.hid e7
  clear V h h2 ht hs ht2 hs2 HZ q8 q7 e8 e7 HX6
  generalize cs ++ codeT t ++ (8, z8, []) :: ds ++ ((7 : Int), z7, ([] : Txt)) :: bs = x9 at HL2 ⊢
  generalize cs ++ codeT t ++ ((8 : Int), z8, ([] : Txt)) :: (ds ++ [((7 : Int), (0 : Int), ([] : Txt))]) ++ bs = x8 at HB2 HL2
  generalize cs ++ codeT t ++ ((8 : Int), z8, ([] : Txt)) :: (ds ++ [((7 : Int), (0 : Int), ([] : Txt))]) = x7 at HL HB2
  rw [← hl4] at HL2
  clear hl4
  generalize cs ++ codeT t ++ [((8 : Int), (0 : Int), ([] : Txt))] ++ ds ++ [((7 : Int), (0 : Int), ([] : Txt))] = x5 at HP2 HL
  generalize cs ++ codeT t ++ [((8 : Int), (0 : Int), ([] : Txt))] ++ ds = x4 at HP2 HB HL2
  generalize cs ++ codeT t ++ [((8 : Int), (0 : Int), ([] : Txt))] = x3 at HP1 HB
  clear hl2
  generalize cs ++ codeT t = x2 at HS HP1 HL
  generalize t.flat.length = lt at *
  go_enter Tryz.func117, Tryz.ntmps117
  go_wp2_with fail
  refine (HS.out _ HH.out V'.out).mono ?_
  rintro e w1 ⟨rfl, b1, h1⟩
  have B1 := Lib.hid b1
  have H1 := Lib.hid h1
  clear b1 h1
  go_wp2_with fail
  refine (HP1.out _ H1.out).mono ?_
  rintro e w2 ⟨rfl, b2, h2⟩
  have B2 := Lib.hid (B1.out.trans b2)
  have H2 := Lib.hid h2
  clear b2 h2
  go_wp2_with fail
  refine (HB.out _ H2.out (vars_then V'.out B2.out)).mono ?_
  rintro e w3 ⟨rfl, b3, h3⟩
  have B3 := Lib.hid (B2.out.trans b3)
  have H3 := Lib.hid h3
  clear b3 h3
  go_wp2_with fail
  refine (HP2.out _ H3.out).mono ?_
  rintro e w4 ⟨rfl, b4, h4⟩
  have B4 := Lib.hid (B3.out.trans b4)
  have H4 := Lib.hid h4
  clear b4 h4
  go_wp2_with fail
  refine (HL.out _ H4.out).mono ?_
  rintro e w5 ⟨rfl, b5, h5⟩
  have B5 := Lib.hid (B4.out.trans b5)
  have H5 := Lib.hid h5
  clear b5 h5
  go_wp2_with fail
  refine (HB2.out _ H5.out (vars_then V'.out B5.out)).mono ?_
  rintro e w6 ⟨rfl, b6, h6⟩
  have B6 := Lib.hid (B5.out.trans b6)
  have H6 := Lib.hid h6
  clear b6 h6
  go_wp2_with fail
  refine (HL2.out _ H6.out).mono ?_
  rintro e w7 ⟨rfl, b7, h7⟩
  go_wp2_with fail
  go_returns
  exact ⟨rfl, B6.out.trans b7, h7⟩
end

end Go.Proofs.YtjcmfdgphhonhaaGreatDoor

namespace Go.Proofs.YtjcmfdgphhonhaaGreatDoor
open Go.RowKit
set_option linter.unusedVariables false
set_option linter.unusedSectionVars false

/-- Where turnDeeds is. -/
def TdAt (ss : List Txt) (B g m : Nat) (sv : Value) (all : List Opv) (w : World) (n : Nat) (wr : World) : Prop :=
  ∃ p, ∃ ys rest : List Opv, Below g w wr ∧ Cd B g sv ss wr p ys ∧ Turn ss p m ys.length rest ∧ Hid (ys ++ rest = all) ∧ n = m - p

theorem head_no6 {x : Txt} (h : headB x = false) : (x == [115, 101, 116]) = false ∧ (x == [105, 110]) = false ∧ (x == [111, 117, 116]) = false ∧ (x == [115, 116, 111, 112]) = false ∧ (x == [105, 102]) = false ∧ (x == [119, 104, 105, 108, 101]) = false := by
  refine ⟨?_, ?_, ?_, ?_, ?_, ?_⟩ <;> (rw [beq_eq_false_iff_ne]; rintro rfl; revert h; decide)

section
variable (ss : List Txt) (hS : shortS ss) (hn : ss.length ≤ 1048576)
include hS hn

set_option maxHeartbeats 8000000 in
theorem deeds_step (L : Nat) (hd : DeedsGood ss L) : DeedsGood ss (L + 1) := by
  have hb := brack_good ss hS hn L hd
  intro B g k m sv cs ds w hm ht hh h V hl
  have hle := ht.len
  have HT0 := Lib.hid ht
  have HH0 := Lib.hid h
  have HLEN : Hid ((cs ++ ds).length ≤ 300) := Lib.hid (by simp; omega)
  have V' := Lib.hid V
  clear ht h V
  go_enter Tryz.func54, Tryz.ntmps54
  go_wp2_with fail
  go_loopg [2] (m - k) (fun n _ wr => TdAt ss B g m sv (cs ++ ds) w n wr ∧ n ≤ m - k)
  case atStart => exact ⟨⟨k, cs, ds, Below.refl _ _, HH0.out, HT0.out, Lib.hid rfl, rfl⟩, Nat.le_refl _⟩
  case round =>
    obtain ⟨⟨p, ys, rest, hbw, hC, hT, hH, rfl⟩, hgk⟩ := hrel
    have hend := turn_end hT hh
    have HNX := Lib.hid (cdNext_any B g sv ss wr p ys hC hn)
    have hall : (ys ++ rest).length ≤ 300 := by rw [hH.out]; exact HLEN.out
    rcases hT.inv with ⟨rfl, rfl⟩ | ⟨p1, es, bs, h1, h2, rfl⟩
    · obtain ⟨e1, e2, e3, e4, e5, e6⟩ := head_no6 hh
      have HX : Hid (ys = cs ++ ds) := Lib.hid (by have := hH.out; rwa [List.append_nil] at this)
      rw [← HX.out]
      generalize sg7 ss p = x at HNX e1 e2 e3 e4 e5 e6
      clear hH hT hC
      go_wp2_with fail
      refine HNX.out.mono ?_
      rintro e w1 ⟨rfl, b1, h1⟩
      have B1 := Lib.hid (hbw.trans b1)
      have H1 := Lib.hid h1
      clear b1 h1
      go_wp2_with fail
      go_returns
      exact ⟨rfl, B1.out, H1.out⟩
    · have hlt := h1.lt
      have hp1 := turn_end h2 hh
      have hkp : k ≤ p := by omega
      have H2T : Hid (Turn ss p1 m (ys ++ es).length bs) := Lib.hid (h2.at_ (by simp))
      have hpn := (head_ne h1.head).2
      have hpl := sg7_in hpn
      rw [nx_in hpl] at HNX
      simp only [List.length_append] at hall
      clear hT hC h2 hend hpn
      cases h1 with
      | set a b =>
        rename_i t
        have hlt2 := codeT_len t
        have HT := Lib.hid (fun W x1 x2 => turnSet_any ss hS hn B g (p + 1) sv ys t W b x1 x2 (by simp at hall; omega))
        rw [a] at HNX
        clear a b
        go_wp2_with fail
        refine HNX.out.mono ?_
        rintro e w1 ⟨rfl, b1, h1⟩
        have B1 := Lib.hid (hbw.trans b1)
        have H1 := Lib.hid h1
        clear b1 h1
        go_wp2_with fail
        refine (HT.out _ H1.out (vars_then V'.out B1.out)).mono ?_
        rintro e w2 ⟨rfl, b2, h2⟩
        have B2 := Lib.hid (B1.out.trans b2)
        clear b2
        go_wp2_with fail
        go_roundg (m - (p + 2 + t.flat.length))
        case measure => omega
        case rel => exact ⟨⟨p + 2 + t.flat.length, _, _, B2.out, h2, H2T.out, Lib.hid (by rw [List.append_assoc]; exact hH.out), rfl⟩, by omega⟩
      | in_ a b =>
        rename_i j
        have HT := Lib.hid (fun W x1 x2 => turnIn_any ss hS hn B g (p + 1) j sv ys W b x1 x2 (by simp at hall; omega))
        rw [a] at HNX
        clear a b
        go_wp2_with fail
        refine HNX.out.mono ?_
        rintro e w1 ⟨rfl, b1, h1⟩
        have B1 := Lib.hid (hbw.trans b1)
        have H1 := Lib.hid h1
        clear b1 h1
        go_wp2_with fail
        refine (HT.out _ H1.out (vars_then V'.out B1.out)).mono ?_
        rintro e w2 ⟨rfl, b2, h2⟩
        have B2 := Lib.hid (B1.out.trans b2)
        clear b2
        go_wp2_with fail
        go_roundg (m - (p + 3))
        case measure => omega
        case rel => exact ⟨⟨p + 3, _, _, B2.out, h2, H2T.out, Lib.hid (by rw [List.append_assoc]; exact hH.out), rfl⟩, by omega⟩
      | out a b c =>
        rename_i j t
        have hlt2 := codeT_len t
        have HT := Lib.hid (fun W x1 x2 => turnOut_any ss hS hn B g (p + 1) j sv ys t W b c x1 x2 (by simp at hall; omega))
        rw [a] at HNX
        clear a b c
        go_wp2_with fail
        refine HNX.out.mono ?_
        rintro e w1 ⟨rfl, b1, h1⟩
        have B1 := Lib.hid (hbw.trans b1)
        have H1 := Lib.hid h1
        clear b1 h1
        go_wp2_with fail
        refine (HT.out _ H1.out (vars_then V'.out B1.out)).mono ?_
        rintro e w2 ⟨rfl, b2, h2⟩
        have B2 := Lib.hid (B1.out.trans b2)
        clear b2
        go_wp2_with fail
        go_roundg (m - (p + 2 + t.flat.length))
        case measure => omega
        case rel => exact ⟨⟨p + 2 + t.flat.length, _, _, B2.out, h2, H2T.out, Lib.hid (by rw [List.append_assoc]; exact hH.out), rfl⟩, by omega⟩
      | stop a =>
        have HT := Lib.hid (fun W x1 => put_any B g sv ss W (p + 1) ys (9, 0, []) x1 (by simp at hall; omega))
        rw [a] at HNX
        clear a
        go_wp2_with fail
        refine HNX.out.mono ?_
        rintro e w1 ⟨rfl, b1, h1⟩
        have B1 := Lib.hid (hbw.trans b1)
        have H1 := Lib.hid h1
        clear b1 h1
        go_wp2_with fail
        refine (HT.out _ H1.out).mono ?_
        rintro e w2 ⟨rfl, b2, h2⟩
        have B2 := Lib.hid (B1.out.trans b2)
        clear b2
        go_wp2_with fail
        go_roundg (m - (p + 1))
        case measure => omega
        case rel => exact ⟨⟨p + 1, _, _, B2.out, h2, H2T.out, Lib.hid (by rw [List.append_assoc]; exact hH.out), rfl⟩, by omega⟩
      | loop a b c d f =>
        rename_i m' t es'
        have hlt2 := codeT_len t
        have HT := Lib.hid (fun W x1 x2 => turnWhile_any ss hS hn L hb B g (p + 1) m' sv ys es' t W (by omega) b d f x1 x2 (by simp at hall; omega))
        rw [a] at HNX
        clear a b c d f
        go_wp2_with fail
        refine HNX.out.mono ?_
        rintro e w1 ⟨rfl, b1, h1⟩
        have B1 := Lib.hid (hbw.trans b1)
        have H1 := Lib.hid h1
        clear b1 h1
        go_wp2_with fail
        refine (HT.out _ H1.out (vars_then V'.out B1.out)).mono ?_
        rintro e w2 ⟨rfl, b2, h2⟩
        have B2 := Lib.hid (B1.out.trans b2)
        clear b2
        go_wp2_with fail
        go_roundg (m - (m' + 1))
        case measure => omega
        case rel => exact ⟨⟨m' + 1, _, _, B2.out, h2, H2T.out, Lib.hid (by rw [List.append_assoc]; exact hH.out), rfl⟩, by omega⟩
      | fork a b c d f g' i j =>
        rename_i m' m2 t es' bs'
        have hlt2 := codeT_len t
        have hd1 := d.len
        have hi1 := i.len
        have HT := Lib.hid (fun W x1 x2 => turnIf_any ss hS hn L hb B g (p + 1) m' m2 sv ys es' bs' t W (by omega) (by omega) b d f i j x1 x2 (by simp at hall; omega))
        rw [a] at HNX
        clear a b c d f g' i j
        go_wp2_with fail
        refine HNX.out.mono ?_
        rintro e w1 ⟨rfl, b1, h1⟩
        have B1 := Lib.hid (hbw.trans b1)
        have H1 := Lib.hid h1
        clear b1 h1
        go_wp2_with fail
        refine (HT.out _ H1.out (vars_then V'.out B1.out)).mono ?_
        rintro e w2 ⟨rfl, b2, h2⟩
        have B2 := Lib.hid (B1.out.trans b2)
        clear b2
        go_wp2_with fail
        go_roundg (m - (m2 + 1))
        case measure => omega
        case rel => exact ⟨⟨m2 + 1, _, _, B2.out, h2, H2T.out, Lib.hid (by rw [List.append_assoc]; exact hH.out), rfl⟩, by omega⟩
theorem deeds_good : ∀ L : Nat, DeedsGood ss L
  | 0 => fun B g k m sv cs ds w hm ht => by have := ht.len; omega
  | L + 1 => deeds_step ss hS hn L (deeds_good L)
end

end Go.Proofs.YtjcmfdgphhonhaaGreatDoor

namespace Go.Proofs.YtjcmfdgphhonhaaGreatDoor
open Go.RowKit
set_option linter.unusedVariables false

/-- 'copy' of elements of several cells each into a row that is known whole. -/
theorem run_copy_wide {P : Program} (w : World) (dT sT ty elem : TypeId) (size g o n dCap : Nat) (a : Addr) (sCap : Nat) (cur : Array Value) (t : TypeId) (cs : List Value)
    (hu : P.underlying dT = some (.slice elem)) (hs : (P.info? elem).map (·.size) = some size)
    (hg : w.heap[g]? = some (.cells cur t (0, 0))) (hn : cs.length = n * size)
    (hsrc : ∀ j v, cs[j]? = some v → w.cell? (a.add j) = some v) (hfit : o + cs.length ≤ cur.size) (h1 : ∀ v ∈ cs, v.oneCell' = true) :
    (Builtin.copy_ #[dT, sT] ty #[.slice (some ⟨g, o, none⟩) n dCap, .slice (some a) n sCap]).run P w =
      .ok (goInt n) (w.setRow g (cur.toList.take o ++ cs ++ cur.toList.drop (o + cs.length)).toArray) := by
  have hl := run_loadCells_list (P := P) w a cs hsrc
  have hst := run_storeCells_at P g o t cs 0 cur w hg (by simpa using hfit) h1
  cases hq : P.info? elem with
  | none => simp [hq] at hs
  | some i =>
    have hi : i.size = size := by simpa [hq] using hs
    simp [Builtin.copy_, run_underlying hu, Builtin.lenOf, Builtin.firstCells, sizeOf, typeInfo, hq, hi, ← hn, hl, hst]
theorem wpList_copy_wide {P : Program} {w : World} {ops : Array Oper} {rest : List Oper} {o : Oper} {a : Act} {Q : Exit → Act → World → Prop} (hgd : o.guard = none) (d s : Operand) (dT sT : TypeId)
    (ho : o.op = .call { callee := .builtin .copy, args := #[d, s], argTypes := #[dT, sT] }) (elem : TypeId) (size : Nat) (hu : P.underlying dT = some (.slice elem)) (hsz : (P.info? elem).map (·.size) = some size)
    (g off n dCap : Nat) (ad : Addr) (sCap : Nat) (hd : a.eval d = .slice (some ⟨g, off, none⟩) n dCap) (hs : a.eval s = .slice (some ad) n sCap)
    (cur : Array Value) (t : TypeId) (hg : w.heap[g]? = some (.cells cur t (0, 0))) (cs : List Value) (hn : cs.length = n * size)
    (hsrc : ∀ j v, cs[j]? = some v → w.cell? (ad.add j) = some v) (hfit : off + cs.length ≤ cur.size) (h1 : ∀ v ∈ cs, v.oneCell' = true)
    (h : ∀ w', w' = w.setRow g (cur.toList.take off ++ cs ++ cur.toList.drop (off + cs.length)).toArray → wpList P ops Q rest (a.put o.dst (goInt n)) w') : wpList P ops Q (o :: rest) a w := by
  refine wpList_plain hgd fun K hK => ?_
  have hrun := run_copy_wide (P := P) w dT sT o.type elem size g off n dCap ad sCap cur t cs hu hsz hg hn hsrc hfit h1
  unfold Oper.wp
  simp [execOp, ho, resolve, invoke, builtin, hd, hs, hrun, Result.andThen]
  exact hK _ _ (h _ (by simp))

/-- The cells of the ops in the room. -/
theorem Cd.news {B g : Nat} {sv : Value} {ss : List Txt} {w : World} {k : Nat} {cs : List Opv} (h : Cd B g sv ss w k cs) : ∀ j u, (cs.map opV).flatten[j]? = some u → w.cell? ((⟨g, 6, none⟩ : Addr).add j) = some u := fun j u hu => by
  have hj := (List.getElem?_eq_some_iff.1 hu).1
  rw [ops_len] at hj
  have hk : j / 3 < cs.length := by omega
  have hx : (cs.map opV)[j / 3]? = some (opV cs[j / 3]) := by rw [List.getElem?_map, List.getElem?_eq_getElem hk]; rfl
  have hi : j % 3 < 3 := Nat.mod_lt _ (by omega)
  obtain ⟨cur, hb, _, _, _, _, h3⟩ := h.blk
  obtain ⟨a, b, c⟩ := h3 (j / 3) _ (List.getElem?_eq_getElem hk)
  rw [add_at, cell_of_row _ _ _ _ _ (0, 0) hb]
  have e := fun y hy => flat_at (ops_three cs) hx (i := j % 3) (y := y) hy
  rw [show j / 3 * 3 + j % 3 = j by omega, hu] at e
  rcases (show j % 3 = 0 ∨ j % 3 = 1 ∨ j % 3 = 2 by omega) with q | q | q
  · rw [show 6 + j = 6 + j / 3 * 3 by omega, a, e _ (by rw [q]; rfl)]
  · rw [show 6 + j = 6 + j / 3 * 3 + 1 by omega, b, e _ (by rw [q]; rfl)]
  · rw [show 6 + j = 6 + j / 3 * 3 + 2 by omega, c, e _ (by rw [q]; rfl)]
theorem ops_one (cs : List Opv) (u : Value) (h : u ∈ (cs.map opV).flatten) : u.oneCell' = true := by
  obtain ⟨l, hl, hu⟩ := List.mem_flatten.1 h
  obtain ⟨b, _, rfl⟩ := List.mem_map.1 hl
  exact op_one b u hu

def OpsOut (B : Nat) (cs : List Opv) (w : World) (e : Ending) (w' : World) : Prop := ∃ g c, e = .returned (.slice (some ⟨g, 0, none⟩) cs.length c) ∧ OwnOp w' B 30 (.slice (some ⟨g, 0, none⟩) cs.length c) cs ∧ Below w.heap.size w w'

set_option maxRecDepth 100000 in
set_option maxHeartbeats 4000000 in
theorem code_any (B g : Nat) (sv : Value) (ss : List Txt) (w : World) (k : Nat) (cs : List Opv) (h : Cd B g sv ss w k cs) (hn : cs.length ≤ 300) :
    Calls Tryz.prog 56 #[.pointer (some ⟨g, 0, none⟩)] w (OpsOut w.heap.size cs w) := by
  have hmk := fun W => make_rows (P := Tryz.prog) 26 30 (.agg #[.int .i64 0, .int .i64 0, .string ⟨#[]⟩]) 3 32 Tryz.underlying26 Tryz.infoOp .i64 .i64 cs.length (by omega) (by omega) W
  obtain ⟨i0, hi0, hz0, hz1, hz2⟩ := info_parts Tryz.infoOp
  have HSZ : Hid ((Tryz.prog.info? 30).map (·.size) = some 3) := Lib.hid (by rw [hi0]; simp [hz1])
  clear hi0 hz0 hz1 hz2
  have hlt := h.lt
  have e3 := h.cZ
  have hi : (0 : Int) ≤ (cs.length : Int) ∧ (cs.length : Int) ≤ 300 := by omega
  have HC := Lib.hid h
  clear h
  go_enter Tryz.func56, Tryz.ntmps56
  go_wp2_with fail
  go_quiet (fail)
  go_wp2_with fail
  have HN := Lib.hid ((HC.out.drewN nq).alloc (.cells (madeCells #[.int .i64 0, .int .i64 0, .string ⟨#[]⟩] (cs.length * 3)) 30)).news
  have hnb : ((w.drewN nq).alloc (.cells (madeCells #[.int .i64 0, .int .i64 0, .string ⟨#[]⟩] (cs.length * 3)) 30)).heap[w.heap.size]? = some (.cells (madeCells #[.int .i64 0, .int .i64 0, .string ⟨#[]⟩] (cs.length * 3)) 30 (0, 0)) := heap_alloc_new (w.drewN nq) _
  have hms : (madeCells #[.int .i64 0, .int .i64 0, .string ⟨#[]⟩] (cs.length * 3)).size = cs.length * 3 := by simp [madeCells]
  rw [run_copy_wide (P := Tryz.prog) _ 26 26 3 30 3 w.heap.size 0 cs.length cs.length ⟨g, 6, none⟩ cs.length _ 30 (cs.map opV).flatten Tryz.underlying26 HSZ.out hnb (ops_len cs) HN.out (by rw [hms, ops_len]; omega) (ops_one cs)]
  have hrow := setRow_heap ((w.drewN nq).alloc (.cells (madeCells #[.int .i64 0, .int .i64 0, .string ⟨#[]⟩] (cs.length * 3)) 30)) w.heap.size _ ((madeCells #[.int .i64 0, .int .i64 0, .string ⟨#[]⟩] (cs.length * 3)).toList.take 0 ++ (cs.map opV).flatten ++ (madeCells #[.int .i64 0, .int .i64 0, .string ⟨#[]⟩] (cs.length * 3)).toList.drop (0 + (cs.map opV).flatten.length)).toArray 30 (0, 0) hnb
  have hbel : Below w.heap.size w (((w.drewN nq).alloc (.cells (madeCells #[.int .i64 0, .int .i64 0, .string ⟨#[]⟩] (cs.length * 3)) 30)).setRow w.heap.size ((madeCells #[.int .i64 0, .int .i64 0, .string ⟨#[]⟩] (cs.length * 3)).toList.take 0 ++ (cs.map opV).flatten ++ (madeCells #[.int .i64 0, .int .i64 0, .string ⟨#[]⟩] (cs.length * 3)).toList.drop (0 + (cs.map opV).flatten.length)).toArray) := below_setRow ((below_drewN (Below.refl _ w) nq).alloc (Nat.le_refl _) _) (Nat.le_refl _) _
  generalize ((w.drewN nq).alloc (.cells (madeCells #[.int .i64 0, .int .i64 0, .string ⟨#[]⟩] (cs.length * 3)) 30)).setRow w.heap.size ((madeCells #[.int .i64 0, .int .i64 0, .string ⟨#[]⟩] (cs.length * 3)).toList.take 0 ++ (cs.map opV).flatten ++ (madeCells #[.int .i64 0, .int .i64 0, .string ⟨#[]⟩] (cs.length * 3)).toList.drop (0 + (cs.map opV).flatten.length)).toArray = w2 at hrow hbel ⊢
  have HR := Lib.hid hrow
  clear hrow hmk HN
  go_wp2_with fail
  go_ret
  refine ⟨w.heap.size, cs.length, rfl, OwnOp.of_row (n := cs.length) ⟨ops_len cs, .inr ⟨w.heap.size, cs.length, _, rfl, Nat.le_refl _, HR.out, Nat.le_refl _, by unfold maxLen; omega, ?_, ?_⟩⟩ rfl, hbel⟩
  · simp only [List.take_zero, List.nil_append, Nat.zero_add]
    have e1 : (madeCells #[.int .i64 0, .int .i64 0, .string ⟨#[]⟩] (cs.length * 3)).toList.length = cs.length * 3 := hms
    rw [List.size_toArray, List.length_append, List.length_drop, ops_len, e1]
    omega
  · simp only [List.take_zero, List.nil_append, Nat.zero_add]
    rw [List.toList_toArray, List.take_append_of_le_length (by rw [ops_len]; omega), List.take_of_length_le (by rw [ops_len]; omega)]

end Go.Proofs.YtjcmfdgphhonhaaGreatDoor

namespace Go.Proofs.YtjcmfdgphhonhaaGreatDoor
open Go.RowKit
set_option linter.unusedVariables false

theorem wpList_val {P : Program} {w : World} {ops : Array Oper} {rest : List Oper} {o : Oper} {a : Act} {Q : Exit → Act → World → Prop} (hgd : o.guard = none) (v : Value) (w' : World)
    (hrun : (execOp a.eval o).run P w = .ok (.value v) w') (h : wpList P ops Q rest (a.put o.dst v) w') : wpList P ops Q (o :: rest) a w := by
  refine wpList_plain hgd fun K hK => ?_
  unfold Oper.wp
  rw [hrun]
  exact hK _ _ h
theorem wpList_skip {P : Program} {w : World} {ops : Array Oper} {rest : List Oper} {o : Oper} {a : Act} {Q : Exit → Act → World → Prop} (hgd : o.guard = none) (w' : World)
    (hrun : (execOp a.eval o).run P w = .ok .skip w') (h : wpList P ops Q rest (a.put o.dst undef) w') : wpList P ops Q (o :: rest) a w := by
  refine wpList_plain hgd fun K hK => ?_
  unfold Oper.wp
  rw [hrun]
  exact hK _ _ h

/-- The cells of a coder that has nothing yet. -/
noncomputable def coderZ : Array Value := (((Tryz.prog.info? 84).bind (·.zero)).map Value.cells).getD #[]
/-- The same, with its reader. -/
noncomputable def coderC (sv : Value) : Array Value := (#[sv, .int .i64 0, .slice none 0 0, .slice none 0 0, .slice none 0 0, .int .i64 0] : Array Value).zipIdx.foldl (fun cs (c, j) => cs.setIfInBounds (0 + j) c) coderZ
theorem coderC_size (A : Option Addr) (n c : Nat) : (coderC (.slice A n c)).size = 907 := by kernel_rfl
theorem coderC_0 (A : Option Addr) (n c : Nat) : (coderC (.slice A n c))[0]? = some (.slice A n c) := by kernel_rfl
theorem coderC_1 (A : Option Addr) (n c : Nat) : (coderC (.slice A n c))[1]? = some (.int .i64 0) := by kernel_rfl
theorem coderC_906 (A : Option Addr) (n c : Nat) : (coderC (.slice A n c))[906]? = some (.int .i64 0) := by kernel_rfl
theorem coderC_one (A : Option Addr) (n c : Nat) : (coderC (.slice A n c)).toList.all (·.oneCell') = true := by kernel_rfl
theorem build_coder (A : Option Addr) (n c : Nat) (w : World) : (Instr.build 84 #[(0, .agg #[.slice A n c, .int .i64 0, .slice none 0 0, .slice none 0 0, .slice none 0 0, .int .i64 0])]).run Tryz.prog w = .ok (.agg (coderC (.slice A n c))) w := by kernel_rfl
theorem coderZ_size : coderZ.size = 907 := by kernel_rfl
theorem alloc_coder (w : World) : (Instr.alloc 84 true (.tuple #[])).run Tryz.prog w = .ok (.pointer (some ⟨w.heap.size, 0, none⟩)) (w.alloc (.cells coderZ 84)) := by kernel_rfl
theorem info_coder : (Tryz.prog.info? 84).map (·.size) = some 907 := by kernel_rfl
/-- The coder laid into its block. -/
theorem store_coder (A : Option Addr) (n c : Nat) (w : World) : (Instr.storeAt 84 (.pointer (some ⟨w.heap.size, 0, none⟩)) (.agg (coderC (.slice A n c)))).run Tryz.prog (w.alloc (.cells coderZ 84)) = .ok () ((w.alloc (.cells coderZ 84)).setRow w.heap.size (coderC (.slice A n c))) := by
  have hb : (w.alloc (.cells coderZ 84)).heap[w.heap.size]? = some (.cells coderZ 84 (0, 0)) := heap_alloc_new w _
  have hs := coderC_size A n c
  have h1 := coderC_one A n c
  have hi := info_coder
  generalize coderC (.slice A n c) = C at hs h1 ⊢
  have hst := run_storeCells_at Tryz.prog w.heap.size 0 84 C.toList 0 coderZ (w.alloc (.cells coderZ 84)) hb (by rw [coderZ_size, Array.length_toList, hs]; omega) (fun v hv => List.all_eq_true.1 h1 v hv)
  have e : (coderZ.toList.take (0 + 0) ++ C.toList ++ coderZ.toList.drop (0 + 0 + C.toList.length)).toArray = C := by
    rw [List.take_zero, List.nil_append, List.drop_of_length_le (by rw [Array.length_toList, Array.length_toList, coderZ_size, hs]; omega), List.append_nil, Array.toArray_toList]
  rw [e] at hst
  cases hq : Tryz.prog.info? 84 with
  | none => rw [hq] at hi; cases hi
  | some i =>
    have hz : i.size = 907 := by rw [hq] at hi; simpa using hi
    simp [Instr.storeAt, Instr.sureAddr, Sem.run_bind, Sem.run_pure, Result.andThen_ok, storeVar, sizeOf, typeInfo, hq, Value.cells, hs, hz, hst]
theorem cd_new (B : Nat) (A : Option Addr) (c : Nat) (ss : List Txt) (w : World) (h : SeeV w B (.slice A ss.length c) (ss.map str)) (hB : B ≤ w.heap.size) :
    Cd B w.heap.size (.slice A ss.length c) ss ((w.alloc (.cells coderZ 84)).setRow w.heap.size (coderC (.slice A ss.length c))) 0 [] ∧ Below w.heap.size w ((w.alloc (.cells coderZ 84)).setRow w.heap.size (coderC (.slice A ss.length c))) := by
  have hb : (w.alloc (.cells coderZ 84)).heap[w.heap.size]? = some (.cells coderZ 84 (0, 0)) := heap_alloc_new w _
  have b2 : Below w.heap.size w ((w.alloc (.cells coderZ 84)).setRow w.heap.size (coderC (.slice A ss.length c))) := below_setRow ((Below.refl w.heap.size w).alloc (Nat.le_refl _) _) (Nat.le_refl _) _
  exact ⟨⟨⟨_, setRow_heap _ _ _ _ _ _ hb, coderC_size _ _ _, coderC_0 _ _ _, coderC_1 _ _ _, coderC_906 _ _ _, fun j o hj => by simp at hj⟩, hB, h.below (b2.mono hB)⟩, b2⟩

set_option maxRecDepth 100000 in
set_option maxHeartbeats 4000000 in
theorem iCodeOf_yes (B : Nat) (v : Value) (ss : List Txt) (w : World) (h : SeeV w B v (ss.map str)) (hB : B ≤ w.heap.size) (hn : ss.length ≤ 1048576) (hS : shortS ss) (V : Vars w) (hp : playB ss = true) :
    Calls Tryz.prog 9 #[v] w (OpsOut w.heap.size (codeP ss) w) := by
  obtain ⟨A, c, e⟩ := strs_shape h
  subst e
  have HP := Lib.hid hp
  obtain ⟨hT, hC, hl⟩ := code_yes hp
  rw [hC]
  have hle := hT.len
  have hh := end_head ss
  have HT := Lib.hid (fun g sv W x1 x2 => deeds_good ss hS hn (ss.length + 1) B g 0 ss.length sv [] (turnOf ss) W (by omega) hT hh x1 x2 (by simp; omega))
  rw [nx_out (Nat.lt_irrefl _)] at HT
  have hl2 : (turnOf ss).length < 300 := by omega
  clear hT hC hp
  generalize turnOf ss = cs at HT hl2 ⊢
  rw [List.nil_append] at HT
  go_enter Tryz.func9, Tryz.ntmps9
  go_wp2_with fail
  refine (iPlayOk_any B _ ss _ V h hB hS hn).mono ?_
  rintro e w1 ⟨rfl, b1⟩
  rw [HP.out]
  have s1 := b1.size
  obtain ⟨hcd, b2⟩ := cd_new B A c ss w1 (h.below (b1.mono hB)) (by omega)
  have HST := Lib.hid (store_coder A ss.length c w1)
  have HCD := Lib.hid hcd
  have B2 := Lib.hid (b1.trans (b2.mono s1))
  have V2 : Hid (∀ w', Below w1.heap.size ((w1.alloc (.cells coderZ 84)).setRow w1.heap.size (coderC (.slice A ss.length c))) w' → Vars w') := Lib.hid (fun w' b => V.below ((b1.trans (b2.mono s1)).trans (b.mono s1)))
  clear hcd b2 V h
  go_upto_region 3 with fail
  refine wp_region_lit ?_
  refine wpList_val rfl (.slice A ss.length c) w1 rfl ?_
  refine wpList_val rfl (.agg #[.slice A ss.length c, .int .i64 0, .slice none 0 0, .slice none 0 0, .slice none 0 0, .int .i64 0]) w1 (by kernel_rfl) ?_
  refine wpList_val rfl (.agg (coderC (.slice A ss.length c))) w1 (by kernel_rfl) ?_
  refine wpList_val rfl (.pointer (some ⟨w1.heap.size, 0, none⟩)) (w1.alloc (.cells coderZ 84)) (by kernel_rfl) ?_
  refine wpList_skip rfl ((w1.alloc (.cells coderZ 84)).setRow w1.heap.size (coderC (.slice A ss.length c))) (by
    have := HST.out
    show (Instr.storeAt 84 (.pointer (some ⟨w1.heap.size, 0, none⟩)) (.agg (coderC (.slice A ss.length c))) >>= fun _ => pure Next.skip).run Tryz.prog _ = _
    rw [Sem.run_bind, this]
    rfl) ?_
  generalize (w1.alloc (.cells coderZ 84)).setRow w1.heap.size (coderC (.slice A ss.length c)) = w2 at HCD B2 V2 ⊢
  generalize coderC (.slice A ss.length c) = C
  clear HST
  generalize w1.heap.size = g at HCD V2 s1 ⊢
  go_wp2_with fail
  refine (HT.out g _ w2 HCD.out V2.out).mono ?_
  rintro e w3 ⟨rfl, b3, h3⟩
  have H3 := Lib.hid (put_any B g _ ss w3 ss.length cs (10, 0, []) h3 hl2)
  have B3 := Lib.hid (B2.out.trans (b3.mono s1))
  clear h3 b3
  go_wp2_with fail
  refine H3.out.mono ?_
  rintro e w4 ⟨rfl, b4, h4⟩
  have H4 := Lib.hid (code_any B g _ ss w4 ss.length (cs ++ [(10, 0, [])]) h4 (by simp; omega))
  have B4 := Lib.hid (B3.out.trans (b4.mono s1))
  clear h4 b4
  generalize hx4 : cs ++ [((10 : Int), (0 : Int), ([] : Txt))] = x4 at H4
  have HX4 := Lib.hid hx4
  clear hx4
  go_wp2_with fail
  refine H4.out.mono ?_
  rintro e w5 ⟨g5, c5, rfl, o5, b5⟩
  go_wp2_with fail
  go_ret
  rw [HX4.out]
  exact ⟨g5, c5, rfl, o5.less B4.out.size, below_then B4.out b5 (Nat.le_refl _)⟩

set_option maxHeartbeats 4000000 in
theorem iCodeOf_no (B : Nat) (v : Value) (ss : List Txt) (w : World) (h : SeeV w B v (ss.map str)) (hB : B ≤ w.heap.size) (hn : ss.length ≤ 1048576) (hS : shortS ss) (V : Vars w) (hp : playB ss = false) :
    Calls Tryz.prog 9 #[v] w (OpsOut w.heap.size (codeP ss) w) := by
  obtain ⟨A, c, e⟩ := strs_shape h
  subst e
  have HP := Lib.hid hp
  rw [code_no hp]
  clear hp
  go_enter Tryz.func9, Tryz.ntmps9
  go_wp2_with fail
  refine (iPlayOk_any B _ ss _ V h hB hS hn).mono ?_
  rintro e w1 ⟨rfl, b1⟩
  rw [HP.out]
  have oE := OwnOp.empty w1 30
  have bE := b1.alloc b1.size (.cells #[] 30)
  go_wp2_with fail
  go_ret
  exact ⟨_, _, rfl, oE.less b1.size, bE⟩
theorem iCodeOf_any (B : Nat) (v : Value) (ss : List Txt) (w : World) (h : SeeV w B v (ss.map str)) (hB : B ≤ w.heap.size) (hn : ss.length ≤ 1048576) (hS : shortS ss) (V : Vars w) :
    Calls Tryz.prog 9 #[v] w (OpsOut w.heap.size (codeP ss) w) := by
  cases hp : playB ss with
  | true => exact iCodeOf_yes B v ss w h hB hn hS V hp
  | false => exact iCodeOf_no B v ss w h hB hn hS V hp

end Go.Proofs.YtjcmfdgphhonhaaGreatDoor
