/- Layer 7 (plays): the program's reader: opens and closes. No conditions but those typed. -/
import Derived.Test.YtblnonlcjfcblaaGreatDoorRdrC
namespace Go.Proofs.YtblnonlcjfcblaaGreatDoor
open Go.RowKit
set_option linter.unusedVariables false

theorem Tryz.info7b : (Tryz.prog.info? 4).map (fun i => (i.zero, i.size, i.bytes)) = some (some (.bool false), 1, 1) := by kernel_rfl
theorem rev_cons (b : Bool) (op : List Bool) : (b :: op).reverse.map Value.bool = op.reverse.map Value.bool ++ [.bool b] := by rw [List.reverse_cons, List.map_append]; rfl
theorem open_eq (x : Txt) : (x == [91]) = decide (x = wOpen) := by
  by_cases h : x = [91]
  · subst h; decide
  · rw [decide_eq_false h]; simpa using h

set_option maxRecDepth 100000 in
set_option maxHeartbeats 4000000 in
theorem opens_any (B g : Nat) (sv : Value) (ss : List Txt) (w : World) (k : Nat) (vn vg vo : Value) (nm : List Txt) (gt : List Int) (op : List Bool) (dp : Nat) (b : Bool) (h : Rd B g sv ss w (k : Int) vn vg vo nm gt op dp) (hn : ss.length ≤ 1048576) (hop : op.length ≤ 4194304) :
    Calls Tryz.prog 99 #[.pointer (some ⟨g, 0, none⟩), .bool b] w (RrOut B g sv ss w (.bool (decide (sg7 ss k = wOpen))) ((nx ss k : Nat) : Int) nm gt (b :: op) (max dp (op.length + 1))) := by
  obtain ⟨i0, hi, hz0, hz1, hz2⟩ := info_parts Tryz.info7b
  have HNX : Hid (∀ W (vn vg vo : Value), Rd B g sv ss W (k : Int) vn vg vo nm gt (b :: op) (max dp (op.length + 1)) → Calls Tryz.prog 95 #[.pointer (some ⟨g, 0, none⟩)] W (RrOut B g sv ss W (str (sg7 ss k)) ((nx ss k : Nat) : Int) nm gt (b :: op) (max dp (op.length + 1)))) := Lib.hid (fun W vn vg vo hr => next_any B g sv ss W k vn vg vo nm gt (b :: op) _ hr hn)
  have HOE := Lib.hid (open_eq (sg7 ss k))
  rw [← HOE.out]
  generalize sg7 ss k = x at HNX ⊢
  have c4 := h.c4
  have f4 := h.fz 4
  have c5 := h.c5
  have f5 := h.fz 5
  have hlt := h.lt
  have HOR : Hid (w.ownsRow (g + 1) 4 1 vo op.length (op.reverse.map Value.bool)) := Lib.hid (by
    have := h.opens
    unfold OwnV at this
    rwa [List.length_map, List.length_reverse] at this)
  obtain ⟨A, c, e⟩ := row_shape HOR.out
  subst e
  have H1 := Lib.hid h
  clear h
  go_enter Tryz.func99, Tryz.ntmps99
  go_upto_region 2 with (at_builtin; refine wpList_append_own _ rfl _ _ 56 rfl (g + 1) 4 i0 (.bool false) 1 1 Tryz.underlying56 hi hz0 hz1 hz2 rfl (by decide) _ _ _ rfl (World.ownsRow.alloc HOR.out _) ⟨w.heap.size, 0, none⟩ 1 1 [.bool b] rfl rfl (cell_one_new _ _ _) (by simp [Value.oneCell']) (by unfold maxLen; omega) (by omega) (by simp; omega) ?_; intro v3 w3 hown3 hgrow3 hnil3; obtain ⟨g3, c3, rfl⟩ := ownsRow_succ hown3; obtain ⟨hq, R3⟩ := (H1.out.alloc _).grewO (op' := b :: op) hgrow3 (by rw [rev_cons]; unfold OwnV; rw [List.length_append, List.length_map, List.length_reverse]; exact hown3); have R4 := Lib.hid R3; have d2 := (World.cell?_of_block hq).trans (H1.out.alloc _).c4; have d3 := (World.frozen?_of_block hq).trans ((H1.out.alloc _).fz 4); have B3 : Hid (Below g w w3) := Lib.hid (((Below.refl _ w).alloc (by omega) _).grown hgrow3 (by simp; omega) (fun j hj => by have := (World.ownsRow.lt HOR.out j hj).1; omega)); clear R3 hq hgrow3 hown3)
  have B4 : Hid (Below g w (w3.setCell ⟨g, 4, none⟩ (.slice (some ⟨g3, 0, none⟩) (op.length + 1) c3))) := Lib.hid (B3.out.setCell (by simp) _)
  have e4 := R4.out.c4
  have e5 := R4.out.c5
  have e6 := R4.out.fz 5
  generalize w3.setCell ⟨g, 4, none⟩ _ = W at R4 B4 e4 e5 e6 ⊢
  clear c4 f4 c5 f5 d2 d3
  go_cut [15] from 15 (fun s wc => Mid B g sv ss w (k : Int) nm gt (b :: op) (max dp (op.length + 1)) wc)
  case first =>
    go_region
    all_goals (
      go_wp2_with fail
      go_meet
      case rel => exact ⟨(B4.out.setCell (by simp) _).drew, _, _, _, by have q := R4.out.setDeep (max dp (op.length + 1)); rw [show ((max dp (op.length + 1) : Nat) : Int) = max (dp : Int) ((op.length : Int) + 1) by omega] at q; exact q.drewN 1⟩)
  case rest =>
    obtain ⟨b2, vn2, vg2, vo2, h2⟩ := hcut
    have HC := Lib.hid (HNX.out wc vn2 vg2 vo2 h2)
    clear h2 HNX
    go_wp2_with fail
    refine HC.out.mono ?_
    rintro e w5 ⟨rfl, b5, vn5, vg5, vo5, h5⟩
    go_wp2_with fail
    go_ret
    exact ⟨rfl, b2.trans b5, _, _, _, h5⟩

set_option maxHeartbeats 1000000 in
theorem closes_any (B g : Nat) (sv : Value) (ss : List Txt) (w : World) (k : Int) (vn vg vo : Value) (nm : List Txt) (gt : List Int) (op : List Bool) (dp : Nat) (b : Bool) (h : Rd B g sv ss w k vn vg vo nm gt (b :: op) dp) (hop : op.length ≤ 4194304) :
    Calls Tryz.prog 100 #[.pointer (some ⟨g, 0, none⟩)] w (RrOut B g sv ss w (.bool b) k nm gt op dp) := by
  have HOR : w.ownsRow (g + 1) 4 1 vo (op.length + 1) (op.reverse.map Value.bool ++ [.bool b]) := by
    have := h.opens
    rw [rev_cons] at this
    unfold OwnV at this
    rwa [List.length_append, List.length_map, List.length_reverse] at this
  obtain ⟨g3, c3, rfl⟩ := ownsRow_succ HOR
  have c4 := h.c4
  have f4 := h.fz 4
  have hcb : w.cell? ⟨g3, op.length, none⟩ = some (.bool b) := by
    obtain ⟨g', o', e, -, hc⟩ := h.opens.see.at_ (k := op.length) (x := .bool b) (by rw [rev_cons, List.getElem?_append_right (by simp)]; simp)
    cases e
    rwa [Nat.zero_add] at hc
  have hcap : op.length + 1 ≤ c3 := by
    obtain ⟨_, q⟩ := HOR
    rcases q with ⟨q, _⟩ | ⟨g2, cap2, cur, q1, q2, q3, q4, q5⟩
    · cases q
    · injection q1 with e1 e2 e3
      omega
  have HR := Lib.hid (row_cut HOR (j := op.length) (by omega))
  have H2 : Hid (Rd B g sv ss (w.setCell ⟨g, 4, none⟩ (.slice (some ⟨g3, 0, none⟩) op.length c3)) k vn vg (.slice (some ⟨g3, 0, none⟩) op.length c3) nm gt op dp) := Lib.hid (h.setOpen (by
    have q := HR.out
    rw [List.take_left' (by simp)] at q
    unfold OwnV
    rw [List.length_map, List.length_reverse]
    exact q))
  clear h HR HOR
  go_enter Tryz.func100, Tryz.ntmps100
  go_wp2_with fail
  go_ret
  exact ⟨rfl, (Below.refl _ _).setCell (by simp) _, _, _, _, H2.out⟩

end Go.Proofs.YtblnonlcjfcblaaGreatDoor
