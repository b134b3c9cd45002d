/- Layer 8 (steps): the draws of lists of ops; likeOps of two alike. No conditions but those typed. likeOps of two alike; how long a play's code is. No conditions but those typed. -/
import Derived.Test.YtjcmfdgphhonhaaGreatDoorCodR
import Derived.Test.YtjcmfdgphhonhaaGreatDoorCodWz
import Derived.Test.YtjcmfdgphhonhaaGreatDoorPlaR
import Derived.Test.YtjcmfdgphhonhaaGreatDoorCodP
import Derived.Test.YtjcmfdgphhonhaaGreatDoorListA
namespace Go.Proofs.YtjcmfdgphhonhaaGreatDoor
open Go.RowKit
set_option linter.unusedVariables false

def OpDrawn (w : World) (e : Ending) (w' : World) : Prop := ∃ o : Opv, e = .returned (.agg #[.int .i64 o.1, .int .i64 o.2.1, str o.2.2]) ∧ o.2.2.length ≤ 10 ∧ Below w.heap.size w w'
def shortO (cs : List Opv) : Prop := ∀ o ∈ cs, o.2.2.length ≤ 10
def OpsDraw (m : Nat) (w : World) (g : Nat) (e : Ending) (w' : World) : Prop := ∃ g' c, ∃ cs : List Opv, e = .returned (.slice (some ⟨g', 0, none⟩) cs.length c) ∧ OwnOp w' w.heap.size 30 (.slice (some ⟨g', 0, none⟩) cs.length c) cs ∧ cs.length ≤ m ∧ shortO cs ∧ Cur w' g ∧ w.grownBy w' (some g)
def OpsDrawn (w : World) (e : Ending) (w' : World) : Prop := ∃ g' c, ∃ cs : List Opv, e = .returned (.slice (some ⟨g', 0, none⟩) cs.length c) ∧ SeeOp w' w'.heap.size (.slice (some ⟨g', 0, none⟩) cs.length c) cs ∧ cs.length ≤ 300 ∧ shortO cs ∧ Below w.heap.size w w'

set_option maxHeartbeats 2000000 in
theorem drawOpOk_any (A : Option Addr) (n c : Nat) (hn : n ≤ 4096) (w : World) (hs : SeeB w w.heap.size A n) : Calls Tryz.prog 11 #[.slice A n c] w (OpDrawn w) := by
  have rr := heap_alloc_new w (.cells #[.int .i64 0, .int .i64 0, .string ⟨#[]⟩] 30)
  go_enter Tryz.func11, Tryz.ntmps11
  go_wp2_with fail
  have b0 : Below w.heap.size w (w.alloc (.cells #[.int .i64 0, .int .i64 0, .string ⟨#[]⟩] 30)) := (Below.refl _ _).alloc (Nat.le_refl _) _
  have hs0 := (hs.keep fun p hp => b0.cell hp).more b0.size
  refine (l1New_any A n c hn _ hs0).mono ?_
  rintro e w1 ⟨rfl, u1, b1⟩
  have R1 := (b1.block w.heap.size (by simp)).trans rr
  have bb1 := b0.trans (b1.mono b0.size)
  clear hs0 b0 b1 rr hs
  rw [World.size_alloc] at u1 ⊢
  go_wp2_with fail
  refine (l8DrawAny_any _ _ u1).mono ?_
  rintro e w2 ⟨⟨a, m, s⟩, rfl, ho, c2, g2⟩
  have zb := (g2.block w.heap.size (Array.getElem?_eq_some_iff.1 R1).1 (by intro e; injection e with e; omega)).trans R1
  have bb := bb1.grown g2 bb1.size (fun k hk => by injection hk with hk; omega)
  clear u1 R1 bb1 c2 g2
  have z0 : w2.cell? ⟨w.heap.size, 0, none⟩ = some (.int .i64 0) := by rw [cell_of_row _ _ 0 _ _ (0, 0) zb]; rfl
  have z1 : w2.cell? ⟨w.heap.size, 1, none⟩ = some (.int .i64 0) := by rw [cell_of_row _ _ 1 _ _ (0, 0) zb]; rfl
  have z2 : w2.cell? ⟨w.heap.size, 2, none⟩ = some (str []) := by rw [cell_of_row _ _ 2 _ _ (0, 0) zb]; rfl
  have f0 := frozen_row (k := 0) zb
  have f1 := frozen_row (k := 1) zb
  have f2 := frozen_row (k := 2) zb
  have hZ : Hid ((set3 w2 w.heap.size (.int .i64 a) (.int .i64 m) (str s)).heap[w.heap.size]? = some (.cells #[.int .i64 a, .int .i64 m, str s] 30 (0, 0)) ∧ Below w.heap.size w (set3 w2 w.heap.size (.int .i64 a) (.int .i64 m) (str s))) := Lib.hid ⟨by unfold set3; rw [heap_set (heap_set (heap_set zb _) _) _]; rfl, ((bb.setCell (by simp) _).setCell (by simp) _).setCell (by simp) _⟩
  unfold set3 at hZ
  clear zb bb
  go_wp2_with fail
  generalize World.setCell _ _ _ = W6 at hZ ⊢
  obtain ⟨bZ, gZ⟩ := hZ.out
  have y0 : W6.cell? ⟨w.heap.size, 0, none⟩ = some (.int .i64 a) := by rw [cell_of_row _ _ 0 _ _ (0, 0) bZ]; rfl
  have y1 : W6.cell? ⟨w.heap.size, 1, none⟩ = some (.int .i64 m) := by rw [cell_of_row _ _ 1 _ _ (0, 0) bZ]; rfl
  have y2 : W6.cell? ⟨w.heap.size, 2, none⟩ = some (str s) := by rw [cell_of_row _ _ 2 _ _ (0, 0) bZ]; rfl
  exact bodyPost_ret (v := .agg #[.int .i64 a, .int .i64 m, str s]) (by simp [results, Tryz.results11, go_sem, y0, y1, y2]) rfl ⟨(a, m, s), rfl, ho, gZ⟩

/-- An append of one op, under draws. -/
theorem op_draw {w W w1 : World} {g gv k c : Nat} {v' : Value} {xs : List Opv} {o : Opv} (hg : g < w.heap.size) (ho : OwnOp W w.heap.size 30 (.slice (some ⟨gv, 0, none⟩) k c) xs) (hc : Cur W g) (hw : w.grownBy W (some g))
    (h1 : w1.ownsRow w.heap.size 30 3 v' (xs.length + 1) ((xs.map opV).flatten ++ opV o)) (hgr : W.grownBy w1 (some gv)) :
    ∃ g4 c4, v' = .slice (some ⟨g4, 0, none⟩) (xs.length + 1) c4 ∧ OwnOp w1 w.heap.size 30 (.slice (some ⟨g4, 0, none⟩) (xs.length + 1) c4) (xs ++ [o]) ∧ Cur w1 g ∧ w.grownBy w1 (some g) := by
  have hr : w.heap.size ≤ gv := (ho.lt gv rfl).1
  obtain ⟨g2, c2, rfl, o2, b2⟩ := op_more ho h1 hgr hw.size
  exact ⟨g2, c2, by simp, by simpa using o2, hc.apart hgr (fun j hj => by cases hj; omega), grown_then hw b2⟩

set_option maxHeartbeats 4000000 in
theorem l8Draw_any (g : Nat) (w : World) (hc : Cur w g) : Calls Tryz.prog 58 #[.pointer (some ⟨g, 0, none⟩), .int .i64 4] w (OpsDraw 101 w g) := by
  obtain ⟨i0, hi, hz0, hz1, hz2⟩ := info_parts Tryz.infoOp
  have hlt := hc.lt
  go_enter Tryz.func58, Tryz.ntmps58
  go_wp2_with fail
  refine (l1Once_any g _ (by decide) (by decide) _ hc).mono ?_
  rintro e w1 ⟨b, rfl, c1, g1⟩
  have h1 := g1.size
  cases b
  · go_wp2_with fail
    refine (l7Draw_any g 4 (by decide) (by decide) _ c1).mono ?_
    rintro e w2 ⟨gx, cx, xs, rfl, ox, hxl, hxu, -, c2, g2⟩
    replace g2 := grown_trans g1 g2
    have h2 := g2.size
    clear c1 g1
    go_wp2_with fail
    refine (sCodeOf_any _ _ xs _ ox.see (Nat.le_refl _) (upTo_short hxu) (by omega)).mono ?_
    rintro e w3 ⟨g3, k3, rfl, o3, b3⟩
    have HS : Hid (shortO (codeP xs) ∧ (codeP xs).length ≤ 101) := Lib.hid (by
      cases hp : playB xs with
      | false => rw [code_no hp]; exact ⟨fun o ho => by simp at ho, by simp⟩
      | true =>
        obtain ⟨cs, e1, e2, e3⟩ := code_good hp
        rw [e1]
        refine ⟨fun o ho => ?_, by simp; omega⟩
        rcases List.mem_append.1 ho with q | q
        · have := (op_facts (e3 o q).1).1; omega
        · have : o = (10, 0, []) := by simpa using q
          subst this; simp)
    generalize codeP xs = cs at o3 HS ⊢
    have c3 := c2.later b3
    replace g2 := grown_then g2 (b3.mono h2)
    clear c2 b3 ox
    go_wp2_with fail
    go_ret
    exact ⟨_, _, cs, rfl, o3.less h2, HS.out.2, HS.out.1, c3, g2⟩
  · have oE := (OwnOp.empty w1 30).less h1
    have cE := c1.alloc (.cells #[] 30)
    have gE := grown_then g1 ((Below.refl w.heap.size w1).alloc h1 (.cells #[] 30))
    go_wp2_with fail
    refine (l1Below_any g _ (by decide) (by decide) _ cE).mono ?_
    rintro e w2 ⟨y, rfl, hy0, hy1, c2, g2⟩
    have o2 := oE.apart g2 (fun j hj => by injection hj with hj; omega)
    replace g2 := grown_trans gE g2
    have h2 := g2.size
    clear c1 g1 oE cE gE
    go_wp2_with fail
    go_loopw [5, 6] (fun tx i wr => ∃ (g' c' : Nat) (cs : List Opv) (z : Int), 0 ≤ z ∧ cs.length + z ≤ 6 ∧ i = .int .i64 z ∧ tx = .slice (some ⟨g', 0, none⟩) cs.length c' ∧ OwnOp wr w.heap.size 30 (.slice (some ⟨g', 0, none⟩) cs.length c') cs ∧ shortO cs ∧ Cur wr g ∧ w.grownBy wr (some g)) (fun _ i _ => (intOf i).toNat)
    case atStart => exact ⟨_, _, [], y, hy0, by simp; omega, rfl, rfl, o2, (fun o ho => by simp at ho), c2, g2⟩
    case round =>
      clear o2 c2 g2 h2
      obtain ⟨g', c', cs, z, hz0', hzl, rfl, rfl, ho, hsh, hcu, hgr⟩ := hrel
      have hsz := hgr.size
      by_cases hz : 0 < z
      · go_wp2_with fail
        refine (l8DrawOp_any g _ hcu).mono ?_
        rintro e w3 ⟨o, rfl, hol, c3, g3⟩
        have o3 := ho.apart g3 (fun j hj => by injection hj with hj; omega)
        replace g3 := grown_trans hgr g3
        have h3 := g3.size
        have oA := o3.alloc (.cells #[.int .i64 o.1, .int .i64 o.2.1, str o.2.2] 30)
        have cA := c3.alloc (.cells #[.int .i64 o.1, .int .i64 o.2.1, str o.2.2] 30)
        have gA := grown_then g3 ((Below.refl w.heap.size w3).alloc h3 (.cells #[.int .i64 o.1, .int .i64 o.2.1, str o.2.2] 30))
        have HSH : Hid (shortO (cs ++ [o])) := Lib.hid (fun q hq => by
          rcases List.mem_append.1 hq with q1 | q1
          · exact hsh q q1
          · have : q = o := by simpa using q1
            subst this; exact hol)
        clear ho hcu hgr o3 c3 g3 hsh
        go_wp2_with (at_builtin; refine wpList_append_own _ rfl _ _ 26 rfl w.heap.size 30 i0 (.agg #[.int .i64 0, .int .i64 0, .string ⟨#[]⟩]) 3 32 Tryz.underlying26 hi hz0 hz1 hz2 rfl (by decide) _ _ _ rfl oA.row ⟨w3.heap.size, 0, none⟩ 1 1 (opV o) rfl rfl (op_new _ _ _ _ _) (op_one o) ?c1 ?c2 ?c3 ?_)
        case c1 => unfold maxLen; omega
        case c2 => omega
        case c3 => simp; omega
        intro v9 w9 hown9 hgr9 _
        obtain ⟨g4, c4, rfl, o4, cu4, gr4⟩ := op_draw hlt oA cA gA hown9 hgr9
        clear hown9 hgr9 oA cA gA
        go_wp2
        go_roundw
        case rel => exact ⟨g4, c4, cs ++ [o], z - 1, by omega, by simp; omega, by go_num, by simp, by simpa using o4, HSH.out, cu4, gr4⟩
        case measure => simp [intOf]; omega
      · go_wp2_with fail
        go_ret
        exact ⟨_, _, cs, rfl, ho, by omega, hsh, hcu, hgr⟩

set_option maxHeartbeats 4000000 in
theorem drawShowCode_any (A : Option Addr) (n c : Nat) (hn : n ≤ 4096) (w : World) (hs : SeeB w w.heap.size A n) : Calls Tryz.prog 10 #[.slice A n c] w (OpsDrawn w) := by
  obtain ⟨i0, hi, hz0, hz1, hz2⟩ := info_parts Tryz.infoOp
  go_enter Tryz.func10, Tryz.ntmps10
  go_wp2_with fail
  refine (l1New_any A n c hn _ hs).mono ?_
  rintro e w1 ⟨rfl, u1, b1⟩
  have hlt := u1.lt
  go_wp2_with fail
  refine (l8Draw_any _ _ u1).mono ?_
  rintro e w2 ⟨g2, c2, cs, rfl, o2, lx, hsh, u2, r2⟩
  go_wp2_with fail
  refine (l1Once_any _ _ (by decide) (by decide) _ u2).mono ?_
  rintro e w3 ⟨b, rfl, u3, r3⟩
  have o3 := o2.apart r3 (fun j hj => by injection hj with hj; omega)
  replace r3 := grown_trans r2 r3
  have h3 := r3.size
  clear o2 u2 r2
  cases b
  · go_wp2_with fail
    go_ret
    exact ⟨_, _, cs, rfl, o3.see, by omega, hsh, below_cur b1 r3⟩
  · go_wp2_with fail
    refine (l8DrawAny_any _ _ u3).mono ?_
    rintro e w4 ⟨o, rfl, hol, u4, r4⟩
    have o4 := o3.apart r4 (fun j hj => by injection hj with hj; omega)
    replace r4 := grown_trans r3 r4
    have h4 := r4.size
    have oA := o4.alloc (.cells #[.int .i64 o.1, .int .i64 o.2.1, str o.2.2] 30)
    have cA := u4.alloc (.cells #[.int .i64 o.1, .int .i64 o.2.1, str o.2.2] 30)
    have gA := grown_then r4 ((Below.refl w1.heap.size w4).alloc h4 (.cells #[.int .i64 o.1, .int .i64 o.2.1, str o.2.2] 30))
    have HSH : Hid (shortO (cs ++ [o])) := Lib.hid (fun q hq => by
      rcases List.mem_append.1 hq with q1 | q1
      · exact hsh q q1
      · have : q = o := by simpa using q1
        subst this; exact hol)
    clear o3 u3 r3 o4 u4 r4 hsh
    go_wp2_with (at_builtin; refine wpList_append_own _ rfl _ _ 26 rfl w1.heap.size 30 i0 (.agg #[.int .i64 0, .int .i64 0, .string ⟨#[]⟩]) 3 32 Tryz.underlying26 hi hz0 hz1 hz2 rfl (by decide) _ _ _ rfl oA.row ⟨w4.heap.size, 0, none⟩ 1 1 (opV o) rfl rfl (op_new _ _ _ _ _) (op_one o) ?c1 ?c2 ?c3 ?_)
    case c1 => unfold maxLen; omega
    case c2 => omega
    case c3 => simp; omega
    intro v9 w9 hown9 hgr9 _
    obtain ⟨g5, c5, rfl, o5, cu5, gr5⟩ := op_draw hlt oA cA gA hown9 hgr9
    clear hown9 hgr9 oA cA gA
    go_wp2_with fail
    go_ret
    exact ⟨g5, c5, cs ++ [o], by simp, by simpa using o5.see, by simp; omega, HSH.out, below_cur b1 gr5⟩

end Go.Proofs.YtjcmfdgphhonhaaGreatDoor

namespace Go.Proofs.YtjcmfdgphhonhaaGreatDoor
open Go.RowKit
set_option linter.unusedVariables false

theorem SeeOp.next {w w' : World} {v : Value} {xs : List Opv} (h : SeeOp w w.heap.size v xs) (b : Below w.heap.size w w') : SeeOp w' w'.heap.size v xs := (h.below b).more b.size

set_option maxHeartbeats 2000000 in
theorem likeOps_same (B : Nat) (va vb : Value) (xs : List Opv) (w : World) (hB : B ≤ w.heap.size) (ha : SeeOp w B va xs) (hb : SeeOp w B vb xs) :
    Calls Tryz.prog 12 #[va, vb] w (BoolLt w true) := by
  obtain ⟨A, ca, rfl⟩ := ha.shape
  obtain ⟨A', cb, rfl⟩ := hb.shape
  have hm := ha.len
  unfold maxLen at hm
  have hb1 : ((xs.length : Int) != (xs.length : Int)) = false := by simp
  go_enter Tryz.func12, Tryz.ntmps12
  go_wp2_with fail
  clear hb1
  go_loopw [5] (fun i wr => ∃ k : Nat, k ≤ xs.length ∧ i = .int .i64 k ∧ Below w.heap.size w wr) (fun i _ => xs.length - (intOf i).toNat)
  case atStart => exact ⟨0, Nat.zero_le _, rfl, Below.refl _ _⟩
  case round =>
    obtain ⟨k, hk, rfl, hbw⟩ := hrel
    by_cases hlt : k < xs.length
    · have hx := List.getElem?_eq_getElem hlt
      generalize xs[k] = b at hx
      obtain ⟨g, o, rfl, -, c0, c1, c2⟩ := (ha.below (hbw.mono hB)).at_ hx
      obtain ⟨g', o', rfl, -, d0, d1, d2⟩ := (hb.below (hbw.mono hB)).at_ hx
      obtain ⟨n, x, z⟩ := b
      dsimp only at c0 c1 c2 d0 d1 d2
      have hf0 : (n != n) = false := by simp
      have hf1 : (x != x) = false := by simp
      have hf2 : (!(z == z)) = false := by simp
      have hHB := Lib.hid hbw
      clear hx ha hb hbw
      go_wp2_with fail
      go_quiet (fail)
      go_wp2
      go_roundw
      case rel => exact ⟨k + 1, by omega, by go_num, below_drewN hHB.out _⟩
      case measure => simp [intOf]; omega
    · obtain rfl : k = xs.length := by omega
      go_wp2_with fail
      go_ret
      exact ⟨rfl, hbw⟩

theorem codeP_le9 (ss : List Txt) : (codeP ss).length ≤ 101 := by
  cases hp : playB ss with
  | false => rw [code_no hp]; simp
  | true =>
    obtain ⟨hT, hC, hl⟩ := code_yes hp
    have := hT.len
    rw [hC]
    simp
    omega

end Go.Proofs.YtjcmfdgphhonhaaGreatDoor
