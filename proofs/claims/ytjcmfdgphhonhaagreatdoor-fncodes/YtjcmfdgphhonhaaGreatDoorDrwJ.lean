/- The draws of plays: l7DrawAny, DrawPlayOk, DrawShowPlay, DrawAllNames, DrawGatesIn, DrawDeedEnd. No conditions but those typed. -/
import Derived.Test.YtjcmfdgphhonhaaGreatDoorDrwI
namespace Go.Proofs.YtjcmfdgphhonhaaGreatDoor
open Go.RowKit
set_option linter.unusedVariables false

/-- A list of signs drawn: at most 101, short, its [ ] not deep. -/
def DrawnP (w : World) (g : Nat) (e : Ending) (w' : World) : Prop := ∃ g' c, ∃ xs : List Txt, e = .returned (.slice (some ⟨g', 0, none⟩) xs.length c) ∧ OwnV w' w.heap.size 9 (.slice (some ⟨g', 0, none⟩) xs.length c) (xs.map str) ∧ xs.length ≤ 101 ∧ upTo 30 xs ∧ Hi 4 xs ∧ Cur w' g ∧ w.grownBy w' (some g)
theorem lvl_stops : ∀ k, lvl (List.replicate k wStop) = 0
  | 0 => rfl
  | k + 1 => by
    rw [List.replicate_succ]
    show (if wStop = wOpen then 1 else if wStop = wShut then -1 else 0) + lvl (List.replicate k wStop) = 0
    rw [if_neg (by decide), if_neg (by decide), lvl_stops k]
    rfl
theorem hi_stops (k : Nat) : Hi 4 (List.replicate k wStop) := fun p q r e => by
  have hq : q = List.replicate q.length wStop := by
    refine List.eq_replicate_iff.2 ⟨rfl, fun b hb => ?_⟩
    have : b ∈ List.replicate k wStop := by rw [e]; simp [hb]
    exact (List.mem_replicate.1 this).2
  rw [hq, lvl_stops]
  omega
theorem upTo_stops (k : Nat) : upTo 30 (List.replicate k wStop) := fun s hs => by
  rw [(List.mem_replicate.1 hs).2]
  decide

set_option maxHeartbeats 8000000 in
set_option maxRecDepth 100000 in
theorem l7DrawAny_any (g : Nat) (w : World) (hc : Cur w g) : Calls Tryz.prog 111 #[.pointer (some ⟨g, 0, none⟩)] w (DrawnP w g) := by
  obtain ⟨i0, hi, hz0, hz1, hz2⟩ := info_parts Tryz.infoStr
  have hgw := hc.lt
  go_enter Tryz.func111, Tryz.ntmps111
  go_wp2_with fail
  refine (l7Draw_any g 4 (by decide) (by decide) _ hc).mono ?_
  rintro e w1 ⟨g1, c1, xs, rfl, o, lx, ux, bx, u1, r⟩
  have hx2 := bx.hi
  clear bx
  go_wp2_with fail
  refine (l1Once_any g _ (by decide) (by decide) _ u1).mono ?_
  rintro e w3 ⟨b, rfl, u, r3⟩
  replace o := o.apart r3 (fun j hj => by cases hj; exact hgw)
  replace r := grown_trans r r3
  have h3 := r.size
  clear r3 u1
  cases b
  · have hx : Hi 4 xs := fun p q r e => by have := hx2 p q r e; omega
    replace lx : xs.length ≤ 101 := by omega
    clear hx2
    go_wp2_with fail
    refine (l1Once_any g _ (by decide) (by decide) _ u).mono ?_
    rintro e w7 ⟨b, rfl, u7, r7⟩
    replace o := o.apart r7 (fun j hj => by cases hj; exact hgw)
    replace r := grown_trans r r7
    have h7 := r.size
    clear r7 u
    cases b
    · go_wp2_with fail
      go_ret
      exact ⟨_, _, xs, rfl, o, lx, ux, hx, u7, r⟩
    · clear o lx ux hx
      have oE := (OwnV.empty w7 w7.heap.size 9 (Nat.le_refl _)).less h7
      have uE := u7.alloc (.cells #[] 9)
      have rE := grown_far r (World.grownBy_alloc w7 (.cells #[] 9) none) (by simp)
      clear u7 r
      go_wp2_with fail
      generalize w7.alloc _ = WE at oE uE rE ⊢
      go_loopw [3] (fun v wr => ∃ (j g' c' : Nat), j ≤ 101 ∧ v = .slice (some ⟨g', 0, none⟩) (List.replicate j wStop).length c' ∧ OwnV wr w.heap.size 9 (.slice (some ⟨g', 0, none⟩) (List.replicate j wStop).length c') ((List.replicate j wStop).map str) ∧ Cur wr g ∧ w.grownBy wr (some g)) (fun v _ => 101 - (match v with | .slice _ n _ => n | _ => 0))
      case atStart => exact ⟨0, _, _, by omega, rfl, oE, uE, rE⟩
      case round =>
        clear oE uE rE
        obtain ⟨j, g', c', hj, rfl, o, u, r⟩ := hrel
        have HJ : Hid ((List.replicate j wStop).length = j) := Lib.hid (by simp)
        have hjl : (List.replicate j wStop).length ≤ 101 := by simp; omega
        have HS := Lib.hid (show List.replicate j wStop ++ [wStop] = List.replicate (j + 1) wStop by rw [List.replicate_succ'])
        have HU := Lib.hid (upTo_stops j)
        have HI := Lib.hid (hi_stops j)
        generalize List.replicate j wStop = xs at o HJ HS HU HI hjl ⊢
        go_wp2_with fail
        refine (l1Below_any g _ (by decide) (by decide) _ u).mono ?_
        rintro e w8 ⟨y, rfl, hy0, hy1, u8, r8⟩
        replace o := o.apart r8 (fun j hj => by cases hj; exact hgw)
        replace r := grown_trans r r8
        have h8 := r.size
        clear r8 u
        by_cases hlt : (xs.length : Int) < 100 + y
        · have hj1 : xs.length ≤ 100 := by omega
          go_wp2_with first
            | (at_builtin; refine wpList_append_own _ rfl _ _ 24 rfl w.heap.size 9 i0 (.string ⟨#[]⟩) 1 16 Tryz.underlying24 hi hz0 hz1 hz2 rfl (by decide) _ _ _ rfl ((o).alloc _) ⟨w8.heap.size, 0, none⟩ 1 1 ([wStop].map str) rfl rfl (World.news_of_block (heap_alloc_new _ _)) (fun u hu => str_one u _ hu) (by unfold maxLen; simp; omega) (by simp; omega) (by simp; omega) ?_; intro v9 w9 hown9 hgr9 hnil9; obtain ⟨g9, k9, rfl, o9, u9, r9⟩ := draw_more (ys := [wStop]) hgw (o.alloc _) (u8.alloc _) (grown_alloc7 r _) rfl hown9 hgr9 hnil9; clear hown9 hgr9 hnil9)
          rw [HS.out] at o9
          have HL9 : Hid (xs.length + 1 = (List.replicate (j + 1) wStop).length) := Lib.hid (by simp; have := HJ.out; omega)
          go_roundw
          case rel => exact ⟨j + 1, g9, k9, by have := HJ.out; omega, by rw [← HL9.out], o9, u9, r9⟩
          case measure =>
            show 101 - (xs.length + 1) < 101 - xs.length
            omega
        · go_wp2_with fail
          go_ret
          exact ⟨_, _, xs, rfl, o, hjl, HU.out, HI.out, u8, r⟩
  · go_wp2_with fail
    refine (l6Bend_big g _ _ xs lx ux _ u o.see).mono ?_
    rintro e w4 ⟨g4, c4, ys, rfl, o4, ly, uy, by4, u4, r4⟩
    have hx : Hi 4 ys := hi_bent hx2 by4
    replace o := o4.less h3
    replace r := grown_trans r r4
    replace lx : ys.length ≤ 101 := by omega
    replace ux := uy
    have u' := u4
    clear r4 u o4 ly uy by4 hx2
    generalize ys = xs at *
    have u := u'
    clear u' u4
    go_wp2_with fail
    refine (l1Once_any g _ (by decide) (by decide) _ u).mono ?_
    rintro e w7 ⟨b, rfl, u7, r7⟩
    replace o := o.apart r7 (fun j hj => by cases hj; exact hgw)
    replace r := grown_trans r r7
    have h7 := r.size
    clear r7 u
    cases b
    · go_wp2_with fail
      go_ret
      exact ⟨_, _, xs, rfl, o, lx, ux, hx, u7, r⟩
    · clear o lx ux hx
      have oE := (OwnV.empty w7 w7.heap.size 9 (Nat.le_refl _)).less h7
      have uE := u7.alloc (.cells #[] 9)
      have rE := grown_far r (World.grownBy_alloc w7 (.cells #[] 9) none) (by simp)
      clear u7 r
      go_wp2_with fail
      generalize w7.alloc _ = WE at oE uE rE ⊢
      go_loopw [3] (fun v wr => ∃ (j g' c' : Nat), j ≤ 101 ∧ v = .slice (some ⟨g', 0, none⟩) (List.replicate j wStop).length c' ∧ OwnV wr w.heap.size 9 (.slice (some ⟨g', 0, none⟩) (List.replicate j wStop).length c') ((List.replicate j wStop).map str) ∧ Cur wr g ∧ w.grownBy wr (some g)) (fun v _ => 101 - (match v with | .slice _ n _ => n | _ => 0))
      case atStart => exact ⟨0, _, _, by omega, rfl, oE, uE, rE⟩
      case round =>
        clear oE uE rE
        obtain ⟨j, g', c', hj, rfl, o, u, r⟩ := hrel
        have HJ : Hid ((List.replicate j wStop).length = j) := Lib.hid (by simp)
        have hjl : (List.replicate j wStop).length ≤ 101 := by simp; omega
        have HS := Lib.hid (show List.replicate j wStop ++ [wStop] = List.replicate (j + 1) wStop by rw [List.replicate_succ'])
        have HU := Lib.hid (upTo_stops j)
        have HI := Lib.hid (hi_stops j)
        generalize List.replicate j wStop = xs at o HJ HS HU HI hjl ⊢
        go_wp2_with fail
        refine (l1Below_any g _ (by decide) (by decide) _ u).mono ?_
        rintro e w8 ⟨y, rfl, hy0, hy1, u8, r8⟩
        replace o := o.apart r8 (fun j hj => by cases hj; exact hgw)
        replace r := grown_trans r r8
        have h8 := r.size
        clear r8 u
        by_cases hlt : (xs.length : Int) < 100 + y
        · have hj1 : xs.length ≤ 100 := by omega
          go_wp2_with first
            | (at_builtin; refine wpList_append_own _ rfl _ _ 24 rfl w.heap.size 9 i0 (.string ⟨#[]⟩) 1 16 Tryz.underlying24 hi hz0 hz1 hz2 rfl (by decide) _ _ _ rfl ((o).alloc _) ⟨w8.heap.size, 0, none⟩ 1 1 ([wStop].map str) rfl rfl (World.news_of_block (heap_alloc_new _ _)) (fun u hu => str_one u _ hu) (by unfold maxLen; simp; omega) (by simp; omega) (by simp; omega) ?_; intro v9 w9 hown9 hgr9 hnil9; obtain ⟨g9, k9, rfl, o9, u9, r9⟩ := draw_more (ys := [wStop]) hgw (o.alloc _) (u8.alloc _) (grown_alloc7 r _) rfl hown9 hgr9 hnil9; clear hown9 hgr9 hnil9)
          rw [HS.out] at o9
          have HL9 : Hid (xs.length + 1 = (List.replicate (j + 1) wStop).length) := Lib.hid (by simp; have := HJ.out; omega)
          go_roundw
          case rel => exact ⟨j + 1, g9, k9, by have := HJ.out; omega, by rw [← HL9.out], o9, u9, r9⟩
          case measure =>
            show 101 - (xs.length + 1) < 101 - xs.length
            omega
        · go_wp2_with fail
          go_ret
          exact ⟨_, _, xs, rfl, o, hjl, HU.out, HI.out, u8, r⟩

/-- A list of signs, and what is read of it. -/
def SignsDrawn (w : World) (e : Ending) (w' : World) : Prop := ∃ g' c', ∃ xs : List Txt, e = .returned (.slice (some ⟨g', 0, none⟩) xs.length c') ∧ SeeV w' w'.heap.size (.slice (some ⟨g', 0, none⟩) xs.length c') (xs.map str) ∧ xs.length ≤ 101 ∧ upTo 30 xs ∧ Hi 4 xs ∧ Below w.heap.size w w'

set_option maxHeartbeats 2000000 in
theorem drawPlayOk_any (A : Option Addr) (n c : Nat) (hn : n ≤ 4096) (w : World) (hs : SeeB w w.heap.size A n) : Calls Tryz.prog 52 #[.slice A n c] w (SignsDrawn w) := by
  go_enter Tryz.func52, Tryz.ntmps52
  go_wp2_with fail
  refine (l1New_any A n c hn _ hs).mono ?_
  rintro e w1 ⟨rfl, u1, b1⟩
  go_wp2_with fail
  refine (l7DrawAny_any _ _ u1).mono ?_
  rintro e w2 ⟨g2, c2, xs, rfl, o2, lx, ux, hx, u2, r2⟩
  go_wp2_with fail
  go_ret
  exact ⟨_, _, xs, rfl, o2.see, lx, ux, hx, below_cur b1 r2⟩

set_option maxHeartbeats 2000000 in
theorem drawCodeOf_any (A : Option Addr) (n c : Nat) (hn : n ≤ 4096) (w : World) (hs : SeeB w w.heap.size A n) : Calls Tryz.prog 8 #[.slice A n c] w (SignsDrawn w) := by
  go_enter Tryz.func8, Tryz.ntmps8
  go_wp2_with fail
  refine (drawPlayOk_any A n c hn _ hs).mono ?_
  rintro e w1 ⟨g', c', xs, rfl, h⟩
  go_wp2_with fail
  go_ret
  exact ⟨g', c', xs, rfl, h⟩

/-- A list of signs and a place. -/
def PlaceDrawn (w : World) (e : Ending) (w' : World) : Prop := ∃ g' c', ∃ (xs : List Txt) (a : Int), e = .returned (.tuple #[.slice (some ⟨g', 0, none⟩) xs.length c', .int .i64 a]) ∧ SeeV w' w'.heap.size (.slice (some ⟨g', 0, none⟩) xs.length c') (xs.map str) ∧ xs.length ≤ 101 ∧ upTo 30 xs ∧ Hi 4 xs ∧ -1 ≤ a ∧ a ≤ xs.length ∧ Below w.heap.size w w'

end Go.Proofs.YtjcmfdgphhonhaaGreatDoor
