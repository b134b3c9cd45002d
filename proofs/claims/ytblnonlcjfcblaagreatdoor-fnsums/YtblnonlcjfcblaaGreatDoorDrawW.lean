/- The draws of layer 6: boxes drawn; DrawSumOf and DrawValueIn. Only bounds are kept. -/
import Derived.Test.YtblnonlcjfcblaaGreatDoorDrawV
namespace Go.Proofs.YtblnonlcjfcblaaGreatDoor
open Go.RowKit
set_option linter.unusedVariables false

def BxsOut (m : Nat) (w : World) (g : Nat) (e : Ending) (w' : World) : Prop := ∃ g' c', ∃ bs : List Bx, e = .returned (.slice (some ⟨g', 0, none⟩) bs.length c') ∧ OwnBx w' w.heap.size 86 (.slice (some ⟨g', 0, none⟩) bs.length c') bs ∧ bs.length ≤ m ∧ upB 10 bs ∧ Cur w' g ∧ w.grownBy w' (some g)

set_option maxHeartbeats 4000000 in
set_option maxRecDepth 100000 in
theorem l6DrawBoxes_any (g : Nat) (w : World) (hc : Cur w g) : Calls Tryz.prog 102 #[.pointer (some ⟨g, 0, none⟩)] w (BxsOut 5 w g) := by
  have hgw := hc.lt
  have oE := OwnBx.empty w 86
  have uE := hc.alloc (.cells #[] 86)
  have rE := World.grownBy_alloc w (.cells #[] 86) (some g)
  go_enter Tryz.func102, Tryz.ntmps102
  go_wp2_with fail
  generalize w.alloc _ = WE at oE uE rE ⊢
  refine (l1Below_any g _ (by decide) (by decide) _ uE).mono ?_
  rintro e w1 ⟨d, rfl, hd0, hd1, u1, r1⟩
  have o1 := oE.apart r1 (fun j hj => by cases hj; exact hgw)
  replace r1 := grown_trans rE r1
  clear oE uE rE
  go_wp2_with fail
  go_loopw [3, 4] (fun v i wr => ∃ (j g' c' : Nat) (bs : List Bx), i = .int .i64 (j : Int) ∧ v = .slice (some ⟨g', 0, none⟩) bs.length c' ∧ bs.length + j ≤ 5 ∧ OwnBx wr w.heap.size 86 (.slice (some ⟨g', 0, none⟩) bs.length c') bs ∧ upB 10 bs ∧ Cur wr g ∧ w.grownBy wr (some g)) (fun _ i _ => (intOf i).toNat)
  case atStart => exact ⟨d.toNat, _, _, [], by congr 1; omega, rfl, by simp; omega, o1, fun b hb => by simp at hb, u1, r1⟩
  case round =>
    obtain ⟨j, g', c', bs, rfl, rfl, hl, o, ub, u, r⟩ := hrel
    by_cases hj : j = 0
    · subst hj
      go_wp2_with fail
      go_ret
      exact ⟨g', c', bs, rfl, o, by omega, ub, u, r⟩
    · have hj' : 0 < j := by omega
      go_wp2_with fail
      refine (l5DrawName_any g _ u).mono ?_
      rintro e w2 ⟨t, rfl, ht, u2, r2⟩
      replace o := o.apart r2 (fun j hj => by cases hj; exact hgw)
      replace r := grown_trans r r2
      clear r2 u
      go_wp2_with fail
      refine (l5Draw_any g _ u2).mono ?_
      rintro e w3 ⟨y, rfl, hy0, hy1, u3, r3⟩
      replace o := o.apart r3 (fun j hj => by cases hj; exact hgw)
      replace r := grown_trans r r3
      clear r3 u2
      go_wp2_with fail
      refine (l6Set_any w.heap.size g' c' bs t y _ o r.size (by omega) ub ht).mono ?_
      rintro e w4 ⟨g4, c4, bs4, is, rfl, o4, l4, ub4, r4⟩
      have hg' := (o.lt g' rfl).1
      have u4 := u3.apart r4 (fun j hj => by cases hj; omega)
      replace r := grown_far r r4 (fun j hj => by cases hj; exact hg')
      clear o u3 r4
      go_wp2_with fail
      go_roundw
      case rel => exact ⟨j - 1, g4, c4, bs4, by go_num, rfl, by omega, o4, ub4, u4, r⟩
      case measure => simp [intOf]; omega
theorem toNat_small {n : Nat} (h : n < 256) : ((UInt8.ofNat n).toNat : Int) = n := by
  have : (UInt8.ofNat n).toNat = n % 256 := by simp
  omega

set_option maxHeartbeats 8000000 in
set_option maxRecDepth 100000 in
theorem l6DrawAny_any (g : Nat) (w : World) (hc : Cur w g) : Calls Tryz.prog 67 #[.pointer (some ⟨g, 0, none⟩)] w (BxsOut 13 w g) := by
  obtain ⟨i0, hi, hz0, hz1, hz2⟩ := info_parts Tryz.infoBox
  have hgw := hc.lt
  go_enter Tryz.func67, Tryz.ntmps67
  go_wp2_with fail
  refine (l6DrawBoxes_any g _ hc).mono ?_
  rintro e w1 ⟨g1, c1, bs, rfl, o, lb, ub, u1, r⟩
  have hg1 := (o.lt g1 rfl).1
  go_wp2_with fail
  refine (l1Once_any g _ (by decide) (by decide) _ u1).mono ?_
  rintro e w2 ⟨b, rfl, u2, r2⟩
  replace o := o.apart r2 (fun j hj => by cases hj; exact hgw)
  replace r := grown_trans r r2
  clear r2 u1
  cases b
  · go_wp2_with fail
    go_ret
    exact ⟨g1, c1, bs, rfl, o, by omega, ub, u2, r⟩
  go_wp2_with fail
  refine (l1Below_any g _ (by decide) (by decide) _ u2).mono ?_
  rintro e w3 ⟨q, rfl, hq0, hq1, u, r3⟩
  replace o := o.apart r3 (fun j hj => by cases hj; exact hgw)
  replace r := grown_trans r r3
  have hsz := r.size
  clear r3 u2
  rcases (show q = 0 ∨ q = 1 ∨ q = 2 by omega) with rfl | rfl | rfl
  · clear hq0 hq1
    go_wp2_with fail
    refine (l5DrawNameAny_any g _ u).mono ?_
    rintro e w4 ⟨t, rfl, ht, u4, r4⟩
    replace o := o.apart r4 (fun j hj => by cases hj; exact hgw)
    replace r := grown_trans r r4
    clear r4 u
    go_wp2_with fail
    refine (l5DrawAny_any g _ u4).mono ?_
    rintro e w5 ⟨y, rfl, hy0, hy1, u5, r5⟩
    replace o := o.apart r5 (fun j hj => by cases hj; exact hgw)
    replace r := grown_trans r r5
    have h5 := r.size
    clear r5 u4
    go_wp2_with first
      | (at_builtin; refine wpList_append_own _ rfl _ _ 44 rfl w.heap.size 86 i0 (.agg #[.string ⟨#[]⟩, .int .i64 0]) 2 24 Tryz.underlying44 hi hz0 hz1 hz2 rfl (by decide) _ _ _ rfl (o.alloc _).row ⟨w5.heap.size, 0, none⟩ 1 1 [str t, .int .i64 y] rfl rfl (bx_new _ _ _ _) (fun u hu => bx_one [(t, y)] u hu) (by unfold maxLen; omega) (by omega) (by simp; omega) ?_; intro v6 w6 hown6 hgr6 hnil6; (obtain ⟨g6, c6, rfl, o6⟩ := bx_more (ys := [(t, y)]) (o.alloc (.cells #[str t, .int .i64 y] 86)) rfl hown6 hnil6))
    go_ret
    have u6 := (u5.alloc (.cells #[str t, .int .i64 y] 86)).apart hgr6 (fun j hj => by cases (show some g1 = some j from hj); omega)
    have r6 := grown_far (grown_far r (World.grownBy_alloc w5 (.cells #[str t, .int .i64 y] 86) none) (by simp)) hgr6 (fun j hj => by cases hj; exact hg1)
    exact ⟨g6, c6, bs ++ [(t, y)], ret_len (by simp), o6, by simp; omega, upB_app ub (upB_one ht), u6, r6⟩
  · clear hq0 hq1
    have HN := Lib.hid (bx_news o.see)
    go_wp2_with first
      | (at_builtin; refine wpList_append_own _ rfl _ _ 44 rfl w.heap.size 86 i0 (.agg #[.string ⟨#[]⟩, .int .i64 0]) 2 24 Tryz.underlying44 hi hz0 hz1 hz2 rfl (by decide) _ _ _ rfl o.row ⟨g1, 0, none⟩ bs.length c1 (bs.map boxV).flatten rfl (bx_len bs) HN.out (fun u hu => bx_one _ u hu) (by unfold maxLen; omega) (by omega) hsz ?_; intro v6 w6 hown6 hgr6 hnil6; (obtain ⟨g6, c6, rfl, o6⟩ := bx_more (ys := bs) o rfl hown6 hnil6))
    go_ret
    exact ⟨g6, c6, bs ++ bs, ret_len (by simp), o6, by simp; omega, upB_app ub ub, u.apart hgr6 (fun j hj => by cases (show some g1 = some j from hj); omega), grown_far r hgr6 (fun j hj => by cases hj; exact hg1)⟩
  · clear hq0 hq1 o hg1
    have oE := (OwnBx.empty w3 86).less hsz
    have uE := u.alloc (.cells #[] 86)
    have rE := grown_far r (World.grownBy_alloc w3 (.cells #[] 86) none) (by simp)
    clear u r
    go_wp2_with fail
    generalize w3.alloc _ = WE at oE uE rE ⊢
    go_loopw [3, 4] (fun v i wr => ∃ (j g' c' : Nat) (bs : List Bx), j ≤ 13 ∧ i = .int .i64 (j : Int) ∧ v = .slice (some ⟨g', 0, none⟩) bs.length c' ∧ bs.length ≤ j ∧ OwnBx wr w.heap.size 86 (.slice (some ⟨g', 0, none⟩) bs.length c') bs ∧ upB 10 bs ∧ Cur wr g ∧ w.grownBy wr (some g)) (fun _ i _ => 13 - (intOf i).toNat)
    case atStart => exact ⟨0, _, _, [], by omega, rfl, rfl, Nat.le_refl _, oE, fun b hb => by simp at hb, uE, rE⟩
    case round =>
      obtain ⟨j, g', c', bs, hj, rfl, rfl, hl, o, ub, u, r⟩ := hrel
      go_wp2_with fail
      refine (l1Below_any g _ (by decide) (by decide) _ u).mono ?_
      rintro e w4 ⟨y, rfl, hy0, hy1, u4, r4⟩
      replace o := o.apart r4 (fun j hj => by cases hj; exact hgw)
      replace r := grown_trans r r4
      have h4 := r.size
      have hg' := (o.lt g' rfl).1
      clear r4 u
      by_cases hlt : (j : Int) < 12 + y
      · have hj13 : j < 13 := by omega
        have hcv := conv_digit w4 (100 + (j : Int)) (UInt8.ofNat (100 + j)) (by rw [toNat_small (by omega)]; omega)
        generalize UInt8.ofNat (100 + j) = b at hcv
        have HN : Hid (∀ i u, [str [b], Value.int .i64 (j : Int)][i]? = some u → ((w4.alloc (.cells #[.int .u8 (100 + (j : Int))] 5)).alloc (.cells #[str [b], .int .i64 (j : Int)] 86)).cell? ((⟨w4.heap.size + 1, 0, none⟩ : Addr).add i) = some u) := Lib.hid (by
          have := bx_new (w4.alloc (.cells #[.int .u8 (100 + (j : Int))] 5)) (str [b]) (.int .i64 (j : Int)) 86
          rw [World.size_alloc] at this
          exact this)
        have o5 := (o.alloc (.cells #[.int .u8 (100 + (j : Int))] 5)).alloc (.cells #[str [b], .int .i64 (j : Int)] 86)
        have u5 := (u4.alloc (.cells #[.int .u8 (100 + (j : Int))] 5)).alloc (.cells #[str [b], .int .i64 (j : Int)] 86)
        have r5 := grown_far (grown_far r (World.grownBy_alloc w4 (.cells #[.int .u8 (100 + (j : Int))] 5) none) (by simp)) (World.grownBy_alloc (w4.alloc (.cells #[.int .u8 (100 + (j : Int))] 5)) (.cells #[str [b], .int .i64 (j : Int)] 86) none) (by simp)
        go_wp2_with first
          | (at_builtin; refine wpList_append_own _ rfl _ _ 44 rfl w.heap.size 86 i0 (.agg #[.string ⟨#[]⟩, .int .i64 0]) 2 24 Tryz.underlying44 hi hz0 hz1 hz2 rfl (by decide) _ _ _ rfl o5.row ⟨w4.heap.size + 1, 0, none⟩ 1 1 [str [b], .int .i64 (j : Int)] rfl rfl HN.out (fun u hu => bx_one [([b], (j : Int))] u hu) (by unfold maxLen; omega) (by omega) (by simp; omega) ?_; intro v6 w6 hown6 hgr6 hnil6; (obtain ⟨g6, c6, rfl, o6⟩ := bx_more (ys := [([b], (j : Int))]) o5 rfl hown6 hnil6))
        have u6 := u5.apart hgr6 (fun i hi => by cases (show some g' = some i from hi); omega)
        have r6 := grown_far r5 hgr6 (fun i hi => by cases (show some g' = some i from hi); exact hg')
        go_roundw
        case rel => exact ⟨j + 1, g6, c6, bs ++ [([b], (j : Int))], by omega, by go_num, by rw [List.length_append]; rfl, by simp; omega, o6, upB_app ub (upB_one (by simp)), u6, r6⟩
        case measure => simp [intOf]; omega
      · go_wp2_with fail
        go_ret
        exact ⟨g', c', bs, rfl, o, by omega, ub, u4, r⟩

def SumsDrawn (w : World) (e : Ending) (w' : World) : Prop := ∃ g1 c1, ∃ (xs : List Txt) (a : Int) (g2 c2 : Nat) (bs : List Bx), e = .returned (.tuple #[.slice (some ⟨g1, 0, none⟩) xs.length c1, .int .i64 a, .slice (some ⟨g2, 0, none⟩) bs.length c2]) ∧
  SeeV w' w'.heap.size (.slice (some ⟨g1, 0, none⟩) xs.length c1) (xs.map str) ∧ xs.length ≤ 16 ∧ upTo 30 xs ∧ SeeBx w' w'.heap.size (.slice (some ⟨g2, 0, none⟩) bs.length c2) bs ∧ bs.length ≤ 13 ∧ upB 10 bs ∧ Below w.heap.size w w'

set_option maxHeartbeats 2000000 in
theorem drawSumOf_any (A : Option Addr) (n c : Nat) (hn : n ≤ 4096) (w : World) (hs : SeeB w w.heap.size A n) : Calls Tryz.prog 40 #[.slice A n c] w (SumsDrawn w) := by
  go_enter Tryz.func40, Tryz.ntmps40
  go_wp2_with fail
  refine (l1New_any A n c hn _ hs).mono ?_
  rintro e w1 ⟨rfl, u1, b1⟩
  have hlt := u1.lt
  go_wp2_with fail
  refine (l6Draw_any _ _ u1).mono ?_
  rintro e w2 ⟨g2, c2, xs, a, rfl, o2, lx, ux, u2, r2⟩
  go_wp2_with fail
  refine (l6DrawAny_any _ _ u2).mono ?_
  rintro e w3 ⟨g3, c3, bs, rfl, o3, lb, ub, u3, r3⟩
  have o2' := o2.apart r3 (fun j hj => by cases hj; exact hlt)
  have b3 := below_cur b1 (grown_trans r2 r3)
  go_wp2_with fail
  go_ret3
  exact ⟨_, _, _, _, _, _, _, rfl, o2'.see, lx, ux, o3.see, lb, ub, b3⟩

def BoxDrawn (w : World) (e : Ending) (w' : World) : Prop := ∃ g2 c2, ∃ (bs : List Bx) (t : Txt), e = .returned (.tuple #[.slice (some ⟨g2, 0, none⟩) bs.length c2, str t]) ∧
  SeeBx w' w'.heap.size (.slice (some ⟨g2, 0, none⟩) bs.length c2) bs ∧ bs.length ≤ 13 ∧ upB 10 bs ∧ t.length ≤ 10 ∧ Below w.heap.size w w'

end Go.Proofs.YtblnonlcjfcblaaGreatDoor
