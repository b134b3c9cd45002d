/- The model's l1Split and ReadOrder. -/
import Derived.Test.YtkobngclcnfojaaReadM
namespace Go.Proofs.Ytkobngclcnfojaa
open Go.RowKit
set_option linter.unusedVariables false

def glue (p : List UInt8) : List (List UInt8) → List (List UInt8)
  | [] => [p]
  | x :: r => (p ++ x) :: r
/-- Where the cutting stands ahead of place i: what is done, and where the piece at hand began. -/
def CutAt (b : UInt8) (l : List UInt8) (i f : Nat) (D : List (List UInt8)) : Prop := f ≤ i ∧ cutT b l = D ++ glue ((l.drop f).take (i - f)) (cutT b (l.drop i))
theorem cut_start (b : UInt8) (l : List UInt8) : CutAt b l 0 0 [] := by
  refine ⟨Nat.le_refl _, ?_⟩
  obtain ⟨x, r, e⟩ := cutT_ne b l
  simp [glue, e]
theorem cut_hit {b : UInt8} {l : List UInt8} {i f : Nat} {D : List (List UInt8)} (h : CutAt b l i f D) (hb : l[i]? = some b) : CutAt b l (i + 1) (i + 1) (D ++ [(l.drop f).take (i - f)]) := by
  refine ⟨Nat.le_refl _, ?_⟩
  have hd : l.drop i = b :: l.drop (i + 1) := by
    have := (List.getElem?_eq_some_iff.1 hb)
    rw [List.drop_eq_getElem_cons this.1, this.2]
  rw [h.2, hd, cutT_hit]
  obtain ⟨x, r, e⟩ := cutT_ne b (l.drop (i + 1))
  simp [glue, e]
theorem cut_miss {b c : UInt8} {l : List UInt8} {i f : Nat} {D : List (List UInt8)} (h : CutAt b l i f D) (hc : l[i]? = some c) (hne : ¬ c = b) : CutAt b l (i + 1) f D := by
  have hle := h.1
  refine ⟨by omega, ?_⟩
  have hq := List.getElem?_eq_some_iff.1 hc
  have hd : l.drop i = c :: l.drop (i + 1) := by rw [List.drop_eq_getElem_cons hq.1, hq.2]
  obtain ⟨x, r, e⟩ := cutT_ne b (l.drop (i + 1))
  rw [h.2, hd, cutT_miss hne e, e]
  have ht : (l.drop f).take (i + 1 - f) = (l.drop f).take (i - f) ++ [c] := by
    rw [show i + 1 - f = (i - f) + 1 from by omega, List.take_add_one, List.getElem?_drop, show f + (i - f) = i from by omega, hc]
    rfl
  simp [glue, ht]
theorem cut_end {b : UInt8} {l : List UInt8} {f : Nat} {D : List (List UInt8)} (h : CutAt b l l.length f D) : cutT b l = D ++ [(l.drop f).take (l.length - f)] := by
  rw [h.2, List.drop_length]
  simp [cutT, glue]
theorem cut_len {b : UInt8} {l : List UInt8} {i f : Nat} {D : List (List UInt8)} (h : CutAt b l i f D) : D.length ≤ l.length := by
  have h1 := cutT_le b l
  have h2 : 1 ≤ (glue ((l.drop f).take (i - f)) (cutT b (l.drop i))).length := by
    obtain ⟨x, r, e⟩ := cutT_ne b (l.drop i)
    rw [e]; simp [glue]
  rw [h.2, List.length_append] at h1
  omega

theorem Try.infoStr2 : (Try.prog.info? 9).map (fun i => (i.zero, i.size, i.bytes)) = some (some (.string ⟨#[]⟩), 1, 16) := by kernel_rfl
def RowOut (w : World) (ts : List (List UInt8)) (e : Ending) (w' : World) : Prop := ∃ v, e = .returned v ∧ OwnV w' w.heap.size 9 v (ts.map str) ∧ Below w.heap.size w w'

set_option maxHeartbeats 2000000 in
set_option maxRecDepth 100000 in
theorem l1Split_any (l : List UInt8) (hl : l.length ≤ 1048576) (b : UInt8) (w : World) : Calls Try.prog 82 #[str l, byte b] w (RowOut w (cutT b l)) := by
  obtain ⟨i0, hi, hz0, hz1, hz2⟩ := info_parts Try.infoStr2
  have HS := Lib.hid (cut_start b l)
  have o0 := OwnV.empty w w.heap.size 9 (Nat.le_refl _)
  have b0 : Below w.heap.size w (w.alloc (.cells #[] 9)) := (Below.refl _ _).alloc (Nat.le_refl _) _
  go_enter Try.func82, Try.ntmps82
  go_wp2_with fail
  go_loopw [5, 6, 7] (fun v f i wr => ∃ (k n : Nat) (D : List (List UInt8)), i = .int .i64 k ∧ f = .int .i64 n ∧ OwnV wr w.heap.size 9 v (D.map str) ∧ Below w.heap.size w wr ∧ ((k ≤ l.length ∧ n ≤ k ∧ CutAt b l k n D) ∨ (k = l.length + 1 ∧ D = cutT b l))) (fun _ _ i _ => l.length + 1 - (intOf i).toNat)
  case atStart => exact ⟨0, 0, [], rfl, rfl, o0, b0, .inl ⟨Nat.zero_le _, Nat.le_refl _, HS.out⟩⟩
  case round =>
    obtain ⟨k, n, D, rfl, rfl, ho, hb, hs⟩ := hrel
    clear o0 b0
    rcases hs with ⟨hk, hn, hcut⟩ | ⟨rfl, rfl⟩
    · have HC := Lib.hid hcut
      have hDl : (D.map str).length ≤ 1048576 := by rw [List.length_map]; have := cut_len hcut; omega
      clear hcut
      have HDl := Lib.hid hDl
      clear hDl
      by_cases hlt : k < l.length
      · have hc := List.getElem?_eq_getElem hlt
        generalize l[k] = c at hc
        have hix := idx_str (P := Try.prog) 9 l k c Try.underlying9 hc
        have hke : ((k : Int) == (l.length : Int)) = false := by simp; omega
        by_cases hcb : c = b
        · subst hcb
          have HN := Lib.hid (cut_hit HC.out hc)
          have hsl := sub_str (P := Try.prog) 9 l n k Try.underlying9 hn hk
          have hcc : ((c.toNat : Int) == (c.toNat : Int)) = true := by simp
          clear hc
          generalize hp : (l.drop n).take (k - n) = p at hsl HN
          clear hp
          generalize hxs : D.map str = xs at ho HDl
          have HXS := Lib.hid hxs
          clear hxs
          go_wp2_with (at_builtin; refine wpList_append_own _ rfl _ _ 84 rfl w.heap.size 9 i0 (.string ⟨#[]⟩) 1 16 Try.underlying84 hi hz0 hz1 hz2 rfl (by decide) _ _ _ rfl (ho.alloc _) ⟨wr.heap.size, 0, none⟩ 1 1 [str p] rfl rfl ?c1 ?c2 ?c3 ?c4 ?c5 ?_)
          case c1 =>
            intro j u hj
            match j, hj with
            | 0, hj => simp at hj; subst hj; simp [Addr.add]
          case c2 => intro u hu; simp at hu; subst hu; rfl
          case c3 => unfold maxLen; have := HDl.out; omega
          case c4 => have := HDl.out; omega
          case c5 => have := hb.size; simp; omega
          intro v' w4 hown' hgrow _
          obtain ⟨a1, a2⟩ := OwnV.push hb (Nat.le_refl _) ho hown' hgrow
          clear hown' hgrow ho hb hix hsl
          go_wp2
          go_roundw
          case rel => exact ⟨k + 1, k + 1, D ++ [p], by go_num, by go_num, by rw [List.map_append, HXS.out]; exact a1, a2, .inl ⟨by omega, Nat.le_refl _, HN.out⟩⟩
          case measure => simp [intOf]; omega
        · have HN := Lib.hid (cut_miss HC.out hc hcb)
          have hcc : ((c.toNat : Int) == (b.toNat : Int)) = false := u8_ne hcb rfl
          clear hc hcb
          go_wp2_with fail
          go_roundw
          case rel => exact ⟨k + 1, n, D, by go_num, rfl, ho, hb, .inl ⟨by omega, by omega, HN.out⟩⟩
          case measure => simp [intOf]; omega
      · obtain rfl : k = l.length := by omega
        have HN := Lib.hid (cut_end HC.out)
        have hsl := sub_str (P := Try.prog) 9 l n l.length Try.underlying9 hn hk
        have hke : ((l.length : Int) == (l.length : Int)) = true := by simp
        generalize hp : (l.drop n).take (l.length - n) = p at hsl HN
        clear hp
        generalize hxs : D.map str = xs at ho HDl
        have HXS := Lib.hid hxs
        clear hxs
        go_wp2_with (at_builtin; refine wpList_append_own _ rfl _ _ 84 rfl w.heap.size 9 i0 (.string ⟨#[]⟩) 1 16 Try.underlying84 hi hz0 hz1 hz2 rfl (by decide) _ _ _ rfl (ho.alloc _) ⟨wr.heap.size, 0, none⟩ 1 1 [str p] rfl rfl ?d1 ?d2 ?d3 ?d4 ?d5 ?_)
        case d1 =>
          intro j u hj
          match j, hj with
          | 0, hj => simp at hj; subst hj; simp [Addr.add]
        case d2 => intro u hu; simp at hu; subst hu; rfl
        case d3 => unfold maxLen; have := HDl.out; omega
        case d4 => have := HDl.out; omega
        case d5 => have := hb.size; simp; omega
        intro v' w4 hown' hgrow _
        obtain ⟨a1, a2⟩ := OwnV.push hb (Nat.le_refl _) ho hown' hgrow
        clear hown' hgrow ho hb hsl
        go_wp2
        go_roundw
        case rel => exact ⟨l.length + 1, l.length + 1, D ++ [p], by go_num, by go_num, by rw [List.map_append, HXS.out]; exact a1, a2, .inr ⟨rfl, HN.out.symm⟩⟩
        case measure => simp [intOf]
    · go_wp2_with fail
      go_ret
      exact ⟨_, rfl, ho, hb⟩

theorem upsK_one' {line : List UInt8} {k : Nat} (hk : k < 6) (h : line[k]? = some 49) : bits BinOp.or IntKind.i64 (setN (upsK line k)) (2 ^ k) = setN (upsK line (k + 1)) := by
  have := upsK_one hk h
  rwa [show wrap64 (2 ^ k) = 2 ^ k from by have := (bit_small k (by omega) (by omega)).1; simpa using this] at this

set_option maxHeartbeats 4000000 in
set_option maxRecDepth 100000 in
theorem sReadOrder_any (l : List UInt8) (hl : l.length ≤ 1048576) (w : World) : Calls Try.prog 76 #[str l] w (OrdOut w (readT l)) := by
  obtain ⟨i0, hi, hz0, hz1, hz2⟩ := info_parts Try.infoInt64
  have r0 : (w.alloc (.cells #[.slice none 0 0] 26)).cell? ⟨w.heap.size, 0, none⟩ = some (.slice none 0 0) := cell_of_row _ _ 0 _ _ (0, 0) (heap_alloc_new _ _)
  have z0 : (w.alloc (.cells #[.slice none 0 0] 26)).frozen? ⟨w.heap.size, 0, none⟩ = false := frozen_row (heap_alloc_new _ _)
  have b0 : Below w.heap.size w (w.alloc (.cells #[.slice none 0 0] 26)) := (Below.refl _ _).alloc (Nat.le_refl _) _
  have g0 : w.heap.size < (w.alloc (.cells #[.slice none 0 0] 26)).heap.size := by simp
  go_enter Try.func76, Try.ntmps76
  go_wp2_with fail
  generalize w.alloc _ = W0 at r0 z0 b0 g0 ⊢
  refine (l1Split_any l hl 47 _).mono ?_
  rintro e W ⟨vs, rfl, os, hbs⟩
  have r1 := (hbs.cell (p := ⟨w.heap.size, 0, none⟩) (by simpa using g0)).trans r0
  have z1 := (hbs.frozen (p := ⟨w.heap.size, 0, none⟩) (by simpa using g0)).trans z0
  have b1 := below_then b0 hbs (Nat.le_refl _)
  have g1 : w.heap.size < W.heap.size := Nat.lt_of_lt_of_le g0 hbs.size
  have sv := os.see
  clear r0 z0 b0 g0 hbs os
  have hlq := cutT_le 47 l
  have hpos := cutT_pos 47 l
  have hno1 : Hid (6 < (cutT 47 l).length → readT l = none) := Lib.hid read_no1
  have hno2 : Hid (∀ k x, (cutT 47 l)[k]? = some x → lineOk (cutT 47 l).length x = false → readT l = none) := Lib.hid (fun k x hx h => read_no2 hx h)
  have hyes : Hid ((cutT 47 l).length ≤ 6 → (cutT 47 l).all (lineOk (cutT 47 l).length) = true → readT l = if ordS ((cutT 47 l).map upsT) then some ((cutT 47 l).map upsT) else none) := Lib.hid (fun h6 h => by
    unfold readT
    by_cases ho : ordS ((cutT 47 l).map upsT) = true
    · rw [if_pos ⟨h6, h, ho⟩, if_pos ho]
    · rw [if_neg (fun q => ho q.2.2), if_neg ho])
  generalize cutT 47 l = q at *
  obtain ⟨As, cs, rfl⟩ := sv.shape
  rw [List.length_map] at sv ⊢
  have c2 : (W.alloc (.cells #[.slice none 0 0] 26)).cell? ⟨W.heap.size, 0, none⟩ = some (.slice none 0 0) := cell_of_row _ _ 0 _ _ (0, 0) (heap_alloc_new _ _)
  have f2 : (W.alloc (.cells #[.slice none 0 0] 26)).frozen? ⟨W.heap.size, 0, none⟩ = false := frozen_row (heap_alloc_new _ _)
  have b2 : Below W.heap.size W (W.alloc (.cells #[.slice none 0 0] 26)) := (Below.refl _ _).alloc (Nat.le_refl _) _
  go_wp2_with fail
  go_loopw [6] (fun i wr => ∃ (k : Nat) (v : Value), k ≤ q.length ∧ i = .int .i64 k ∧ wr.cell? ⟨W.heap.size, 0, none⟩ = some v ∧ wr.frozen? ⟨W.heap.size, 0, none⟩ = false ∧ OwnI wr (W.heap.size + 1) 2 v ((q.take k).map upsT) ∧ Below W.heap.size W wr ∧
    (q.take k).all (lineOk q.length) = true ∧ W.heap.size < wr.heap.size ∧ (k = 0 ∨ q.length ≤ 6)) (fun i _ => q.length - (intOf i).toNat)
  case atStart => exact ⟨0, _, Nat.zero_le _, rfl, c2, f2, OwnI.nil _ _ _, b2, rfl, by simp, .inl rfl⟩
  case round =>
    obtain ⟨k, v, hk, rfl, hc, hf, ho, hb, hall, gz, hk6⟩ := hrel
    have HA := Lib.hid hall
    have HK6 := Lib.hid hk6
    clear c2 f2 b2 hall hk6
    have rr := (hb.cell (p := ⟨w.heap.size, 0, none⟩) (by simpa using g1)).trans r1
    have zr := (hb.frozen (p := ⟨w.heap.size, 0, none⟩) (by simpa using g1)).trans z1
    have BB := b1.trans (hb.mono (by omega))
    by_cases hlt : k < q.length
    · have hx := List.getElem?_eq_getElem hlt
      generalize q[k] = x at hx
      obtain ⟨gs, ps, rfl, -, hcx⟩ := (sv.below hb).at_ (k := k) (x := str x) (by rw [List.getElem?_map, hx]; rfl)
      have HX := Lib.hid hx
      clear hx
      by_cases hxl : x.length = q.length
      · have hne : ((x.length : Int) != (q.length : Int)) = false := by simp [hxl]
        by_cases h6 : q.length ≤ 6
        · have hx6 : x.length ≤ 6 := by omega
          have HXL := Lib.hid hxl
          have HZ := Lib.hid (upsK_zero x)
          clear hxl
          go_wp2_with fail
          go_loop [7, 8] (fun u i => ∃ j : Nat, j ≤ x.length ∧ i = .int .i64 j ∧ u = .int .i64 (setN (upsK x j)) ∧ (x.take j).all signOk = true) (fun _ i => x.length - (intOf i).toNat)
          case atStart => exact ⟨0, Nat.zero_le _, rfl, by rw [HZ.out], rfl⟩
          case round =>
            obtain ⟨j, hj, rfl, rfl, hsg⟩ := hrel
            have HSG := Lib.hid hsg
            clear hsg
            by_cases hjl : j < x.length
            · have hy := List.getElem?_eq_getElem hjl
              generalize x[j] = y at hy
              by_cases y1 : y = 49
              · subst y1
                have hix := idx_str (P := Try.prog) 9 x j 49 Try.underlying9 hy
                have R := Lib.hid (upsK_one' (by omega) hy)
                have N := Lib.hid (all_take_succ HSG.out hy rfl)
                clear hy
                go_wp2_with fail
                refine (l1Bit_any _ (by omega) (by omega) _).mono ?_
                rintro e w' ⟨rfl, rfl⟩
                rw [Int.toNat_natCast]
                go_wp2_with fail
                rw [R.out]
                go_round
                case rel => exact ⟨j + 1, by omega, by go_num, rfl, N.out⟩
                case measure => simp [intOf]; omega
              · by_cases y0 : y = 48
                · subst y0
                  have hix := idx_str (P := Try.prog) 9 x j 48 Try.underlying9 hy
                  have R := Lib.hid (upsK_nil hy)
                  have N := Lib.hid (all_take_succ HSG.out hy rfl)
                  clear hy y1
                  go_wp2_with fail
                  go_round
                  case rel => exact ⟨j + 1, by omega, by go_num, by rw [R.out], N.out⟩
                  case measure => simp [intOf]; omega
                · have hix := idx_str (P := Try.prog) 9 x j y Try.underlying9 hy
                  have e1 : ((y.toNat : Int) == 49) = false := u8_ne y1 rfl
                  have e2 : ((y.toNat : Int) == 48) = false := u8_ne y0 rfl
                  have HR := Lib.hid (hno2.out k x HX.out (by
                    have : x.all signOk = false := all_no hy (by simp [signOk, y1, y0])
                    simp only [lineOk, this, Bool.and_false]))
                  clear hy y1 y0
                  unfold byte at hix
                  generalize (y.toNat : Int) = zz at hix e1 e2
                  go_wp2_with fail
                  refine bodyPost_ret (v := .tuple #[.agg #[.slice none 0 0], .bool false]) (by simp [results, Try.results76, go_sem, rr]) rfl ?_
                  rw [HR.out]
                  exact ⟨_, rfl, OwnI.nil _ _ _, BB.setCell (Nat.le_refl _) _⟩
            · obtain rfl : j = x.length := by omega
              have HM : Hid ((q.take (k + 1)).map upsT = (q.take k).map upsT ++ [upsT x]) := Lib.hid (by rw [List.take_add_one, HX.out, List.map_append]; rfl)
              have HN : Hid ((q.take (k + 1)).all (lineOk q.length) = true) := Lib.hid (by
                have hs := HSG.out
                rw [List.take_length] at hs
                rw [List.take_add_one, HX.out, List.all_append, HA.out]
                simp [lineOk, HXL.out, hs])
              have hlr : ((q.take k).map upsT).length = k := by rw [List.length_map, List.length_take]; omega
              generalize hys : (q.take k).map upsT = ys at ho hlr
              rw [hys] at HM
              have HLR := Lib.hid hlr
              clear hys hlr
              rw [show setN (upsK x x.length) = upsT x from rfl]
              generalize upsT x = ux at HM ⊢
              obtain ⟨A, cA, rfl⟩ := ho.see.shape
              go_wp2_with (at_builtin; refine wpList_append_own _ rfl _ _ 24 rfl (W.heap.size + 1) 2 i0 (.int .i64 0) 1 8 Try.underlying24 hi hz0 hz1 hz2 rfl (by decide) _ _ _ rfl (ho.alloc _) ⟨wr.heap.size, 0, none⟩ 1 1 [.int .i64 ux] rfl rfl ?c1 ?c2 ?c3 ?c4 ?c5 ?_)
              case c2 => rfl
              case c3 => unfold maxLen; have := HLR.out; omega
              case c4 => have := HLR.out; omega
              case c5 => omega
              intro v' w4 hown' hgrow _
              have hbl := hgrow.block W.heap.size (by simp; omega) (fun e => by have := (ho.lt _ e.symm).1; omega)
              have c5 : w4.cell? ⟨W.heap.size, 0, none⟩ = some (.slice A ys.length cA) := (World.cell?_of_block (w := wr.alloc _) hbl).trans ((World.cell?_alloc_lt _ _ _ gz).trans hc)
              have f5 : w4.frozen? ⟨W.heap.size, 0, none⟩ = false := (World.frozen?_of_block (w := wr.alloc _) hbl).trans ((((Below.refl (wr.heap.size) wr).alloc (Nat.le_refl _) _).frozen (p := ⟨W.heap.size, 0, none⟩) gz).trans hf)
              obtain ⟨a1, a2⟩ := own_push (w := wr) (Below.refl _ _) gz ho hown' hgrow
              clear hbl hown' hgrow
              obtain ⟨A', cA', rfl⟩ := a1.see.shape
              rw [List.length_append, List.length_singleton] at a1
              rw [List.length_append, List.length_singleton]
              have b5 := hb.trans (a2.mono (by omega))
              have g5 := a2.size
              clear ho hc hf hb rr zr BB hcx
              go_wp2
              go_roundw
              case rel => exact ⟨k + 1, _, by omega, by go_num, World.cell?_setCell_same _ _ _ c5, (by rw [World.frozen?_setCell]; exact f5), by rw [HM.out]; exact a1.far (p := ⟨W.heap.size, 0, none⟩) (by simp) _, b5.setCell (Nat.le_refl _) _, HN.out, by simp; omega, .inr h6⟩
              case measure => simp [intOf]; omega
        · have HR := Lib.hid (hno1.out (by omega))
          have h7 : 6 < q.length := by omega
          clear hxl h6
          go_wp2_with fail
          refine bodyPost_ret (v := .tuple #[.agg #[.slice none 0 0], .bool false]) (by simp [results, Try.results76, go_sem, rr]) rfl ?_
          rw [HR.out]
          exact ⟨_, rfl, OwnI.nil _ _ _, BB.setCell (Nat.le_refl _) _⟩
      · have HR := Lib.hid (hno2.out k x HX.out (by simp only [lineOk, hxl, decide_false, Bool.false_and]))
        have hne : ((x.length : Int) != (q.length : Int)) = true := by simp; omega
        clear hxl
        go_wp2_with fail
        refine bodyPost_ret (v := .tuple #[.agg #[.slice none 0 0], .bool false]) (by simp [results, Try.results76, go_sem, rr]) rfl ?_
        rw [HR.out]
        exact ⟨_, rfl, OwnI.nil _ _ _, BB.setCell (Nat.le_refl _) _⟩
    · obtain rfl : k = q.length := by omega
      have HT : Hid (q.take q.length = q) := Lib.hid (List.take_length ..)
      rw [HT.out] at ho HA
      have h6 : q.length ≤ 6 := by rcases HK6.out with h | h <;> omega
      have HR := Lib.hid (hyes.out h6 HA.out)
      generalize q.map upsT = us at ho HR
      obtain ⟨A, cA, rfl⟩ := ho.see.shape
      go_wp2_with fail
      refine (sOrderOk_any wr.heap.size _ us _ ho.see (Nat.le_refl _)).mono ?_
      rintro e w5 ⟨rfl, hb5⟩
      have rr5 := (hb5.cell (p := ⟨w.heap.size, 0, none⟩) (by simp; omega)).trans rr
      have zr5 := (hb5.frozen (p := ⟨w.heap.size, 0, none⟩) (by simp; omega)).trans zr
      have hc5 := (hb5.cell (p := ⟨W.heap.size, 0, none⟩) (by simpa using gz)).trans hc
      have B5 := below_then BB hb5 (Nat.le_refl _)
      have o5 := ho.later hb5
      clear rr zr hc hf BB hb
      have q1 : w.heap.size < W.heap.size + 1 := by omega
      cases hord : ordS us
      · have HR' : Hid (readT l = none) := Lib.hid (by rw [HR.out, hord]; rfl)
        go_wp2_with fail
        refine bodyPost_ret (v := .tuple #[.agg #[.slice none 0 0], .bool false]) (by simp [results, Try.results76, go_sem, rr5]) rfl ?_
        rw [HR'.out]
        exact ⟨_, rfl, OwnI.nil _ _ _, B5.setCell (Nat.le_refl _) _⟩
      · have HR' : Hid (readT l = some us) := Lib.hid (by rw [HR.out, hord]; rfl)
        have o6 := (o5.far (p := ⟨w.heap.size, 0, none⟩) q1 (.slice A us.length cA)).less (Nat.le_of_lt q1)
        go_wp2_with fail
        refine bodyPost_ret (v := .tuple #[.agg #[.slice A us.length cA], .bool true]) (by simp [results, Try.results76, go_sem, rr5]) rfl ?_
        rw [HR'.out]
        exact ⟨_, rfl, o6, B5.setCell (Nat.le_refl _) _⟩

end Go.Proofs.Ytkobngclcnfojaa
