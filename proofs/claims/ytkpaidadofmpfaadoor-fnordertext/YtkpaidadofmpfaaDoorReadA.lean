/- The program's readUps and ReadOrder. -/
import Derived.Test.YtkpaidadofmpfaaDoorReadM
import Derived.Test.YtkpaidadofmpfaaDoorOrdE
import Derived.Test.YtkpaidadofmpfaaDoorShelf
namespace Go.Proofs.YtkpaidadofmpfaaDoor
open Go.RowKit
set_option linter.unusedVariables false

def UpsOut (n : Int) (b : Bool) (w : World) (e : Ending) (w' : World) : Prop := e = .returned (.tuple #[.int .i64 n, .bool b]) ∧ w = w'

set_option maxHeartbeats 1000000 in
theorem readUps_yes (line : List UInt8) (hl : line.length ≤ 6) (hok : line.all signOk = true) (w : World) : Calls Tryd.prog 24 #[str line] w (UpsOut (upsT line) true w) := by
  have HO : Hid (∀ (k : Nat) (b : UInt8), line[k]? = some b → b = 49 ∨ b = 48) := Lib.hid (fun k b hb => by
    have := List.all_eq_true.1 hok b (List.mem_of_getElem? hb)
    simpa [signOk] using this)
  clear hok
  have HZ := Lib.hid (upsK_zero line)
  go_enter Tryd.func24, Tryd.ntmps24
  go_wp2_with fail
  go_loop [4, 8] (fun u i => ∃ k : Nat, k ≤ line.length ∧ i = .int .i64 k ∧ u = .int .i64 (setN (upsK line k))) (fun _ i => line.length - (intOf i).toNat)
  case atStart => exact ⟨0, Nat.zero_le _, rfl, by rw [HZ.out]⟩
  case round =>
    obtain ⟨k, hk, rfl, rfl⟩ := hrel
    by_cases hlt : k < line.length
    · have hb := List.getElem?_eq_getElem hlt
      generalize line[k] = b at hb
      rcases HO.out k b hb with rfl | rfl
      · have hix := idx_str (P := Tryd.prog) 9 line k 49 Tryd.underlying9 hb
        have R := Lib.hid (upsK_one (by omega) hb)
        clear hb
        go_wp2_with fail
        refine (with_any _ _ (by omega) (by omega) _).mono ?_
        rintro e w' ⟨rfl, rfl⟩
        rw [Int.toNat_natCast, R.out]
        go_wp2_with fail
        go_round
        case rel => exact ⟨k + 1, by omega, by go_num, rfl⟩
        case measure => simp [intOf]; omega
      · have hix := idx_str (P := Tryd.prog) 9 line k 48 Tryd.underlying9 hb
        have R := Lib.hid (upsK_nil hb)
        clear hb
        go_wp2_with fail
        go_round
        case rel => exact ⟨k + 1, by omega, by go_num, by rw [R.out]⟩
        case measure => simp [intOf]; omega
    · obtain rfl : k = line.length := by omega
      go_wp2_with fail
      go_ret2
      exact ⟨rfl, rfl⟩

set_option maxHeartbeats 1000000 in
theorem readUps_no (line : List UInt8) (hl : line.length ≤ 6) (hok : line.all signOk = false) (w : World) : Calls Tryd.prog 24 #[str line] w (UpsOut 0 false w) := by
  have HO := Lib.hid hok
  clear hok
  have HZ := Lib.hid (upsK_zero line)
  go_enter Tryd.func24, Tryd.ntmps24
  go_wp2_with fail
  go_loop [4, 8] (fun u i => ∃ k : Nat, k ≤ line.length ∧ i = .int .i64 k ∧ u = .int .i64 (setN (upsK line k)) ∧ (line.take k).all signOk = true) (fun _ i => line.length - (intOf i).toNat)
  case atStart => exact ⟨0, Nat.zero_le _, rfl, by rw [HZ.out], rfl⟩
  case round =>
    obtain ⟨k, hk, rfl, rfl, hall⟩ := hrel
    have HA := Lib.hid hall
    clear hall
    by_cases hlt : k < line.length
    · have hb := List.getElem?_eq_getElem hlt
      generalize line[k] = b at hb
      by_cases h1 : b = 49
      · subst h1
        have hix := idx_str (P := Tryd.prog) 9 line k 49 Tryd.underlying9 hb
        have R := Lib.hid (upsK_one (by omega) hb)
        have N := Lib.hid (all_take_succ HA.out hb rfl)
        clear hb
        go_wp2_with fail
        refine (with_any _ _ (by omega) (by omega) _).mono ?_
        rintro e w' ⟨rfl, rfl⟩
        rw [Int.toNat_natCast, R.out]
        go_wp2_with fail
        go_round
        case rel => exact ⟨k + 1, by omega, by go_num, rfl, N.out⟩
        case measure => simp [intOf]; omega
      · by_cases h2 : b = 48
        · subst h2
          have hix := idx_str (P := Tryd.prog) 9 line k 48 Tryd.underlying9 hb
          have R := Lib.hid (upsK_nil hb)
          have N := Lib.hid (all_take_succ HA.out hb rfl)
          clear hb h1
          go_wp2_with fail
          go_round
          case rel => exact ⟨k + 1, by omega, by go_num, by rw [R.out], N.out⟩
          case measure => simp [intOf]; omega
        · have hix := idx_str (P := Tryd.prog) 9 line k b Tryd.underlying9 hb
          have e1 : ((b.toNat : Int) == 49) = false := u8_ne h1 rfl
          have e2 : ((b.toNat : Int) == 48) = false := u8_ne h2 rfl
          clear hb h1 h2
          unfold byte at hix
          generalize (b.toNat : Int) = z at hix e1 e2
          go_wp2_with fail
          go_ret2
          exact ⟨rfl, rfl⟩
    · exfalso
      have := HA.out
      rw [List.take_of_length_le (by omega), HO.out] at this
      cases this

theorem splitB_lists (l : List UInt8) (k : Nat) : (Lib.splitB ⟨#[47]⟩ 0 k ⟨l.toArray⟩).map (·.data.toList) = Lib.splitK [47] 0 k l := by
  rw [Lib.splitB_data]
theorem lines_len (l : List UInt8) : (Lib.splitB ⟨#[47]⟩ 0 (min 7 (l.length + 1) - 1) ⟨l.toArray⟩).length = (Lib.splitK [47] 0 (min 7 (l.length + 1) - 1) l).length := by
  rw [← splitB_lists, List.length_map]
theorem lines_few {l : List UInt8} (h : (cutT 47 l).length ≤ 6) : Lib.splitK [47] 0 (min 7 (l.length + 1) - 1) l = cutT 47 l := by
  have := cutT_le 47 l
  exact splitK_all 47 l _ (by omega)
theorem lines_many {l : List UInt8} (h : 6 < (cutT 47 l).length) : 6 < (Lib.splitK [47] 0 (min 7 (l.length + 1) - 1) l).length := by
  have h1 := cutT_le 47 l
  rcases Nat.lt_or_ge (min 7 (l.length + 1) - 1 + 1) (cutT 47 l).length with h2 | h2
  · rw [splitK_long 47 l _ h2]; omega
  · rw [splitK_all 47 l _ h2]; exact h

set_option maxHeartbeats 2000000 in
set_option maxRecDepth 100000 in
theorem iReadOrder_any (l : List UInt8) (hl : l.length ≤ 1048576) (m : Int) (w : World) (hm : w.cell? ⟨0, 0, none⟩ = some (.int .i64 m)) : Calls Tryd.prog 8 #[str l] w (OrdOut w (readT l)) := by
  have hg : 0 < w.heap.size := World.block_lt_of_cell? w ⟨0, 0, none⟩ hm
  have hsp := Tryd.strings_SplitN ⟨l.toArray⟩ ⟨#[47]⟩ 7 m (w.alloc (.cells #[.slice none 0 0] 26)) (by show l.toArray.size < _; simp; omega) ((World.cell?_alloc_lt _ _ _ hg).trans hm) (by decide) (by decide) (by decide)
  have HSP := Lib.hid hsp
  clear hsp
  rw [show (⟨l.toArray⟩ : ByteArray).size = l.length from by simp [ByteArray.size], World.size_alloc] at HSP
  have hlen := lines_len l
  have HD := Lib.hid (splitB_lists l (min 7 (l.length + 1) - 1))
  generalize Lib.splitB ⟨#[47]⟩ 0 (min 7 (l.length + 1) - 1) ⟨l.toArray⟩ = bs at HSP hlen HD
  have hbs : bs.length ≤ 7 := by
    rw [hlen]
    rcases Nat.lt_or_ge (min 7 (l.length + 1) - 1 + 1) (cutT 47 l).length with h2 | h2
    · rw [splitK_long 47 l _ h2]; omega
    · rw [splitK_all 47 l _ h2]; omega
  have r0 : (w.alloc (.cells #[.slice none 0 0] 26)).cell? ⟨w.heap.size, 0, none⟩ = some (.slice none 0 0) := cell_of_row _ _ 0 _ _ (0, 0) (heap_alloc_new _ _)
  have z0 : (w.alloc (.cells #[.slice none 0 0] 26)).frozen? ⟨w.heap.size, 0, none⟩ = false := frozen_row (heap_alloc_new _ _)
  by_cases h6 : 6 < (cutT 47 l).length
  · have HR := Lib.hid (read_no1 h6)
    have h7 : 6 < bs.length := by rw [hlen]; exact lines_many h6
    clear hlen h6
    rw [HR.out]
    go_enter Tryd.func8, Tryd.ntmps8
    go_wp2_with fail
    refine HSP.out.mono ?_
    rintro e w1 ⟨rfl, rfl⟩
    go_wp2_with fail
    refine bodyPost_ret (v := .tuple #[.agg #[.slice none 0 0], .bool false]) (by simp [results, Tryd.results8, go_sem]) rfl ⟨_, rfl, OwnI.nil _ _ _, ((Below.refl _ _).alloc (Nat.le_refl _) _).alloc (by simp) _⟩
  · have h6' : (cutT 47 l).length ≤ 6 := by omega
    clear h6
    have hq : bs.map (·.data.toList) = cutT 47 l := by rw [HD.out, lines_few h6']
    have hlq : bs.length = (cutT 47 l).length := by rw [← hq, List.length_map]
    have hpos := cutT_pos 47 l
    have hno2 : Hid (∀ k x, (cutT 47 l)[k]? = some x → lineOk (cutT 47 l).length x = false → readT l = none) := Lib.hid (fun k x hx h => read_no2 hx h)
    have hyes : Hid ((cutT 47 l).all (lineOk (cutT 47 l).length) = true → readT l = if ordS ((cutT 47 l).map upsT) then some ((cutT 47 l).map upsT) else none) := Lib.hid (fun h => by
      unfold readT
      by_cases ho : ordS ((cutT 47 l).map upsT) = true
      · rw [if_pos ⟨h6', h, ho⟩, if_pos ho]
      · rw [if_neg (fun q => ho q.2.2), if_neg ho])
    have hcap : bs.length ≤ min 7 (l.length + 1) := by
      have := cutT_le 47 l
      omega
    have HQ := Lib.hid hq
    have h6b : bs.length ≤ 6 := by omega
    have h1b : 1 ≤ bs.length := by omega
    have hat : Hid (∀ (k : Nat) (x : List UInt8), (cutT 47 l)[k]? = some x → bs[k]? = some (⟨x.toArray⟩ : ByteArray)) := Lib.hid (fun k x hx => by
      rw [← HQ.out, List.getElem?_map] at hx
      cases hb : bs[k]? with
      | none => rw [hb] at hx; cases hx
      | some y =>
        rw [hb] at hx
        injection hx with hx
        subst hx
        rfl)
    rw [← hlq] at hno2 hyes
    have HLQ := Lib.hid hlq
    clear hlen hq HD HQ hlq h6' hpos
    generalize cutT 47 l = q at *
    generalize min 7 (l.length + 1) = cap at *
    have W1c : Hid (∀ k x, q[k]? = some x → ((w.alloc (.cells #[.slice none 0 0] 26)).alloc (.cells (Lib.cellsOf bs cap) 9)).cell? ⟨w.heap.size + 1, k, none⟩ = some (str x)) := Lib.hid (fun k x hx => by
      have hb := hat.out k x hx
      have hkl := (List.getElem?_eq_some_iff.1 hb).1
      have hh : ((w.alloc (.cells #[.slice none 0 0] 26)).alloc (.cells (Lib.cellsOf bs cap) 9)).heap[w.heap.size + 1]? = some (.cells (Lib.cellsOf bs cap) 9) := by
        have := heap_alloc_new (w.alloc (.cells #[.slice none 0 0] 26)) (.cells (Lib.cellsOf bs cap) 9)
        rwa [World.size_alloc] at this
      rw [cell_of_row _ _ k _ _ (0, 0) hh]
      unfold Lib.cellsOf
      rw [List.getElem?_toArray, List.getElem?_append_left (by simpa using hkl), List.getElem?_map, hb]
      rfl)
    have r1 : ((w.alloc (.cells #[.slice none 0 0] 26)).alloc (.cells (Lib.cellsOf bs cap) 9)).cell? ⟨w.heap.size, 0, none⟩ = some (.slice none 0 0) := (World.cell?_alloc_lt _ _ _ (by simp)).trans r0
    have z1 : ((w.alloc (.cells #[.slice none 0 0] 26)).alloc (.cells (Lib.cellsOf bs cap) 9)).frozen? ⟨w.heap.size, 0, none⟩ = false := (((Below.refl _ _).alloc (Nat.le_refl _) _).frozen (p := ⟨w.heap.size, 0, none⟩) (by simp)).trans z0
    have b1 : Below w.heap.size w ((w.alloc (.cells #[.slice none 0 0] 26)).alloc (.cells (Lib.cellsOf bs cap) 9)) := ((Below.refl _ _).alloc (Nat.le_refl _) _).alloc (by simp) _
    have g1 := Lib.hid (show ((w.alloc (.cells #[.slice none 0 0] 26)).alloc (.cells (Lib.cellsOf bs cap) 9)).heap.size = w.heap.size + 2 from by simp)
    obtain ⟨i0, hi, hz0, hz1, hz2⟩ := info_parts Tryd.infoInt64
    go_enter Tryd.func8, Tryd.ntmps8
    go_wp2_with fail
    refine HSP.out.mono ?_
    rintro e w1 ⟨rfl, rfl⟩
    clear HSP r0 z0
    generalize (World.alloc _ _).alloc _ = W at W1c r1 z1 b1 g1 ⊢
    have gW := g1.out
    have GW := Lib.hid gW
    clear gW g1
    have c2 : (W.alloc (.cells #[.slice none 0 0] 26)).cell? ⟨W.heap.size, 0, none⟩ = some (.slice none 0 0) := cell_of_row _ _ 0 _ _ (0, 0) (heap_alloc_new _ _)
    have f2 : (W.alloc (.cells #[.slice none 0 0] 26)).frozen? ⟨W.heap.size, 0, none⟩ = false := frozen_row (heap_alloc_new _ _)
    have b2 : Below W.heap.size W (W.alloc (.cells #[.slice none 0 0] 26)) := (Below.refl _ _).alloc (Nat.le_refl _) _
    go_wp2_with fail
    go_loopw [18] (fun i wr => ∃ (k : Nat) (v : Value), k ≤ bs.length ∧ i = .int .i64 k ∧ wr.cell? ⟨W.heap.size, 0, none⟩ = some v ∧ wr.frozen? ⟨W.heap.size, 0, none⟩ = false ∧ OwnI wr (W.heap.size + 1) 2 v ((q.take k).map upsT) ∧ Below W.heap.size W wr ∧
      (q.take k).all (lineOk bs.length) = true ∧ W.heap.size < wr.heap.size) (fun i _ => bs.length - (intOf i).toNat)
    case atStart => exact ⟨0, _, Nat.zero_le _, rfl, c2, f2, OwnI.nil _ _ _, b2, rfl, by simp⟩
    case round =>
      obtain ⟨k, v, hk, rfl, hc, hf, ho, hb, hall, gz⟩ := hrel
      have HA := Lib.hid hall
      clear c2 f2 b2 hall
      have rr := (hb.cell (p := ⟨w.heap.size, 0, none⟩) (by have := GW.out; simp; omega)).trans r1
      have zr := (hb.frozen (p := ⟨w.heap.size, 0, none⟩) (by have := GW.out; simp; omega)).trans z1
      have BB := b1.trans (hb.mono (by have := GW.out; omega))
      by_cases hlt : k < bs.length
      · have hx := List.getElem?_eq_getElem (show k < q.length by have := HLQ.out; omega)
        generalize q[k]'(_) = x at hx
        have hcx := (hb.cell (p := ⟨w.heap.size + 1, k, none⟩) (by have := GW.out; simp; omega)).trans (W1c.out k x hx)
        have HX := Lib.hid hx
        clear hx
        by_cases hxl : x.length = bs.length
        · cases hxo : x.all signOk
          · have HR := Lib.hid (hno2.out k x HX.out (by simp only [lineOk, hxo, Bool.and_false]))
            have hne : ((x.length : Int) != (bs.length : Int)) = false := by simp [hxl]
            have hx6 : x.length ≤ 6 := by omega
            clear hxl
            rw [HR.out]
            go_wp2_with fail
            refine (readUps_no x hx6 hxo _).mono ?_
            rintro e w' ⟨rfl, rfl⟩
            go_wp2_with fail
            exact bodyPost_ret (v := .tuple #[.agg #[.slice none 0 0], .bool false]) (by simp [results, Tryd.results8, go_sem, rr]) rfl ⟨_, rfl, OwnI.nil _ _ _, BB.setCell (Nat.le_refl _) _⟩
          · have HM : Hid ((q.take (k + 1)).map upsT = (q.take k).map upsT ++ [upsT x]) := Lib.hid (by rw [List.take_add_one, HX.out, List.map_append]; rfl)
            have HN : Hid ((q.take (k + 1)).all (lineOk bs.length) = true) := Lib.hid (by
              rw [List.take_add_one, HX.out, List.all_append, HA.out]
              simp [lineOk, hxl, hxo])
            have hne : ((x.length : Int) != (bs.length : Int)) = false := by simp [hxl]
            have hlr : ((q.take k).map upsT).length = k := by rw [List.length_map, List.length_take]; have := HLQ.out; omega
            generalize hys : (q.take k).map upsT = ys at ho hlr
            have HYS := Lib.hid hys
            rw [hys] at HM
            have HLR := Lib.hid hlr
            have hx6 : x.length ≤ 6 := by omega
            clear hxl hys hlr
            obtain ⟨A, cA, rfl⟩ := ho.see.shape
            go_wp2_with fail
            refine (readUps_yes x hx6 hxo _).mono ?_
            rintro e w' ⟨rfl, rfl⟩
            go_wp2_with (at_builtin; refine wpList_append_own _ rfl _ _ 24 rfl (W.heap.size + 1) 2 i0 (.int .i64 0) 1 8 Tryd.underlying24 hi hz0 hz1 hz2 rfl (by decide) _ _ _ rfl (ho.alloc _) ⟨wr.heap.size, 0, none⟩ 1 1 [.int .i64 (upsT x)] rfl rfl ?c1 ?c2 ?c3 ?c4 ?c5 ?_)
            case c1 =>
              intro j u hj
              match j, hj with
              | 0, hj => simp at hj; subst hj; simp [Addr.add]
            case c2 => intro u hu; simp at hu; subst hu; rfl
            case c3 => unfold maxLen; have := HLR.out; omega
            case c4 => have := HLR.out; omega
            case c5 => simp; omega
            intro v' w4 hown' hgrow _
            have hbl := hgrow.block W.heap.size (by simp; omega) (fun e => by have := (ho.lt _ e.symm).1; omega)
            have c5 : w4.cell? ⟨W.heap.size, 0, none⟩ = some (.slice A ys.length cA) := (World.cell?_of_block (w := wr.alloc _) hbl).trans ((World.cell?_alloc_lt _ _ _ gz).trans hc)
            have f5 : w4.frozen? ⟨W.heap.size, 0, none⟩ = false := (World.frozen?_of_block (w := wr.alloc _) hbl).trans ((((Below.refl (wr.heap.size) wr).alloc (Nat.le_refl _) _).frozen (p := ⟨W.heap.size, 0, none⟩) gz).trans hf)
            obtain ⟨a1, a2⟩ := own_push (w := wr) (Below.refl _ _) gz ho hown' hgrow
            clear hbl hown' hgrow
            obtain ⟨A', cA', rfl⟩ := a1.see.shape
            rw [List.length_append, List.length_singleton] at a1
            rw [List.length_append, List.length_singleton]
            have b5 := hb.trans (a2.mono (by omega))
            have g5 := a2.size
            clear ho hc hf hb rr zr BB hcx
            go_wp2
            go_roundw
            case rel => exact ⟨k + 1, _, by omega, by go_num, World.cell?_setCell_same _ _ _ c5, (by rw [World.frozen?_setCell]; exact f5), by rw [HM.out]; exact a1.far (p := ⟨W.heap.size, 0, none⟩) (by simp) _, b5.setCell (Nat.le_refl _) _, HN.out, by simp; omega⟩
            case measure => simp [intOf]; omega
        · have HR := Lib.hid (hno2.out k x HX.out (by simp only [lineOk, hxl, decide_false, Bool.false_and]))
          have hne : ((x.length : Int) != (bs.length : Int)) = true := by simp; omega
          clear hxl
          rw [HR.out]
          go_wp2_with fail
          exact bodyPost_ret (v := .tuple #[.agg #[.slice none 0 0], .bool false]) (by simp [results, Tryd.results8, go_sem, rr]) rfl ⟨_, rfl, OwnI.nil _ _ _, BB.setCell (Nat.le_refl _) _⟩
      · obtain rfl : k = bs.length := by omega
        have HT : Hid (q.take bs.length = q) := Lib.hid (List.take_of_length_le (by have := HLQ.out; omega))
        rw [HT.out] at ho HA
        have HR := Lib.hid (hyes.out HA.out)
        generalize q.map upsT = us at ho HR
        obtain ⟨A, cA, rfl⟩ := ho.see.shape
        go_wp2_with fail
        refine (iOrderOk_any wr.heap.size _ us _ ho.see (Nat.le_refl _)).mono ?_
        rintro e w5 ⟨rfl, hb5⟩
        have rr5 := (hb5.cell (p := ⟨w.heap.size, 0, none⟩) (by have := GW.out; simp; omega)).trans rr
        have zr5 := (hb5.frozen (p := ⟨w.heap.size, 0, none⟩) (by have := GW.out; simp; omega)).trans zr
        have hc5 := (hb5.cell (p := ⟨W.heap.size, 0, none⟩) (by simpa using gz)).trans hc
        have B5 := below_then BB hb5 (Nat.le_refl _)
        have o5 := ho.later hb5
        clear rr zr hc hf BB hb
        have q1 : w.heap.size < W.heap.size + 1 := by have := GW.out; omega
        cases hord : ordS us
        · have HR' : Hid (readT l = none) := Lib.hid (by rw [HR.out, hord]; rfl)
          go_wp2_with fail
          refine bodyPost_ret (v := .tuple #[.agg #[.slice none 0 0], .bool false]) (by simp [results, Tryd.results8, go_sem, rr5]) rfl ?_
          rw [HR'.out]
          exact ⟨_, rfl, OwnI.nil _ _ _, B5.setCell (Nat.le_refl _) _⟩
        · have HR' : Hid (readT l = some us) := Lib.hid (by rw [HR.out, hord]; rfl)
          have o6 := (o5.far (p := ⟨w.heap.size, 0, none⟩) q1 (.slice A us.length cA)).less (Nat.le_of_lt q1)
          go_wp2_with fail
          refine bodyPost_ret (v := .tuple #[.agg #[.slice A us.length cA], .bool true]) (by simp [results, Tryd.results8, go_sem, rr5]) rfl ?_
          rw [HR'.out]
          exact ⟨_, rfl, o6, B5.setCell (Nat.le_refl _) _⟩

end Go.Proofs.YtkpaidadofmpfaaDoor
