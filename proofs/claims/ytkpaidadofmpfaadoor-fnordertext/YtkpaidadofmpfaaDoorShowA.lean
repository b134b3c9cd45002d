/- The program's showUps and ShowOrder. -/
import Derived.Test.YtkpaidadofmpfaaDoorOrdE
import Derived.Test.YtkpaidadofmpfaaDoorRowV
import Derived.Test.YtkpaidadofmpfaaDoorShelf
namespace Go.Proofs.YtkpaidadofmpfaaDoor
open Go.RowKit
set_option linter.unusedVariables false

def StrOf (w : World) (l : List UInt8) (e : Ending) (w' : World) : Prop := e = .returned (str l) ∧ Below w.heap.size w w'
/-- A set's line: n signs, 1 where it is in it. -/
def lineT (p : Nat → Bool) (n : Nat) : List UInt8 := (List.range n).map fun j => if p j then 49 else 48
theorem lineT_len (p : Nat → Bool) (n : Nat) : (lineT p n).length = n := by simp [lineT]
theorem repeat_zero (n : Nat) : Lib.repeatL [48] n = lineT (fun _ => false) n := by
  have : ∀ n, Lib.repeatL [48] n = List.replicate n 48 := by
    intro n
    induction n with
    | zero => rfl
    | succ n ih => rw [Lib.repeatL, ih]; rfl
  rw [this, lineT]
  exact List.ext_getElem (by simp) (fun i h1 h2 => by simp)

set_option maxHeartbeats 2000000 in
theorem showUps_any (p : Nat → Bool) (n : Nat) (hn : n ≤ 6) (hp : ∀ x, x < 6 → p x = true → x < n) (w : World) : Calls Tryd.prog 16 #[.int .i64 (setN p), .int .i64 n] w (StrOf w (lineT p n)) := by
  have hr := fun W => Tryd.strings_Repeat ⟨#[48]⟩ n W (by omega) (by show 1 * n ≤ _; omega)
  have HR := Lib.hid hr
  clear hr
  have HP := Lib.hid hp
  clear hp
  have hlen := memB_le (setN p)
  go_enter Tryd.func16, Tryd.ntmps16
  go_wp2_with fail
  refine (HR.out _).mono ?_
  rintro e w1 ⟨rfl, hb1⟩
  rw [repeat_zero]
  obtain ⟨cap, W, hrun, hcell, hfz, hbW, hzW⟩ := conv_bytes (P := Tryd.prog) w1 9 22 5 (lineT (fun _ => false) n) Tryd.underlying9 Tryd.underlying22 Tryd.underlying5
  rw [lineT_len] at hrun hfz
  have HC : Hid (∀ j, j < n → W.cell? ⟨w1.heap.size, j, none⟩ = some (byte 48)) := Lib.hid (fun j hj => hcell j 48 (by simp [lineT, hj]))
  have HF := Lib.hid hfz
  clear hcell hfz
  go_wp2_with fail
  clear hrun
  refine (iMembers_any _ _).mono ?_
  rintro e w2 ⟨v, rfl, ho, hb2⟩
  obtain ⟨A, c, rfl⟩ := ho.see.shape
  have b2 := below_then (below_then (below_then (Below.refl w.heap.size w) hb1 (Nat.le_refl _)) hbW (Nat.le_refl _)) hb2 (Nat.le_refl _)
  have C2 : Hid (∀ j, j < n → w2.cell? ⟨w1.heap.size, j, none⟩ = some (byte 48)) := Lib.hid (fun j hj => (hb2.cell (by simpa using hzW)).trans (HC.out j hj))
  have F2 : Hid (∀ j, j < n → w2.frozen? ⟨w1.heap.size, j, none⟩ = false) := Lib.hid (fun j hj => (hb2.frozen (by simpa using hzW)).trans (HF.out j hj))
  have g1 := hb1.size
  clear hb1 hbW hb2 HC HF HR
  go_wp2_with fail
  go_loopw [14] (fun i wr => ∃ k : Nat, k ≤ (memB (setN p)).length ∧ i = .int .i64 k ∧ (∀ j, j < n → wr.cell? ⟨w1.heap.size, j, none⟩ = some (byte (if (j : Int) ∈ (memB (setN p)).take k then 49 else 48))) ∧ (∀ j, j < n → wr.frozen? ⟨w1.heap.size, j, none⟩ = false) ∧
    Below w.heap.size w wr ∧ OwnI wr W.heap.size 2 (.slice A (memB (setN p)).length c) (memB (setN p))) (fun i _ => (memB (setN p)).length - (intOf i).toNat)
  case atStart => exact ⟨0, Nat.zero_le _, rfl, fun j hj => by simpa using C2.out j hj, F2.out, b2, ho⟩
  case round =>
    obtain ⟨k, hk, rfl, hc, hf, hb, ho⟩ := hrel
    have HC := Lib.hid hc
    have HF := Lib.hid hf
    clear hc hf b2 C2 F2
    by_cases hlt : k < (memB (setN p)).length
    · obtain ⟨g, o, x, rfl, -, hx, hcx⟩ := ho.see.at_ hlt
      obtain ⟨j, rfl, hj6⟩ := mem_small _ hx
      have hjn : j < n := by
        have hm := List.mem_of_getElem? hx
        rw [mem_setN] at hm
        obtain ⟨j', h1, h2, h3⟩ := mem_sel.1 hm
        obtain rfl : j = j' := by omega
        rw [Int.toNat_natCast] at h3
        exact HP.out j hj6 h3
      have HT : Hid ((memB (setN p)).take (k + 1) = (memB (setN p)).take k ++ [(j : Int)]) := Lib.hid (by rw [List.take_add_one, hx]; rfl)
      clear hx
      have c1 := HC.out j hjn
      have f1 := HF.out j hjn
      go_wp2_with fail
      go_roundw
      case rel =>
        refine ⟨k + 1, by omega, by go_num, fun i hi => ?_, fun i hi => ?_, hb.setCell (by simpa using g1) _, ho.far (by simpa using hzW) _⟩
        · rw [HT.out]
          by_cases e : i = j
          · subst e
            rw [World.cell?_setCell_same _ _ _ c1]
            simp [byte]
          · rw [World.cell?_setCell_other wr ⟨w1.heap.size, j, none⟩ ⟨w1.heap.size, i, none⟩ _ (fun q => e (congrArg Addr.off q).symm), HC.out i hi]
            have : ¬ (i : Int) = (j : Int) := by omega
            simp [this]
        · rw [World.frozen?_setCell]
          exact HF.out i hi
      case measure => simp [intOf]; omega
    · obtain rfl : k = (memB (setN p)).length := by omega
      have hcv : (convert 22 9 (.slice (some ⟨w1.heap.size, 0, none⟩) n cap)).run Tryd.prog wr = .ok (str (lineT p n)) wr := by
        have := run_convert_bytes_back (P := Tryd.prog) wr 22 9 5 ⟨w1.heap.size, 0, none⟩ cap (lineT p n) Tryd.underlying22 Tryd.underlying5 Tryd.underlying9 (fun j hj => by
          rw [lineT_len] at hj
          rw [show (⟨w1.heap.size, 0, none⟩ : Addr).add j = ⟨w1.heap.size, j, none⟩ from by unfold Addr.add; split <;> simp_all, HC.out j hj]
          have : (j : Int) ∈ (memB (setN p)).take (memB (setN p)).length ↔ p j = true := by
            rw [List.take_length, mem_setN, mem_sel]
            constructor
            · rintro ⟨j', _, h2, h3⟩
              obtain rfl : j = j' := by omega
              rwa [Int.toNat_natCast] at h3
            · intro h; exact ⟨j, by omega, rfl, by rwa [Int.toNat_natCast]⟩
          simp only [lineT, List.getElem_map, List.getElem_range, byte]
          by_cases h : p j = true
          · rw [if_pos (this.2 h), if_pos h]
          · rw [if_neg (fun q => h (this.1 q)), if_neg h])
        rw [lineT_len] at this
        exact this
      go_wp2_with fail
      go_ret
      exact ⟨rfl, hb⟩

def rowsT (us : List Int) : List (List UInt8) := (List.range us.length).map fun i => lineT (upB us i) us.length
/-- An order's text. -/
def showT (us : List Int) : List UInt8 := if ordS us then Lib.join (rowsT us) [47] else []
theorem rowsT_len (us : List Int) : (rowsT us).length = us.length := by simp [rowsT]
theorem rowsT_at (us : List Int) (k : Nat) (hk : k < us.length) : (rowsT us)[k]? = some (lineT (upB us k) us.length) := by simp [rowsT, hk]
theorem line_congr {p q : Nat → Bool} {n : Nat} (h : ∀ x, x < n → p x = q x) : lineT p n = lineT q n := by
  unfold lineT
  refine List.map_congr_left fun j hj => ?_
  rw [List.mem_range] at hj
  rw [h j hj]
theorem ord_in' {us : List Int} (h : OrdP us) {a x : Nat} (ha : a < us.length) (hx : x < 6) (p : upB us a x = true) : x < us.length := by
  rcases Nat.lt_or_ge x us.length with h' | h'
  · exact h'
  · have := bit_high (us.getD a 0) us.length x h.len.2 hx (h.low a ha).1 (h.low a ha).2 h'
    rw [upB, this] at p; cases p
theorem joinTail_len (sep : List UInt8) (hs : sep.length = 1) (n : Nat) (hn : n ≤ 6) : ∀ xs : List (List UInt8), (∀ x ∈ xs, x.length = n) → (Lib.joinTail sep xs).length = (n + 1) * xs.length
  | [], _ => by simp [Lib.joinTail]
  | x :: xs, h => by
    have ih := joinTail_len sep hs n hn xs (fun y hy => h y (List.mem_cons_of_mem _ hy))
    have hx := h x (List.mem_cons_self ..)
    simp only [Lib.joinTail, List.map_cons, List.flatten_cons, List.length_append] at ih ⊢
    rw [ih, hs, hx, List.length_cons, Nat.mul_add]
    omega
theorem join_len (us : List Int) (h : us.length ≤ 6) : (Lib.join (rowsT us) [47]).length ≤ 1000 := by
  have hall : ∀ x ∈ rowsT us, x.length = us.length := fun x hx => by
    simp only [rowsT, List.mem_map] at hx
    obtain ⟨i, _, rfl⟩ := hx
    exact lineT_len _ _
  cases hr : rowsT us with
  | nil => simp [Lib.join]
  | cons x xs =>
    rw [Lib.join_cons, List.length_append, joinTail_len [47] rfl us.length h xs (fun y hy => hall y (by rw [hr]; exact List.mem_cons_of_mem _ hy)), hall x (by rw [hr]; exact List.mem_cons_self ..)]
    have : (rowsT us).length = us.length := rowsT_len us
    rw [hr, List.length_cons] at this
    have h1 : xs.length ≤ 6 := by omega
    have h2 : (us.length + 1) * xs.length ≤ 7 * 6 := Nat.mul_le_mul (by omega) h1
    omega

theorem cut_1 (g : Nat) (W : World) : (Instr.sliceAt 36 (.pointer (some ⟨g, 0, none⟩)) none (some (.int .i64 1)) none).run Tryd.prog W = .ok (.slice (some ⟨g, 0, none⟩) 1 6) W := by kernel_rfl
theorem cut_2 (g : Nat) (W : World) : (Instr.sliceAt 36 (.pointer (some ⟨g, 0, none⟩)) none (some (.int .i64 2)) none).run Tryd.prog W = .ok (.slice (some ⟨g, 0, none⟩) 2 6) W := by kernel_rfl
theorem cut_3 (g : Nat) (W : World) : (Instr.sliceAt 36 (.pointer (some ⟨g, 0, none⟩)) none (some (.int .i64 3)) none).run Tryd.prog W = .ok (.slice (some ⟨g, 0, none⟩) 3 6) W := by kernel_rfl
theorem cut_4 (g : Nat) (W : World) : (Instr.sliceAt 36 (.pointer (some ⟨g, 0, none⟩)) none (some (.int .i64 4)) none).run Tryd.prog W = .ok (.slice (some ⟨g, 0, none⟩) 4 6) W := by kernel_rfl
theorem cut_5 (g : Nat) (W : World) : (Instr.sliceAt 36 (.pointer (some ⟨g, 0, none⟩)) none (some (.int .i64 5)) none).run Tryd.prog W = .ok (.slice (some ⟨g, 0, none⟩) 5 6) W := by kernel_rfl
theorem cut_6 (g : Nat) (W : World) : (Instr.sliceAt 36 (.pointer (some ⟨g, 0, none⟩)) none (some (.int .i64 6)) none).run Tryd.prog W = .ok (.slice (some ⟨g, 0, none⟩) 6 6) W := by kernel_rfl
theorem cut_lad (g n : Nat) (h1 : 1 ≤ n) (h6 : n ≤ 6) (W : World) : (Instr.sliceAt 36 (.pointer (some ⟨g, 0, none⟩)) none (some (.int .i64 n)) none).run Tryd.prog W = .ok (.slice (some ⟨g, 0, none⟩) n 6) W := by
  match n, h1, h6 with
  | 1, _, _ => exact cut_1 g W
  | 2, _, _ => exact cut_2 g W
  | 3, _, _ => exact cut_3 g W
  | 4, _, _ => exact cut_4 g W
  | 5, _, _ => exact cut_5 g W
  | 6, _, _ => exact cut_6 g W

theorem Tryd.infoStr : (Tryd.prog.info? 9).map (fun i => (i.zero, i.size, i.bytes)) = some (some (.string ⟨#[]⟩), 1, 16) := by kernel_rfl

set_option maxHeartbeats 2000000 in
set_option maxRecDepth 100000 in
theorem iShowOrder_any (B : Nat) (v : Value) (us : List Int) (w : World) (hs : SeeI w B v us) (hB : B ≤ w.heap.size) : Calls Tryd.prog 6 #[.agg #[v]] w (StrOf w (showT us)) := by
  obtain ⟨A, c, rfl⟩ := hs.shape
  have hm := hs.1
  cases ho : ordI us
  · have HE : Hid (showT us = []) := Lib.hid (by simp [showT, ← ordI_eq, ho])
    rw [HE.out]
    go_enter Tryd.func6, Tryd.ntmps6
    go_wp2_with fail
    refine (ladderOf_f B _ us _ (hs.alloc hB _) (by simp; omega) ho).mono ?_
    rintro e w1 ⟨rfl, hb1⟩
    rw [cells6 (ladR_len _)]
    go_wp2_with fail
    go_ret
    exact ⟨rfl, (below_then ((Below.refl _ _).alloc (Nat.le_refl _) _) hb1 (Nat.le_refl _)).alloc (by have := hb1.size; simp at this; omega) _⟩
  · have hS : ordS us = true := by rw [← ordI_eq, ho]
    have HO := Lib.hid ((ordS_iff us).1 hS)
    have HT : Hid (showT us = Lib.join (rowsT us) [47]) := Lib.hid (by simp only [showT, hS, if_true])
    have h6 : us.length ≤ 6 := HO.out.len.2
    have h1 : 1 ≤ us.length := HO.out.len.1
    clear hS
    obtain ⟨i0, hi, hz0, hz1, hz2⟩ := info_parts Tryd.infoStr
    go_enter Tryd.func6, Tryd.ntmps6
    go_wp2_with fail
    refine (ladderOf_t B _ us _ (hs.alloc hB _) (by simp; omega) ho).mono ?_
    rintro e w1 ⟨rfl, hb1⟩
    have g1 := hb1.size
    simp at g1
    have b1 := (below_then ((Below.refl w.heap.size w).alloc (Nat.le_refl _) _) hb1 (Nat.le_refl _)).alloc (by omega) (.cells (cellsI (ladR (upR us))) 36)
    have c1 : (w1.alloc (.cells (cellsI (ladR (upR us))) 36)).cell? ⟨w.heap.size, 0, none⟩ = some (.slice A us.length c) := by
      rw [World.cell?_alloc_lt _ _ _ (by simp; omega), hb1.cell (by simp)]
      exact cell_of_row _ _ 0 _ _ (0, 0) (heap_alloc_new _ _)
    have l1 := Lad.new w1 36 (ladR (upR us))
    rw [cells6 (ladR_len _)] at c1 l1 b1 ⊢
    clear hb1
    go_wp2_with fail
    generalize w1.alloc _ = W at c1 l1 b1 ⊢
    refine (rankCount_any _ _ _ hm _).mono ?_
    rintro e w2 ⟨rfl, hb2⟩
    have l2 := l1.below hb2 l1.lt
    have b2 := below_then b1 hb2 (Nat.le_refl _)
    have z2 := l2.lt
    clear c1 l1 b1 hb2
    have hsl := cut_lad w1.heap.size us.length h1 h6
    go_wp2_with fail
    clear hsl
    go_loopw [6, 21] (fun v i wr => ∃ k : Nat, k ≤ us.length ∧ i = .int .i64 k ∧ OwnV wr w2.heap.size 9 v (((rowsT us).take k).map str) ∧ Lad wr w1.heap.size 36 (ladR (upR us)) ∧ Below w2.heap.size w2 wr) (fun _ i _ => us.length - (intOf i).toNat)
    case atStart => exact ⟨0, Nat.zero_le _, rfl, OwnV.nil _ _ _, l2, Below.refl _ _⟩
    case round =>
      obtain ⟨k, hk, rfl, ho, l3, hb⟩ := hrel
      clear l2
      by_cases hlt : k < us.length
      · have hc := l3.cell (k := k) (by rw [ladR_len]; omega)
        rw [ladR_at _ k (by omega)] at hc
        have HR := Lib.hid (rowsT_at us k hlt)
        have hlr : (((rowsT us).take k).map str).length = k := by rw [List.length_map, List.length_take, rowsT_len]; omega
        generalize hxs : ((rowsT us).take k).map str = xs at ho hlr
        have HXS := Lib.hid hxs
        have HLR := Lib.hid hlr
        clear hlr hxs
        have HL : Hid (lineT (upR us k) us.length = lineT (upB us k) us.length) := Lib.hid (line_congr fun x _ => by simp [upR, upK, upB, hlt])
        have HM : Hid (((rowsT us).take (k + 1)).map str = xs ++ [str (lineT (upB us k) us.length)]) := Lib.hid (by rw [List.take_add_one, HR.out, List.map_append, HXS.out]; rfl)
        go_wp2_with fail
        refine (showUps_any (upR us k) us.length h6 (fun x hx hp => ord_in' HO.out hlt hx (by simpa [upR, upK, upB, hlt] using hp)) _).mono ?_
        rintro e w3 ⟨rfl, hb3⟩
        rw [HL.out]
        have o3 := ho.later hb3
        have l4 := l3.below hb3 l3.lt
        have b4 := below_then hb hb3 (Nat.le_refl _)
        have z4 := b4.size
        clear ho l3 hb hb3
        go_wp2_with (at_builtin; refine wpList_append_own _ rfl _ _ 40 rfl w2.heap.size 9 i0 (.string ⟨#[]⟩) 1 16 Tryd.underlying40 hi hz0 hz1 hz2 rfl (by decide) _ _ _ rfl (o3.alloc _) ⟨w3.heap.size, 0, none⟩ 1 1 [str (lineT (upB us k) us.length)] rfl rfl ?c1 ?c2 ?c3 ?c4 ?c5 ?_)
        case c1 =>
          intro j u hj
          match j, hj with
          | 0, hj => simp at hj; subst hj; simp [Addr.add]
        case c2 => intro u hu; simp at hu; subst hu; rfl
        case c3 => unfold maxLen; have := HLR.out; omega
        case c4 => have := HLR.out; omega
        case c5 => simp; omega
        intro v' w4 hown' hgrow _
        have l5 : Lad w4 w1.heap.size 36 (ladR (upR us)) := (hgrow.block _ (by have := l4.lt; simp; omega) (fun q => by have := (o3.lt _ q.symm).1; omega)).trans (l4.alloc _)
        obtain ⟨a1, a2⟩ := OwnV.push b4 (Nat.le_refl _) o3 hown' hgrow
        clear hown' hgrow o3 l4 b4
        go_wp2
        go_roundw
        case rel => exact ⟨k + 1, by omega, by go_num, by rw [HM.out]; exact a1, l5, a2⟩
        case measure => simp [intOf]; omega
      · obtain rfl : k = us.length := by omega
        have HW : Hid ((rowsT us).take us.length = rowsT us) := Lib.hid (List.take_of_length_le (by rw [rowsT_len]; exact Nat.le_refl _))
        rw [HW.out] at ho
        obtain ⟨-, Ar, cr, rfl, hcr, hcell⟩ := ho.see
        rw [List.length_map, rowsT_len] at hcr
        obtain ⟨gr, or_, rfl, hgr, -⟩ := hcell 0 (str (lineT (upB us 0) us.length)) (by rw [List.getElem?_map, rowsT_at us 0 (by omega)]; rfl)
        have HJ := Lib.hid (Tryd.strings_Join gr or_ cr ((rowsT us).map fun l => (⟨l.toArray⟩ : ByteArray)) ⟨#[47]⟩ wr (fun j x hx => by
          rw [List.getElem?_map] at hx
          cases hq : (rowsT us)[j]? with
          | none => rw [hq] at hx; cases hx
          | some l =>
            rw [hq] at hx
            injection hx with hx
            subst hx
            obtain ⟨g', o', he, -, hc'⟩ := hcell j (str l) (by rw [List.getElem?_map, hq]; rfl)
            injection he with he
            injection he with e1 e2
            subst e1 e2
            exact hc') hgr (by rw [List.length_map, rowsT_len]; omega) (by rw [List.length_map, rowsT_len]; exact hcr)
          (by
            have e : ((rowsT us).map fun l => (⟨l.toArray⟩ : ByteArray)).map (·.data.toList) = rowsT us := by rw [List.map_map]; exact (List.map_congr_left fun l _ => by simp).trans (List.map_id _)
            rw [e]
            have := join_len us h6
            exact Nat.le_trans this (by decide)))
        have HJ2 : Hid (((rowsT us).map fun l => (⟨l.toArray⟩ : ByteArray)).map (·.data.toList) = rowsT us) := Lib.hid (by rw [List.map_map]; exact (List.map_congr_left fun l _ => by simp).trans (List.map_id _))
        rw [HJ2.out, List.length_map, rowsT_len] at HJ
        rw [List.length_map, rowsT_len]
        clear hcell ho
        go_wp2_with fail
        refine HJ.out.mono ?_
        rintro e w5 ⟨rfl, hb5⟩
        go_wp2_with fail
        go_ret
        exact ⟨by rw [HT.out]; rfl, below_then (below_then b2 hb (Nat.le_refl _)) hb5 (Nat.le_refl _)⟩

end Go.Proofs.YtkpaidadofmpfaaDoor
