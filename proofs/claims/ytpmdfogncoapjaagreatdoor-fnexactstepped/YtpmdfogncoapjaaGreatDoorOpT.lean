/- The laws' helpers on Op and []Op: szOp, toOp, szOpS, toOpS; an Op opened; the walk of FnExactOpOk. Condition: the listed variable impl.opForms holds what the program's text lays (Forms). -/
import Derived.Test.YtpmdfogncoapjaaGreatDoorCodO
import Derived.Test.YtpmdfogncoapjaaGreatDoorOpL
import Derived.Test.YtpmdfogncoapjaaGreatDoorOpenA
namespace Go.Proofs.YtpmdfogncoapjaaGreatDoor
open Go.RowKit
set_option linter.unusedVariables false

set_option maxHeartbeats 1000000 in
theorem szOp_any (o : Opv) (left : Int) (hn : o.2.2.length ≤ 9223372036854775807) (h0 : 0 ≤ left) (h1 : left ≤ 1048576) (w : World) : Calls Tryz.prog 74 #[.agg #[.int .i64 o.1, .int .i64 o.2.1, str o.2.2], .int .i64 left] w fun e w' => e = .returned (.int .i64 (if left < o.2.2.length then -1 else left - o.2.2.length)) ∧ Below w.heap.size w w' := by
  obtain ⟨a, n, s⟩ := o
  dsimp only at hn ⊢
  by_cases h : left < s.length
  · have h2 : left - (s.length : Int) < 0 := by omega
    rw [if_pos h]
    go_enter Tryz.func74, Tryz.ntmps74
    go_wp2_with fail
    go_ret
    exact ⟨rfl, (Below.refl _ _).alloc (Nat.le_refl _) _⟩
  · have h2 : ¬ left - (s.length : Int) < 0 := by omega
    rw [if_neg h]
    go_enter Tryz.func74, Tryz.ntmps74
    go_wp2_with fail
    go_ret
    exact ⟨rfl, (Below.refl _ _).alloc (Nat.le_refl _) _⟩

set_option maxHeartbeats 1000000 in
theorem toOp_any (o : Opv) (w : World) : Calls Tryz.prog 77 #[.agg #[.int .i64 o.1, .int .i64 o.2.1, str o.2.2]] w fun e w' => e = .returned (.agg #[.int .i64 o.1, .int .i64 o.2.1, str o.2.2]) ∧ Below w.heap.size w w' := by
  obtain ⟨a, n, s⟩ := o
  dsimp only
  go_enter Tryz.func77, Tryz.ntmps77
  go_wp2_with fail
  refine bodyPost_ret (v := .agg #[.int .i64 a, .int .i64 n, str s]) (by simp [results, Tryz.results77, go_sem]) rfl ⟨rfl, ?_⟩
  exact (((Below.refl _ _).alloc (Nat.le_refl _) _).alloc (by simp) _).alloc (by simp; omega) _

def nmLens8 (cs : List Opv) : List Nat := cs.map fun o => o.2.2.length
def fitO (cs : List Opv) : Prop := ∀ o ∈ cs, o.2.2.length ≤ 9223372036854775807

set_option maxHeartbeats 1000000 in
theorem szOps_any (B : Nat) (v : Value) (bs : List Opv) (left : Int) (h0 : 0 ≤ left) (h1 : left ≤ 1048576) (w : World) (h : SeeOp w B v bs) (hB : B ≤ w.heap.size) (hF : fitO bs) : Calls Tryz.prog 27 #[v, .int .i64 left] w fun e w' => e = .returned (.int .i64 (szL left (nmLens8 bs))) ∧ Below w.heap.size w w' := by
  have hm := h.len
  unfold maxLen at hm
  obtain ⟨A, c, rfl⟩ := h.shape
  have HL : Hid ((nmLens8 bs).length = bs.length) := Lib.hid (by simp [nmLens8])
  by_cases hl : left < bs.length
  · have HE : Hid (szL left (nmLens8 bs) = -1) := Lib.hid (szL_long (by rw [HL.out]; exact hl))
    have h2 : left - (bs.length : Int) < 0 := by omega
    go_enter Tryz.func27, Tryz.ntmps27
    go_wp2_with fail
    go_ret
    exact ⟨ret_int HE.out.symm, Below.refl _ _⟩
  have HE : Hid (szL left (nmLens8 bs) = szGo (left - bs.length) (nmLens8 bs)) := Lib.hid (by rw [szL_short (by rw [HL.out]; exact hl), HL.out])
  have h2 : ¬ left - (bs.length : Int) < 0 := by omega
  go_enter Tryz.func27, Tryz.ntmps27
  go_wp2_with fail
  go_loopw [1, 5] (fun q i wr => ∃ (k : Nat) (x : Int), k ≤ bs.length ∧ i = .int .i64 k ∧ q = .int .i64 x ∧ 0 ≤ x ∧ x ≤ 1048576 ∧ szGo x ((nmLens8 bs).drop k) = szL left (nmLens8 bs) ∧ Below w.heap.size w wr) (fun _ i _ => bs.length - (intOf i).toNat)
  case atStart => exact ⟨0, _, Nat.zero_le _, rfl, rfl, by omega, by omega, HE.out.symm, Below.refl _ _⟩
  case round =>
    obtain ⟨k, x, hk, rfl, rfl, x0, x1, hv, hbw⟩ := hrel
    have HV := Lib.hid hv
    clear hv HE h2
    by_cases hlt : k < bs.length
    · have hb := List.getElem?_eq_getElem hlt
      generalize bs[k] = b at hb
      have hsb := hF b (List.mem_of_getElem? hb)
      obtain ⟨g, o, rfl, -, hn, hx, hy⟩ := (h.below (hbw.mono hB)).at_ hb
      have HC := Lib.hid (szOp_any b x hsb x0 x1 wr)
      obtain ⟨n, y, s⟩ := b
      dsimp only at hn hx hy hsb HC
      have HK : Hid ((nmLens8 bs)[k]? = some s.length) := Lib.hid (by simp [nmLens8, hb])
      clear hb h
      by_cases hq : x < s.length
      · rw [if_pos hq] at HC
        have HE := Lib.hid (szGo_no HV.out HK.out hq)
        go_wp2_with fail
        refine HC.out.mono ?_
        rintro e w2 ⟨rfl, hb2⟩
        go_wp2_with fail
        go_ret
        exact ⟨ret_int HE.out.symm, below_then hbw hb2 (Nat.le_refl _)⟩
      · rw [if_neg hq] at HC
        have HE := Lib.hid (szGo_yes HV.out HK.out hq)
        have q1 : ¬ x - (s.length : Int) < 0 := by omega
        go_wp2_with fail
        refine HC.out.mono ?_
        rintro e w2 ⟨rfl, hb2⟩
        go_wp2_with fail
        go_roundw
        case rel => exact ⟨k + 1, _, by omega, by go_num, rfl, by omega, by omega, HE.out, below_then hbw hb2 (Nat.le_refl _)⟩
        case measure => simp [intOf]; omega
    · obtain rfl : k = bs.length := by omega
      have HE : Hid (szL left (nmLens8 bs) = x) := Lib.hid (by rw [← HV.out, List.drop_of_length_le (by rw [HL.out]; exact Nat.le_refl _)]; rfl)
      go_wp2_with fail
      go_ret
      exact ⟨ret_int HE.out.symm, hbw⟩

set_option maxHeartbeats 2000000 in
theorem toOps_any (B : Nat) (v : Value) (bs : List Opv) (hn : bs.length ≤ 1048576) (w : World) (hs : SeeOp w B v bs) (hB : B ≤ w.heap.size) : Calls Tryz.prog 30 #[v] w fun e w' =>
    ∃ v', e = .returned v' ∧ OwnOp w' w.heap.size 41 v' bs ∧ Below w.heap.size w w' := by
  obtain ⟨A, c, rfl⟩ := hs.shape
  have hmk := fun W => make_rows (P := Tryz.prog) 28 41 (.agg #[.int .i64 0, .int .i64 0, .string ⟨#[]⟩]) 3 32 Tryz.underlying28 Tryz.infoOp .i64 .i64 bs.length (by omega) (by omega) W
  go_enter Tryz.func30, Tryz.ntmps30
  go_wp2_with fail
  clear hmk
  generalize hcur : madeCells _ (bs.length * 3) = cur0
  have HS : Hid (cur0.size = bs.length * 3) := Lib.hid (by rw [← hcur, size_madeCells])
  clear hcur
  have H0 : Hid ((w.alloc (.cells cur0 41)).heap[w.heap.size]? = some (.cells cur0 41 (0, 0))) := Lib.hid (heap_alloc_new _ _)
  have B0 : Below w.heap.size w (w.alloc (.cells cur0 41)) := (Below.refl _ _).alloc (Nat.le_refl _) _
  generalize w.alloc _ = W0 at H0 B0 ⊢
  generalize hz : w.heap.size = z at H0 ⊢
  have HZ := Lib.hid hz
  clear hz
  go_loopw [4] (fun i wr => ∃ (k : Nat) (cur : Array Value), k ≤ bs.length ∧ i = .int .i64 k ∧ wr.heap[z]? = some (.cells cur 41 (0, 0)) ∧ cur.size = bs.length * 3 ∧
      cur.toList.take (k * 3) = ((bs.map opV).take k).flatten ∧ Below w.heap.size w wr) (fun i _ => bs.length - (intOf i).toNat)
  case atStart => exact ⟨0, _, Nat.zero_le _, rfl, H0.out, HS.out, by simp, B0⟩
  case round =>
    obtain ⟨k, cur, hk, rfl, hh, hsz, htk, hb⟩ := hrel
    have HH := Lib.hid hh
    have HZ2 := Lib.hid hsz
    have HT := Lib.hid htk
    clear hh hsz htk
    by_cases hlt : k < bs.length
    · have hx := List.getElem?_eq_getElem hlt
      generalize bs[k] = b at hx
      obtain ⟨g, o, rfl, hgB, hcn, hcx, hcy⟩ := (hs.below (hb.mono hB)).at_ hx
      have HO := Lib.hid (fun w => toOp_any b w)
      obtain ⟨n, x, s⟩ := b
      dsimp only at hcn hcx hcy HO
      have HX : Hid ((bs.map opV)[k]? = some [.int .i64 n, .int .i64 x, str s]) := Lib.hid (by rw [List.getElem?_map, hx]; rfl)
      clear hx
      go_wp2_with fail
      refine (HO.out _).mono ?_
      rintro e w2 ⟨rfl, hb2⟩
      have hk' : k * 3 + 2 < cur.size := by have := HZ2.out; omega
      have HH2 : Hid (w2.heap[z]? = some (.cells cur 41 (0, 0))) := Lib.hid ((hb2.block z (Array.getElem?_eq_some_iff.1 HH.out).1).trans HH.out)
      have hc0 : w2.cell? ⟨z, k * 3, none⟩ = some cur[k * 3] := by rw [cell_of_row w2 _ (k * 3) cur _ (0, 0) HH2.out]; exact Array.getElem?_eq_getElem (by omega)
      have hc1 : w2.cell? ⟨z, k * 3 + 1, none⟩ = some cur[k * 3 + 1] := by rw [cell_of_row w2 _ (k * 3 + 1) cur _ (0, 0) HH2.out]; exact Array.getElem?_eq_getElem (by omega)
      have hc2 : w2.cell? ⟨z, k * 3 + 2, none⟩ = some cur[k * 3 + 2] := by rw [cell_of_row w2 _ (k * 3 + 2) cur _ (0, 0) HH2.out]; exact Array.getElem?_eq_getElem hk'
      have hf0 : w2.frozen? ⟨z, k * 3, none⟩ = false := frozen_row HH2.out
      have hf1 : w2.frozen? ⟨z, k * 3 + 1, none⟩ = false := frozen_row HH2.out
      have hf2 : w2.frozen? ⟨z, k * 3 + 2, none⟩ = false := frozen_row HH2.out
      generalize cur[k * 3]'(_) = q0 at hc0
      generalize cur[k * 3 + 1]'(_) = q1 at hc1
      generalize cur[k * 3 + 2]'(_) = q2 at hc2
      have hb3 := below_then hb hb2 (Nat.le_refl _)
      clear hs hcn hcx hcy hb2 hb
      go_wp2_with fail
      go_roundw
      case rel => exact ⟨k + 1, _, by omega, by go_num, heap_set (heap_set (heap_set HH2.out _) _) _, by simp only [Array.size_setIfInBounds]; exact HZ2.out, by rw [take_more_flat HX.out]; exact take_three HT.out hk', ((hb3.setCell (by have := HZ.out; simp; omega) _).setCell (by have := HZ.out; simp; omega) _).setCell (by have := HZ.out; simp; omega) _⟩
      case measure => simp [intOf]; omega
    · obtain rfl : bs.length = k := by omega
      go_wp2_with fail
      go_ret
      refine ⟨_, rfl, ⟨⟨by rw [flat_len (ops_three bs)], .inr ⟨z, bs.length, cur, by simp, by have := HZ.out; omega, HH.out, by simp, by unfold maxLen; omega, by rw [HZ2.out], ?_⟩⟩, ops_three bs⟩, hb⟩
      have := HT.out
      rw [List.take_of_length_le (i := bs.length) (by simp)] at this
      rw [List.length_map]
      exact this

end Go.Proofs.YtpmdfogncoapjaaGreatDoor
