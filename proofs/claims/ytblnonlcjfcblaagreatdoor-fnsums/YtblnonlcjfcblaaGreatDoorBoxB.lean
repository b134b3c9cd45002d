/- Layer 6 (sums): BoxesOk, of the program and of the model, by the same function. No conditions but those typed. -/
import Derived.Test.YtblnonlcjfcblaaGreatDoorBoxA
namespace Go.Proofs.YtblnonlcjfcblaaGreatDoor
open Go.RowKit
set_option linter.unusedVariables false

/-- Is the name of box j less 1 below that of box j? (Of the first one: yes.) -/
def risesAt (bs : List Bx) : Nat → List UInt8 → Bool
  | 0, _ => true
  | j + 1, n => match bs[j]? with
    | some c => Op.bytesLess c.1 n
    | none => false
/-- Is box k right? -/
def boxAt (bs : List Bx) (k : Nat) : Bool := match bs[k]? with
  | some b => nameB b.1 && (wordB b.2 && risesAt bs k b.1)
  | none => false
def boxesTo (bs : List Bx) (n : Nat) : Bool := (List.range n).all (boxAt bs)
def boxesB (bs : List Bx) : Bool := boxesTo bs bs.length && decide (bs.length ≤ 12)
theorem boxesTo_yes {bs : List Bx} {k : Nat} (h : boxesTo bs k = true) (hb : boxAt bs k = true) : boxesTo bs (k + 1) = true := by
  unfold boxesTo at h ⊢
  rw [List.range_succ, List.all_append, h]; simp [hb]
theorem boxesTo_no {bs : List Bx} {k : Nat} (hk : k < bs.length) (hb : boxAt bs k = false) : boxesB bs = false := by
  unfold boxesB boxesTo
  have : (List.range bs.length).all (boxAt bs) = false := by
    rw [List.all_eq_false]; exact ⟨k, List.mem_range.2 hk, by simp [hb]⟩
  rw [this]; rfl
theorem boxesTo_end {bs : List Bx} (h : boxesTo bs bs.length = true) : boxesB bs = decide (bs.length ≤ 12) := by unfold boxesB; rw [h]; rfl
theorem boxAt_name {bs : List Bx} {k : Nat} {b : Bx} (hb : bs[k]? = some b) (h : nameB b.1 = false) : boxAt bs k = false := by simp [boxAt, hb, h]
theorem boxAt_word {bs : List Bx} {k : Nat} {b : Bx} (hb : bs[k]? = some b) (h : wordB b.2 = false) : boxAt bs k = false := by simp [boxAt, hb, h]
theorem boxAt_0 {bs : List Bx} {b : Bx} (hb : bs[0]? = some b) (h : nameB b.1 = true) (h' : wordB b.2 = true) : boxAt bs 0 = true := by simp [boxAt, hb, h, h', risesAt]
theorem boxAt_s {bs : List Bx} {j : Nat} {b c : Bx} (hb : bs[j + 1]? = some b) (hc : bs[j]? = some c) (h : nameB b.1 = true) (h' : wordB b.2 = true) : boxAt bs (j + 1) = Op.bytesLess c.1 b.1 := by
  simp [boxAt, hb, h, h', risesAt, hc]
theorem less_lt : ∀ (x y : List UInt8), Op.bytesLess x y = decide (x < y)
  | [], [] => by simp [Op.bytesLess]
  | _ :: _, [] => by simp [Op.bytesLess]
  | [], _ :: _ => by simp [Op.bytesLess]
  | a :: x, b :: y => by
    rw [Op.bytesLess, less_lt x y]
    simp only [List.cons_lt_cons_iff]
    by_cases h1 : a < b <;> by_cases h2 : a = b <;> by_cases h3 : x < y <;> simp [h1, h2, h3]
theorem less_or_eq (a b : List UInt8) : (Op.bytesLess a b || a == b) = !Op.bytesLess b a := by
  rw [less_lt, less_lt]
  by_cases h : b < a
  · have h1 : ¬ a < b := fun q => List.lt_asymm h q
    have h2 : ¬ a = b := by rintro rfl; exact List.lt_irrefl _ h
    simp [h, h1, h2]
  · have h' : a ≤ b := h
    rcases (List.le_iff_lt_or_eq).1 h' with q | q
    · simp [h, q]
    · simp [q]

def BoolLt (w : World) (b : Bool) (e : Ending) (w' : World) : Prop := e = .returned (.bool b) ∧ Below w.heap.size w w'

/-- No name is longer than that. -/
def shortB (bs : List Bx) : Prop := ∀ b ∈ bs, b.1.length ≤ 1048576

theorem ret_le {n : Nat} {b : Bool} (h : b = decide (n ≤ 12)) : Ending.returned (.bool (decide ((n : Int) ≤ 12))) = .returned (.bool b) := by
  rw [h]
  by_cases q : n ≤ 12
  · rw [decide_eq_true q, decide_eq_true (show (n : Int) ≤ 12 by omega)]
  · rw [decide_eq_false q, decide_eq_false (show ¬ (n : Int) ≤ 12 by omega)]

set_option maxHeartbeats 2000000 in
theorem sBoxesOk_any (B : Nat) (v : Value) (bs : List Bx) (w : World) (h : SeeBx w B v bs) (hB : B ≤ w.heap.size) (hS : shortB bs) :
    Calls Tryz.prog 49 #[v] w (BoolLt w (boxesB bs)) := by
  have hm := h.len
  unfold maxLen at hm
  obtain ⟨A, c, rfl⟩ := h.shape
  go_enter Tryz.func49, Tryz.ntmps49
  go_wp2_with fail
  go_loopw [3] (fun i wr => ∃ k : Nat, k ≤ bs.length ∧ i = .int .i64 k ∧ boxesTo bs k = true ∧ Below w.heap.size w wr) (fun i _ => bs.length - (intOf i).toNat)
  case atStart => exact ⟨0, Nat.zero_le _, rfl, rfl, Below.refl _ _⟩
  case round =>
    obtain ⟨k, hk, rfl, hv, hbw⟩ := hrel
    have HV := Lib.hid hv
    clear hv
    by_cases hlt : k < bs.length
    · have hb := List.getElem?_eq_getElem hlt
      generalize bs[k] = b at hb
      have hsb := hS b (List.mem_of_getElem? hb)
      have h' := h.below (hbw.mono hB)
      obtain ⟨g, o, rfl, -, hn, hx⟩ := h'.at_ hb
      obtain ⟨n, x⟩ := b
      dsimp only at hn hx hsb
      have T1 : Hid (∀ i : Later wr, Calls Tryz.prog 76 #[str n] i.now (BoolIs (nameB n) i.now)) := Lib.hid fun i => sNameOk_any n hsb _
      have T2 : Hid (∀ i : Later wr, Calls Tryz.prog 80 #[.int .i64 x] i.now fun e w' => e = .returned (.bool (wordB x)) ∧ i.now = w') := Lib.hid fun i => l5Word_any x _
      have hn' := later_cell hn
      have hx' := later_cell hx
      cases hN : nameB n
      · have HE := Lib.hid (boxesTo_no hlt (boxAt_name hb hN))
        rw [hN] at T1
        clear hb hN h h' hn hx
        go_wp2_with fail
        refine region_later (by kernel_rfl) (by kernel_rfl) ?_
        repeat (go_big_quiet_step (first | (go_at_call 76; exact later_same (T1.out _)) | (go_at_call 80; exact later_same (T2.out _))))
        refine wpQuiet_nil ?_
        rintro w2 ⟨⟨_, hbk⟩, rfl⟩
        go_wp2_with fail
        go_ret
        exact ⟨ret_bool HE.out.symm, below_then hbw hbk (Nat.le_refl _)⟩
      cases hW : wordB x
      · have HE := Lib.hid (boxesTo_no hlt (boxAt_word hb hW))
        rw [hN] at T1
        rw [hW] at T2
        clear hb hN hW h h' hn hx
        go_wp2_with fail
        refine region_later (by kernel_rfl) (by kernel_rfl) ?_
        repeat (go_big_quiet_step (first | (go_at_call 76; exact later_same (T1.out _)) | (go_at_call 80; exact later_same (T2.out _))))
        refine wpQuiet_nil ?_
        rintro w2 ⟨⟨_, hbk⟩, rfl⟩
        go_wp2_with fail
        go_ret
        exact ⟨ret_bool HE.out.symm, below_then hbw hbk (Nat.le_refl _)⟩
      rw [hN] at T1
      rw [hW] at T2
      cases k with
      | zero =>
        have HE := Lib.hid (boxesTo_yes HV.out (boxAt_0 hb hN hW))
        clear hb hN hW h h' hn hx
        simp only [Nat.zero_mul, Nat.add_zero] at hn' hx'
        go_wp2_with fail
        refine region_later (by kernel_rfl) (by kernel_rfl) ?_
        repeat (go_big_quiet_step (first | (go_at_call 76; exact later_same (T1.out _)) | (go_at_call 80; exact later_same (T2.out _))))
        refine wpQuiet_nil ?_
        rintro w2 ⟨⟨_, hbk⟩, rfl⟩
        go_wp2_with fail
        go_roundw
        case rel => exact ⟨1, by omega, by go_num, HE.out, below_then hbw hbk (Nat.le_refl _)⟩
        case measure => simp [intOf]; omega
      | succ j =>
        have hd := List.getElem?_eq_getElem (show j < bs.length by omega)
        generalize bs[j]'(_) = d at hd
        obtain ⟨g', o', he, -, hd', -⟩ := h'.at_ hd
        injection he with he
        injection he with he1 he2
        subst he1 he2
        obtain ⟨n', x'⟩ := d
        dsimp only at hd'
        have hd'' := later_cell hd'
        cases hq : Op.bytesLess n' n
        · have HE := Lib.hid (boxesTo_no hlt ((boxAt_s hb hd hN hW).trans hq))
          have hle : (Op.bytesLess n n' || n == n') = true := by rw [less_or_eq, hq]; rfl
          clear hb hN hW h h' hd hq hn hx hd'
          go_wp2_with fail
          refine region_later (by kernel_rfl) (by kernel_rfl) ?_
          repeat (go_big_quiet_step (first | (go_at_call 76; exact later_same (T1.out _)) | (go_at_call 80; exact later_same (T2.out _))))
          refine wpQuiet_nil ?_
          rintro w2 ⟨⟨_, hbk⟩, rfl⟩
          go_wp2_with fail
          go_ret
          exact ⟨ret_bool HE.out.symm, below_then hbw hbk (Nat.le_refl _)⟩
        · have HE := Lib.hid (boxesTo_yes HV.out ((boxAt_s hb hd hN hW).trans hq))
          have hle : (Op.bytesLess n n' || n == n') = false := by rw [less_or_eq, hq]; rfl
          clear hb hN hW h h' hd hq hn hx hd'
          go_wp2_with fail
          refine region_later (by kernel_rfl) (by kernel_rfl) ?_
          repeat (go_big_quiet_step (first | (go_at_call 76; exact later_same (T1.out _)) | (go_at_call 80; exact later_same (T2.out _))))
          refine wpQuiet_nil ?_
          rintro w2 ⟨⟨_, hbk⟩, rfl⟩
          go_wp2_with fail
          go_roundw
          case rel => exact ⟨j + 1 + 1, by omega, by go_num, HE.out, below_then hbw hbk (Nat.le_refl _)⟩
          case measure => simp [intOf]; omega
    · obtain rfl : k = bs.length := by omega
      have HE := Lib.hid (boxesTo_end HV.out)
      go_wp2_with fail
      go_ret
      exact ⟨ret_le HE.out, hbw⟩

set_option maxHeartbeats 2000000 in
theorem iBoxesOk_any (B : Nat) (v : Value) (bs : List Bx) (w : World) (h : SeeBx w B v bs) (hB : B ≤ w.heap.size) (hS : shortB bs) :
    Calls Tryz.prog 70 #[v] w (BoolLt w (boxesB bs)) := by
  have hm := h.len
  unfold maxLen at hm
  obtain ⟨A, c, rfl⟩ := h.shape
  by_cases h12 : 12 < bs.length
  · have HE : Hid (boxesB bs = false) := Lib.hid (by unfold boxesB; rw [decide_eq_false (by omega), Bool.and_false])
    go_enter Tryz.func70, Tryz.ntmps70
    go_wp2_with fail
    go_ret
    exact ⟨ret_bool HE.out.symm, Below.refl _ _⟩
  have h12' : bs.length ≤ 12 := by omega
  clear h12
  go_enter Tryz.func70, Tryz.ntmps70
  go_wp2_with fail
  go_loopw [3, 4, 10] (fun _ _ i wr => ∃ k : Nat, k ≤ bs.length ∧ i = .int .i64 k ∧ boxesTo bs k = true ∧ Below w.heap.size w wr) (fun _ _ i _ => bs.length - (intOf i).toNat)
  case atStart => exact ⟨0, Nat.zero_le _, rfl, rfl, Below.refl _ _⟩
  case round =>
    obtain ⟨k, hk, rfl, hv, hbw⟩ := hrel
    have HV := Lib.hid hv
    clear hv
    by_cases hlt : k < bs.length
    · have hb := List.getElem?_eq_getElem hlt
      generalize bs[k] = b at hb
      have hsb := hS b (List.mem_of_getElem? hb)
      have h' := h.below (hbw.mono hB)
      obtain ⟨g, o, rfl, hgB, hn, hx⟩ := h'.at_ hb
      obtain ⟨n, x⟩ := b
      dsimp only at hn hx hsb
      have hb2 := hbw.alloc (hbw.size) (.cells #[str n, .int .i64 x] 86)
      have hbx : B ≤ wr.heap.size := Nat.le_trans hB hbw.size
      have HB := Lib.hid (hbw.alloc (hbw.size) (.cells #[str n, .int .i64 x] 86))
      have HZ : Hid ((wr.alloc (.cells #[str n, .int .i64 x] 86)).cell? ⟨wr.heap.size, 0, none⟩ = some (str n) ∧ (wr.alloc (.cells #[str n, .int .i64 x] 86)).cell? ⟨wr.heap.size, 1, none⟩ = some (.int .i64 x)) :=
        Lib.hid ⟨by rw [cell_of_row _ _ 0 _ _ (0, 0) (heap_alloc_new _ _)]; rfl, by rw [cell_of_row _ _ 1 _ _ (0, 0) (heap_alloc_new _ _)]; rfl⟩
      have HO : Hid (SeeBx (wr.alloc (.cells #[str n, .int .i64 x] 86)) B (.slice (some ⟨g, o, none⟩) bs.length c) bs) := Lib.hid (h'.alloc (Nat.le_trans hB hbw.size) _)
      clear h' h
      cases hN : nameB n
      · have HE := Lib.hid (boxesTo_no hlt (boxAt_name hb hN))
        clear hb
        go_wp2_with fail
        generalize wr.alloc _ = W at HZ HO HB ⊢
        generalize wr.heap.size = z at HZ ⊢
        obtain ⟨z0, z1⟩ := HZ.out
        have n' := later_cell z0
        have x' := later_cell z1
        have T1 : Hid (∀ i : Later W, Calls Tryz.prog 77 #[str n] i.now (BoolIs (nameB n) i.now)) := Lib.hid fun i => iNameOk_any n hsb _
        have T2 : Hid (∀ i : Later W, Calls Tryz.prog 106 #[.int .i64 x] i.now fun e w' => e = .returned (.bool (wordB x)) ∧ i.now = w') := Lib.hid fun i => iWordOk_any x _
        clear HZ z0 z1
        rw [hN] at T1
        clear hN HO
        refine region_later (by kernel_rfl) (by kernel_rfl) ?_
        repeat (go_big_quiet_step (first | (go_at_call 77; exact later_same (T1.out _)) | (go_at_call 106; exact later_same (T2.out _))))
        refine wpQuiet_nil ?_
        rintro w2 ⟨⟨_, hbk⟩, rfl⟩
        go_wp2_with fail
        go_ret
        exact ⟨ret_bool HE.out.symm, below_then HB.out hbk (Nat.le_refl _)⟩
      cases hW : wordB x
      · have HE := Lib.hid (boxesTo_no hlt (boxAt_word hb hW))
        clear hb
        go_wp2_with fail
        generalize wr.alloc _ = W at HZ HO HB ⊢
        generalize wr.heap.size = z at HZ ⊢
        obtain ⟨z0, z1⟩ := HZ.out
        have n' := later_cell z0
        have x' := later_cell z1
        have T1 : Hid (∀ i : Later W, Calls Tryz.prog 77 #[str n] i.now (BoolIs (nameB n) i.now)) := Lib.hid fun i => iNameOk_any n hsb _
        have T2 : Hid (∀ i : Later W, Calls Tryz.prog 106 #[.int .i64 x] i.now fun e w' => e = .returned (.bool (wordB x)) ∧ i.now = w') := Lib.hid fun i => iWordOk_any x _
        clear HZ z0 z1
        rw [hN] at T1
        rw [hW] at T2
        clear hN hW HO
        refine region_later (by kernel_rfl) (by kernel_rfl) ?_
        repeat (go_big_quiet_step (first | (go_at_call 77; exact later_same (T1.out _)) | (go_at_call 106; exact later_same (T2.out _))))
        refine wpQuiet_nil ?_
        rintro w2 ⟨⟨_, hbk⟩, rfl⟩
        go_wp2_with fail
        go_ret
        exact ⟨ret_bool HE.out.symm, below_then HB.out hbk (Nat.le_refl _)⟩
      cases k with
      | zero =>
        have HE := Lib.hid (boxesTo_yes HV.out (boxAt_0 hb hN hW))
        clear hb
        simp only [Nat.zero_mul, Nat.add_zero] at hn hx
        go_wp2_with fail
        generalize wr.alloc _ = W at HZ HO HB ⊢
        generalize wr.heap.size = z at HZ ⊢
        obtain ⟨z0, z1⟩ := HZ.out
        have n' := later_cell z0
        have x' := later_cell z1
        have T1 : Hid (∀ i : Later W, Calls Tryz.prog 77 #[str n] i.now (BoolIs (nameB n) i.now)) := Lib.hid fun i => iNameOk_any n hsb _
        have T2 : Hid (∀ i : Later W, Calls Tryz.prog 106 #[.int .i64 x] i.now fun e w' => e = .returned (.bool (wordB x)) ∧ i.now = w') := Lib.hid fun i => iWordOk_any x _
        clear HZ z0 z1
        rw [hN] at T1
        rw [hW] at T2
        clear hN hW HO
        refine region_later (by kernel_rfl) (by kernel_rfl) ?_
        repeat (go_big_quiet_step (first | (go_at_call 77; exact later_same (T1.out _)) | (go_at_call 106; exact later_same (T2.out _))))
        refine wpQuiet_nil ?_
        rintro w2 ⟨⟨_, hbk⟩, rfl⟩
        go_wp2_with fail
        go_roundw
        case rel => exact ⟨1, by omega, by go_num, HE.out, below_then HB.out hbk (Nat.le_refl _)⟩
        case measure => simp [intOf]; omega
      | succ j =>
        have hd := List.getElem?_eq_getElem (show j < bs.length by omega)
        generalize bs[j]'(_) = d at hd
        obtain ⟨n2, x2⟩ := d
        cases hq : Op.bytesLess n2 n
        · have HE := Lib.hid (boxesTo_no hlt ((boxAt_s hb hd hN hW).trans hq))
          clear hb
          go_wp2_with fail
          generalize wr.alloc _ = W at HZ HO HB ⊢
          generalize wr.heap.size = z at HZ ⊢
          obtain ⟨z0, z1⟩ := HZ.out
          have n' := later_cell z0
          have x' := later_cell z1
          have T1 : Hid (∀ i : Later W, Calls Tryz.prog 77 #[str n] i.now (BoolIs (nameB n) i.now)) := Lib.hid fun i => iNameOk_any n hsb _
          have T2 : Hid (∀ i : Later W, Calls Tryz.prog 106 #[.int .i64 x] i.now fun e w' => e = .returned (.bool (wordB x)) ∧ i.now = w') := Lib.hid fun i => iWordOk_any x _
          clear HZ z0 z1
          obtain ⟨g2, o2, he, -, hd2, -⟩ := HO.out.at_ hd
          injection he with he
          injection he with he1 he2
          subst he1 he2
          dsimp only at hd2
          have hd3 := later_cell hd2
          rw [hN] at T1
          rw [hW] at T2
          clear hN hW HO hd hd2
          refine region_later (by kernel_rfl) (by kernel_rfl) ?_
          repeat (go_big_quiet_step (first | (go_at_call 77; exact later_same (T1.out _)) | (go_at_call 106; exact later_same (T2.out _))))
          refine wpQuiet_nil ?_
          rintro w2 ⟨⟨_, hbk⟩, rfl⟩
          go_wp2_with fail
          go_ret
          exact ⟨ret_bool HE.out.symm, below_then HB.out hbk (Nat.le_refl _)⟩
        · have HE := Lib.hid (boxesTo_yes HV.out ((boxAt_s hb hd hN hW).trans hq))
          clear hb
          go_wp2_with fail
          generalize wr.alloc _ = W at HZ HO HB ⊢
          generalize wr.heap.size = z at HZ ⊢
          obtain ⟨z0, z1⟩ := HZ.out
          have n' := later_cell z0
          have x' := later_cell z1
          have T1 : Hid (∀ i : Later W, Calls Tryz.prog 77 #[str n] i.now (BoolIs (nameB n) i.now)) := Lib.hid fun i => iNameOk_any n hsb _
          have T2 : Hid (∀ i : Later W, Calls Tryz.prog 106 #[.int .i64 x] i.now fun e w' => e = .returned (.bool (wordB x)) ∧ i.now = w') := Lib.hid fun i => iWordOk_any x _
          clear HZ z0 z1
          obtain ⟨g2, o2, he, -, hd2, -⟩ := HO.out.at_ hd
          injection he with he
          injection he with he1 he2
          subst he1 he2
          dsimp only at hd2
          have hd3 := later_cell hd2
          rw [hN] at T1
          rw [hW] at T2
          clear hN hW HO hd hd2
          refine region_later (by kernel_rfl) (by kernel_rfl) ?_
          repeat (go_big_quiet_step (first | (go_at_call 77; exact later_same (T1.out _)) | (go_at_call 106; exact later_same (T2.out _))))
          refine wpQuiet_nil ?_
          rintro w2 ⟨⟨_, hbk⟩, rfl⟩
          go_wp2_with fail
          go_roundw
          case rel => exact ⟨j + 1 + 1, by omega, by go_num, HE.out, below_then HB.out hbk (Nat.le_refl _)⟩
          case measure => simp [intOf]; omega
    · obtain rfl : k = bs.length := by omega
      have HE := Lib.hid (boxesTo_end HV.out)
      go_wp2_with fail
      go_ret
      exact ⟨ret_bool (by rw [HE.out, decide_eq_true h12']), hbw⟩

end Go.Proofs.YtblnonlcjfcblaaGreatDoor
