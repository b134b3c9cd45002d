/- Layer 9 (the player): small functions of the program: slotOk, slotsOk, codeOk, slices.Clone. Condition of codeOk: the listed variable impl.opForms holds what the program's text lays (Forms). -/
import Derived.Test.YtigcbegeaikfcaaGreatDoorCoreM
import Derived.Test.YtigcbegeaikfcaaGreatDoorCodO
namespace Go.Proofs.YtigcbegeaikfcaaGreatDoor
open Go.RowKit
set_option linter.unusedVariables false

set_option maxHeartbeats 2000000 in
theorem each_OpOk (B : Nat) (v : Value) (os : List Opv) (w : World) (h : SeeOp w B v os) (hB : B ≤ w.heap.size) (hS : shortOp os) (F : Forms w) : Calls Tryz.prog 95 #[v, .func (.func 96) #[] #[]] w (BoolLt w (os.all opB)) := by
  have hm := h.len
  unfold maxLen at hm
  obtain ⟨A, c, rfl⟩ := h.shape
  have HF := Lib.hid (fun W (b : Below w.heap.size w W) => F.below b)
  clear F
  go_enter Tryz.func95, Tryz.ntmps95
  go_wp2_with fail
  go_loopw [6, 9] (fun _ i wr => ∃ k : Nat, k ≤ os.length ∧ i = .int .i64 k ∧ (os.take k).all opB = true ∧ Below w.heap.size w wr) (fun _ i _ => os.length - (intOf i).toNat)
  case atStart => exact ⟨0, Nat.zero_le _, rfl, by simp, Below.refl _ _⟩
  case round =>
    obtain ⟨k, hk, rfl, hv, hbw⟩ := hrel
    have HV := Lib.hid hv
    clear hv
    by_cases hlt : k < os.length
    · have hx := List.getElem?_eq_getElem hlt
      generalize os[k] = x at hx
      have hsx := hS x (List.mem_of_getElem? hx)
      obtain ⟨g, o, rfl, -, e0, e1, e2⟩ := (h.below (hbw.mono hB)).at_ hx
      have HX := Lib.hid hx
      have HC := Lib.hid (fun W F => iOpOk_any x hsx W F)
      obtain ⟨a, n, s⟩ := x
      dsimp only at e0 e1 e2 HC
      have b1 := hbw.alloc hbw.size (.cells #[.int .i64 a, .int .i64 n, str s] 41)
      clear hx hsx
      go_wp2_with fail
      refine (HC.out _ (HF.out _ b1)).mono ?_
      rintro e w2 ⟨rfl, b2⟩
      have b3 := below_then b1 b2 (Nat.le_refl _)
      cases hp : opB (a, n, s)
      · have HE := Lib.hid (all_out HX.out hp)
        go_wp2_with fail
        go_ret
        exact ⟨ret_bool HE.out.symm, b3⟩
      · have HO := Lib.hid (all_more HV.out HX.out hp)
        go_wp2_with fail
        go_roundw
        case rel => exact ⟨k + 1, by omega, by go_num, HO.out, b3⟩
        case measure => simp [intOf]; omega
    · obtain rfl : k = os.length := by omega
      have HE := Lib.hid (all_end HV.out)
      go_wp2_with fail
      go_ret
      exact ⟨ret_bool HE.out.symm, hbw⟩

set_option maxHeartbeats 1000000 in
theorem iCodeOk_any (B : Nat) (v : Value) (os : List Opv) (w : World) (h : SeeOp w B v os) (hB : B ≤ w.heap.size) (hS : shortOp os) (F : Forms w) : Calls Tryz.prog 44 #[v] w (BoolLt w (codeB os)) := by
  have hm := h.len
  unfold maxLen at hm
  obtain ⟨A, c, rfl⟩ := h.shape
  by_cases hl : os.length ≤ 300
  · have HE : Hid (codeB os = os.all opB) := Lib.hid (by unfold codeB; rw [decide_eq_true hl, Bool.true_and])
    have hl2 : (os.length : Int) ≤ 300 := by omega
    have HC := Lib.hid (fun W q r => each_OpOk B (.slice A os.length c) os W q r hS)
    have HF := Lib.hid F
    clear F
    go_enter Tryz.func44, Tryz.ntmps44
    go_wp2_with fail
    refine (HC.out _ h hB HF.out).mono ?_
    rintro e w' ⟨rfl, b1⟩
    go_wp2_with fail
    go_ret
    exact ⟨ret_bool HE.out.symm, b1⟩
  · have HE : Hid (codeB os = false) := Lib.hid (by unfold codeB; rw [decide_eq_false hl, Bool.false_and])
    have hl2 : ¬ (os.length : Int) ≤ 300 := by omega
    clear F
    go_enter Tryz.func44, Tryz.ntmps44
    go_wp2_with fail
    go_ret
    exact ⟨ret_bool (by rw [HE.out]), Below.refl _ _⟩

/-- The same of boxes. -/
def CloneBxOut (w : World) (bs : List Bx) (e : Ending) (w' : World) : Prop := ∃ v, e = .returned v ∧ OwnBx w' w.heap.size 92 v bs ∧ nilOk v ∧ Below w.heap.size w w'
set_option maxHeartbeats 2000000 in
set_option maxRecDepth 100000 in
theorem cloneBx_any (B : Nat) (v : Value) (bs : List Bx) (w : World) (s : SeeBx w B v bs) (hB : B ≤ w.heap.size) (hn : nilOk v) (hl : bs.length ≤ 1048576) : Calls Tryz.prog 94 #[v] w (CloneBxOut w bs) := by
  obtain ⟨i0, hi, hz0, hz1, hz2⟩ := info_parts Tryz.infoBox
  have oE : OwnBx (w.alloc (.cells #[] 92)) w.heap.size 92 (.slice (some ⟨w.heap.size, 0, none⟩) 0 0) [] := OwnN.empty 2 w w.heap.size _ (Nat.le_refl _)
  have bE := below_new w (.cells #[] 92)
  have sE := s.below (bE.mono hB)
  have q22 : ∀ (w : World) (a : Option Addr) (n c n' c' : Nat), (binOp .eql 25 (.slice a n c) (.slice none n' c')).run Tryz.prog w = .ok (.bool a.isNone) w := fun w a n c n' c' => Lib.run_eql_slice_nil w _ _ a n c n' c' Tryz.underlying25
  obtain ⟨A, c, rfl⟩ := s.shape
  cases A with
  | none =>
    obtain rfl : c = 0 := hn
    have hz := seeBx_none s
    subst hz
    go_enter Tryz.func94, Tryz.ntmps94
    go_wp2_with fail
    go_ret
    exact ⟨_, rfl, OwnN.nil _ _ _ _, rfl, Below.refl _ _⟩
  | some ad =>
    go_enter Tryz.func94, Tryz.ntmps94
    go_wp2_with (at_builtin; refine wpList_append_see _ rfl _ _ 25 rfl w.heap.size 92 i0 (.agg #[.string ⟨#[]⟩, .int .i64 0]) 2 24 Tryz.underlying25 hi hz0 hz1 hz2 rfl (by decide) _ _ _ rfl oE.row0 (some ad) bs.length c (bs.map boxV).flatten rfl (fun e => by cases e) (bx_len9 bs) (fun ad e => by cases e; exact bx_news9 sE) (bx_one9 bs) (by show 0 + bs.length ≤ maxLen; unfold maxLen; omega) (by show (0 + bs.length) * 24 ≤ _; omega) bE.size (by intro q; cases q) ?_; intro v2 w2 hown2 hgr2 hnn2)
    have b2 : Below w.heap.size w w2 := bE.grown hgr2 bE.size (fun j hj => by cases hj; exact Nat.le_refl _)
    obtain ⟨g, c2, rfl⟩ := own_base hown2 hnn2
    simp only [List.map_nil, List.flatten_nil, List.nil_append, List.length_nil, Nat.zero_add] at hown2
    go_wp2
    go_ret
    exact ⟨.slice (some ⟨g, 0, none⟩) bs.length c2, by simp, .of_row0 hown2, trivial, b2⟩

end Go.Proofs.YtigcbegeaikfcaaGreatDoor
