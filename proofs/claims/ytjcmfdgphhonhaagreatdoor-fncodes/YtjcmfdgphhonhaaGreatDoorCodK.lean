/- Layer 8 (steps): the model's CodeOf. No conditions but those typed. -/
import Derived.Test.YtjcmfdgphhonhaaGreatDoorCodS
import Derived.Test.YtjcmfdgphhonhaaGreatDoorCodP
namespace Go.Proofs.YtjcmfdgphhonhaaGreatDoor
open Go.RowKit
set_option linter.unusedVariables false

/-- Where CodeOf is. -/
def CoAt (ss : List Txt) (all : List Opv) (w : World) (o i : Value) (wr : World) : Prop :=
  ∃ p g' c', ∃ ys rest : List Opv, o = .slice (some ⟨g', 0, none⟩) ys.length c' ∧ i = .int .i64 ((p : Nat) : Int) ∧ OwnOp wr w.heap.size 30 (.slice (some ⟨g', 0, none⟩) ys.length c') ys ∧ Below w.heap.size w wr ∧ Turn ss p ss.length ys.length rest ∧ Hid (ys ++ rest = all) ∧ ys.length ≤ p

set_option maxRecDepth 100000 in
set_option maxHeartbeats 4000000 in
theorem sCodeOf_any (B : Nat) (v : Value) (ss : List Txt) (w : World) (h : SeeV w B v (ss.map str)) (hB : B ≤ w.heap.size) (hS : shortS ss) (hn : ss.length ≤ 1048576) :
    Calls Tryz.prog 13 #[v] w (OpsOut w.heap.size (codeP ss) w) := by
  obtain ⟨A, cv, e⟩ := strs_shape h
  subst e
  obtain ⟨i0, hi, hz0, hz1, hz2⟩ := info_parts Tryz.infoOp
  have oE := OwnOp.empty w 30
  have bE : Below w.heap.size w (w.alloc (.cells #[] 30)) := (Below.refl _ w).alloc (Nat.le_refl _) _
  cases hp : playB ss with
  | false =>
    have HP := Lib.hid hp
    rw [code_no hp]
    clear hp
    go_enter Tryz.func13, Tryz.ntmps13
    go_wp2_with fail
    refine (sPlayOk_any B _ ss _ (h.below (bE.mono hB)) (by simp; omega) hS hn).mono ?_
    rintro e w1 ⟨rfl, b1⟩
    rw [HP.out]
    go_wp2_with fail
    go_ret
    exact ⟨_, _, rfl, oE.later b1, below_then bE b1 (Nat.le_refl _)⟩
  | true =>
    have HP := Lib.hid hp
    obtain ⟨hT, hC, hl⟩ := code_yes hp
    rw [hC]
    have hh := end_head ss
    have hle := hT.len
    have HT := Lib.hid hT
    clear hp hT hC
    generalize turnOf ss = cs at HT hle ⊢
    obtain ⟨R, HR⟩ : ∃ R, Hid (R = cs ++ [((10 : Int), (0 : Int), ([] : Txt))]) := ⟨_, Lib.hid rfl⟩
    rw [← HR.out]
    go_enter Tryz.func13, Tryz.ntmps13
    go_wp2_with fail
    refine (sPlayOk_any B _ ss _ (h.below (bE.mono hB)) (by simp; omega) hS hn).mono ?_
    rintro e w1 ⟨rfl, b1⟩
    rw [HP.out]
    have o1 := oE.later b1
    have B1 := Lib.hid (below_then bE b1 (Nat.le_refl _))
    clear oE bE b1
    go_wp2_with fail
    go_loopw [3, 4] (CoAt ss cs w) (fun _ i _ => ss.length - (intOf i).toNat)
    case atStart => exact ⟨0, _, _, [], cs, rfl, rfl, o1, B1.out, HT.out, Lib.hid rfl, Nat.le_refl _⟩
    case round =>
      clear o1
      obtain ⟨p, g', c', ys, rest, rfl, rfl, ho, hbw, hT, hH, hyp⟩ := hrel
      have hsz := hbw.size
      have hpm := turn_end hT hh
      by_cases hpe : p = ss.length
      · have hr := hpm.2 hpe
        have HH : Hid (ys = cs) := Lib.hid (by have := hH.out; rwa [hr, List.append_nil] at this)
        have hlt : ¬ (p : Int) < ss.length := by omega
        clear hT hH hpe
        obtain ⟨B, hBB⟩ : ∃ B, B = w.heap.size := ⟨_, rfl⟩
        rw [← hBB] at ho hsz hbw
        go_wp2_with first
          | (at_builtin; refine wpList_append_own _ rfl _ _ 26 rfl B 30 i0 (.agg #[.int .i64 0, .int .i64 0, .string ⟨#[]⟩]) 3 32 Tryz.underlying26 hi hz0 hz1 hz2 rfl (by decide) _ _ _ rfl (OwnOp.alloc ho _).row ⟨wr.heap.size, 0, none⟩ 1 1 (opV (10, 0, [])) rfl rfl (op_new _ _ _ _ _) (op_one (10, 0, [])) (by unfold maxLen; omega) (by omega) (by simp; omega) ?_; intro v9 w9 hown9 hgr9 hnil9; obtain ⟨g2, c2, rfl, o2, b2⟩ := op_more (OwnOp.alloc ho _) hown9 hgr9 (by simp; omega); clear hown9 hgr9 hnil9)
        go_ret
        rw [HR.out, ← HH.out, ← hBB]
        have b3 := (hbw.alloc hsz (.cells #[.int .i64 10, .int .i64 0, str []] 30)).trans b2
        exact ⟨g2, c2, by simp, o2, by rw [hBB] at b3; exact b3⟩
      · rcases hT.inv with ⟨q, _⟩ | ⟨p1, ds, bs, h1, h2, rfl⟩
        · exact absurd q hpe
        have hlt := h1.lt
        have hp1 := turn_end h2 hh
        have hpl : p < ss.length := by omega
        have HD := Lib.hid (deed_good ss hS hn (p1 - p) p p1 w.heap.size g' c' _ ys ds wr (by omega) h1 ((h.below (hbw.mono hB)).more hB) ho (by omega) hyp)
        have H2 := Lib.hid h2
        have hl1 := hlt.1
        clear hT h1 h2 ho
        go_wp2_with fail
        refine HD.out.mono ?_
        rintro e w2 ⟨g2, c2, rfl, o2, b2⟩
        generalize hyz : ys ++ ds = zs at o2
        have HZ := Lib.hid hyz
        have hzl : zs.length = ys.length + ds.length := by rw [← hyz]; simp
        have HZL := Lib.hid hzl
        have hz1 : zs.length ≤ p1 := by omega
        clear hyz hzl
        go_wp2_with fail
        go_roundw
        case rel => exact ⟨p1, g2, c2, zs, bs, rfl, rfl, o2, hbw.trans b2, by rw [HZL.out]; exact H2.out, Lib.hid (by rw [← HZ.out, List.append_assoc]; exact hH.out), hz1⟩
        case measure => simp [intOf]; omega

end Go.Proofs.YtjcmfdgphhonhaaGreatDoor
