/- Layer 10 (feeds): the draws of slots and of texts of slots. No conditions but those typed. -/
import Derived.Test.YtigcbegeaikfcaaDoorPlyP
import Derived.Test.YtigcbegeaikfcaaDoorBendB
import Derived.Test.YtigcbegeaikfcaaDoorTxtS
namespace Go.Proofs.YtigcbegeaikfcaaDoor
open Go.RowKit
set_option linter.unusedVariables false

def SlotsDrawn (w : World) (e : Ending) (w' : World) : Prop := ∃ (r c : Nat) (ss : List (List Int)), e = .returned (.slice (some ⟨r, 0, none⟩) ss.length c) ∧ SeeSS w' w'.heap.size (.slice (some ⟨r, 0, none⟩) ss.length c) ss ∧ ss.length ≤ 8 ∧ (∀ s ∈ ss, s.length ≤ 41) ∧ Below w.heap.size w w'
def TextDrawnS (w : World) (e : Ending) (w' : World) : Prop := ∃ t : List UInt8, e = .returned (str t) ∧ t.length ≤ 4000 ∧ Below w.heap.size w w'
theorem over_g {w w1 w2 : World} {g : Nat} (hb : Below g w w1) (hg : w1.grownBy w2 (some g)) (h : g ≤ w1.heap.size) : Below g w w2 :=
  ⟨hg.os.trans hb.os, hg.tape.trans hb.tape, hg.output.trans hb.output, Nat.le_trans hb.size hg.size, fun i hi => (hg.block i (by omega) (fun e => by injection e; omega)).trans (hb.block i hi)⟩

theorem show_short (ss : List (List Int)) : (showSlotsS ss).length ≤ 3524 := by
  unfold showSlotsS
  by_cases h : slotsB ss = true
  · rw [if_pos h]; exact showAll_len h
  · rw [if_neg h]; simp

set_option maxHeartbeats 1000000 in
theorem drawShowSlots_any (A : Option Addr) (n c : Nat) (hn : n ≤ 4096) (w : World) (hs : SeeB w w.heap.size A n) : Calls Tryd.prog 7 #[.slice A n c] w (SlotsDrawn w) := by
  go_enter Tryd.func7, Tryd.ntmps7
  go_wp2_with fail
  refine (l1New_any A n c hn _ hs).mono ?_
  rintro e w1 ⟨rfl, k1, b1⟩
  have g1 := k1.lt
  generalize hg : w.heap.size = g at *
  have HG := Lib.hid hg
  clear hg
  go_wp2_with fail
  refine (l9DrawAnySlots_any g _ k1).mono ?_
  rintro e w2 ⟨r, c2, ss, rfl, sr, h1, h8, h41, k2, q2⟩
  have B2 := over_g b1 q2 (by omega)
  go_wp2_with fail
  go_ret
  exact ⟨r, c2, ss, rfl, sr.see, h8, h41, by rw [HG.out]; exact B2⟩

set_option maxHeartbeats 1000000 in
theorem drawReadSlots_any (A : Option Addr) (n c : Nat) (hn : n ≤ 4096) (w : World) (hs : SeeB w w.heap.size A n) : Calls Tryd.prog 9 #[.slice A n c] w (TextDrawnS w) := by
  go_enter Tryd.func9, Tryd.ntmps9
  go_wp2_with fail
  refine (l1New_any A n c hn _ hs).mono ?_
  rintro e w1 ⟨rfl, k1, b1⟩
  have g1 := k1.lt
  generalize hg : w.heap.size = g at *
  have HG := Lib.hid hg
  clear hg
  go_wp2_with fail
  refine (l9DrawAnySlots_any g _ k1).mono ?_
  rintro e w2 ⟨r, c2, ss, rfl, sr, h1, h8, h41, k2, q2⟩
  have B2 := over_g b1 q2 (by omega)
  have HL := Lib.hid (show_short ss)
  have HS := Lib.hid (sShowSlots_any w2.heap.size _ ss w2 sr.see (Nat.le_refl _))
  generalize showSlotsS ss = t at *
  clear k1 b1 sr h1 h8 h41 q2
  go_wp2_with fail
  refine HS.out.mono ?_
  clear HS
  rintro e w3 ⟨rfl, b3⟩
  have k3 := k2.later b3
  have hlt := HL.out
  have g2 := k2.lt
  replace B2 := B2.trans (b3.mono (Nat.le_of_lt g2))
  clear k2 b3
  go_wp2_with fail
  refine (l1Once_any g _ (by decide) (by decide) _ k3).mono ?_
  rintro e w4 ⟨o, rfl, k4, q4⟩
  have g3 := k3.lt
  have B4 := over_g B2 q4 (by omega)
  clear B2 k3 q4
  cases o with
  | false =>
    go_wp2_with fail
    go_ret
    exact ⟨t, rfl, by omega, by rw [HG.out]; exact B4⟩
  | true =>
    go_wp2_with fail
    refine (l1Bend_any g t [48, 45, 47, 32, 53] (by omega) (by decide) (by decide) _ k4).mono ?_
    rintro e w5 ⟨u, rfl, hul, k5, q5⟩
    have g4 := k4.lt
    have B5 := over_g B4 q5 (by omega)
    go_wp2_with fail
    go_ret
    exact ⟨u, rfl, by omega, by rw [HG.out]; exact B5⟩

end Go.Proofs.YtigcbegeaikfcaaDoor
