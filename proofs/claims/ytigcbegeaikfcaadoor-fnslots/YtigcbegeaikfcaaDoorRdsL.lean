/- Layer 10 (feeds): the walk of FnExactReadSlots. Conditions: the listed variables hold what the program's text lays (Vars); internal/bytealg.MaxLen is a number (MaxL). -/
import Derived.Test.YtigcbegeaikfcaaDoorRdsS
namespace Go.Proofs.YtigcbegeaikfcaaDoor
open Go.RowKit
set_option linter.unusedVariables false

theorem nSS_forty {ss : List (List Int)} (h : slotsB ss = true) : nSS ss ≤ 160 := by
  simp only [slotsB, Bool.and_eq_true, decide_eq_true_eq, List.all_eq_true, slotB] at h
  have h4 := h.1.2
  have hw := h.2
  have key : ∀ (l : List (List Int)) (a : Nat), (∀ s ∈ l, s.length ≤ 40) → (l.map List.length).foldl (· + ·) a ≤ a + l.length * 40 := by
    intro l
    induction l with
    | nil => intro a _; simp
    | cons x r ih =>
      intro a hx
      have h1 := hx x (by simp)
      have h2 := ih (a + x.length) (fun s hs => hx s (by simp [hs]))
      simp only [List.map_cons, List.foldl_cons, List.length_cons]
      omega
  have := key ss 0 (fun s hs => (hw s hs).1)
  unfold nSS
  omega
theorem rd_forty (t : List UInt8) : nSS ((rdSlotsM t).getD []) ≤ 160 := by
  unfold rdSlotsM
  cases h : mapO rdSlotM (cutT 47 t) with
  | none => simp [nSS]
  | some ss =>
    by_cases hs : slotsB ss = true
    · simpa [Option.filter, hs] using nSS_forty hs
    · simp [Option.filter, hs, nSS]

def RdS2 (w : World) (ss : List (List Int)) (b : Bool) (e : Ending) (w' : World) : Prop := ∃ v us, e = .returned (.tuple #[v, .bool b]) ∧ OwnSS w' w.heap.size v us ss ∧ Below w.heap.size w w'

set_option maxHeartbeats 8000000 in
set_option maxRecDepth 100000 in
theorem readSlots_law (t : List UInt8) (hl : t.length ≤ 9223372036854775807) (w : World) (V : Vars w) (M : MaxL w) :
    Calls Tryd.prog 5 #[str t] w fun e w' => e = .returned (.bool true) ∧ Below w.heap.size w w' := by
  by_cases hbig : 1048576 < t.length
  · have h1 : (1048576 : Int) < t.length := by omega
    clear V M
    go_enter Tryd.func5, Tryd.ntmps5
    go_wp2_with fail
    go_ret
    exact ⟨rfl, Below.refl _ _⟩
  have h1 : ¬ (1048576 : Int) < t.length := by omega
  have HS : Hid (Calls Tryd.prog 11 #[str t] w (RdS2 w ((rdSlotsM t).getD []) (rdSlotsM t).isSome)) := Lib.hid (sReadSlots_any t (by omega) w)
  have HI : Hid (∀ W, Below w.heap.size w W → Calls Tryd.prog 10 #[str t] W (RdS2 W ((rdSlotsM t).getD []) (rdSlotsM t).isSome)) := Lib.hid (fun W b => iReadSlots_any t (by omega) W (V.below b) (M.below b))
  have HF := rd_forty t
  generalize (rdSlotsM t).getD [] = ss at *
  generalize (rdSlotsM t).isSome = b at *
  clear V M
  go_enter Tryd.func5, Tryd.ntmps5
  go_wp2_with fail
  clear h1
  refine HS.out.mono ?_
  clear HS
  rintro e w1 ⟨v0, l0, rfl, OW, b1⟩
  have HI1 := Lib.hid (HI.out w1 b1)
  go_wp2_with fail
  refine HI1.out.mono ?_
  clear HI1
  rintro e w2 ⟨v1, l1, rfl, OG, b2⟩
  have HW0 : Hid (∀ q, (v0.ownBlock = some q ∨ rowsSS l0 q) → w.heap.size ≤ q ∧ q < w1.heap.size) := Lib.hid fun q e => by
    rcases e with e | e
    · exact World.ownsRow.lt OW.row q e
    · exact OW.blocks q e
  replace OW := OW.later b2
  have bb := below_then b1 b2 (Nat.le_refl _)
  have gb : (b != b) = false := by simp
  obtain ⟨A, c, rfl⟩ := OG.see.shape
  obtain ⟨A0, c0, rfl⟩ := OW.see.shape
  clear b2
  go_wp2_with fail
  refine (eqSlots_same w2.heap.size _ _ ss _ OG.see OW.see).mono ?_
  rintro e w3 ⟨rfl, n3, hw3⟩
  have b3 : Below w2.heap.size w2 w3 := by rw [hw3]; exact below_drewN (Below.refl _ _) _
  replace OW := OW.later b3
  replace OG := OG.later b3
  replace bb := below_then bb b3 (Nat.le_refl _)
  clear b3 hw3
  go_wp2_with fail
  refine (markSS_any _ _ l1 ss 1 w3 OG (by omega)).mono ?_
  rintro e w4 ⟨rfl, OK, on4⟩
  have hG := OG.blocks
  have hb1 := b1.size
  replace OW := OW.keep on4 (fun q e f => by have := (hG q f).1; have := (HW0.out q (.inl e)).2; omega) (fun q e f => by have := (hG q f).1; have := (HW0.out q (.inr e)).2; omega)
  replace bb := bb.trans (on4.below bb.size (fun q e => by have := (hG q e).1; omega))
  have zk := OK.see
  clear OG on4 hG OK HW0
  obtain ⟨mz, HM⟩ : ∃ z : Int, Hid (((1 + nSS ss : Nat) : Int) = z) := ⟨_, Lib.hid rfl⟩
  have hmz : ¬ mz < 0 := by have := HM.out; omega
  have hmm : (mz != mz) = false := by simp
  have HHD := Lib.hid (fun (W' : World) (B : Nat) (h : SeeSS W' B (.slice A ss.length c) (mkSS 1 ss)) => heldSS_any B (.slice A ss.length c) ss 1 W' h (by omega))
  rw [HM.out] at HHD ⊢
  go_wp2_with fail
  refine (HHD.out w4 _ zk).mono ?_
  rintro e w' ⟨rfl, rfl⟩
  have HI2 := Lib.hid (HI.out w4 bb)
  go_wp2_with fail
  refine HI2.out.mono ?_
  clear HI2
  rintro e w5 ⟨v5, l5, rfl, O5, b5⟩
  replace OW := OW.later b5
  replace zk := (zk.below b5).more b5.size
  replace bb := below_then bb b5 (Nat.le_refl _)
  obtain ⟨A5, c5, rfl⟩ := O5.see.shape
  clear b5
  go_wp2_with fail
  refine (eqSlots_same w5.heap.size _ _ ss _ O5.see OW.see).mono ?_
  rintro e w6 ⟨rfl, n6, hw6⟩
  have b6 : Below w5.heap.size w5 w6 := by rw [hw6]; exact below_drewN (Below.refl _ _) _
  replace zk := (zk.below b6).more b6.size
  replace bb := below_then bb b6 (Nat.le_refl _)
  clear b6 hw6 O5
  go_wp2_with fail
  refine (HHD.out w6 _ zk).mono ?_
  rintro e w' ⟨rfl, rfl⟩
  go_wp2_with fail
  go_ret
  exact ⟨rfl, bb⟩

end Go.Proofs.YtigcbegeaikfcaaDoor
