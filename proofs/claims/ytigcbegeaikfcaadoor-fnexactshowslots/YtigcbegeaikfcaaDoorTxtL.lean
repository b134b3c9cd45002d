/- The walk of the law FnExactShowSlots; what the listed table of tens holds. -/
import Derived.Test.YtigcbegeaikfcaaDoorTxtP
import Derived.Test.YtigcbegeaikfcaaDoorOpenH
import Derived.Test.YtigcbegeaikfcaaDoorWordV
import Derived.LaidMore
import Derived.Lay
import Derived.MakeChecks
namespace Go.Proofs.YtigcbegeaikfcaaDoor
open Go.RowKit
set_option linter.unusedVariables false

theorem gTabT : Tryd.prog.globalNamed "internal/strconv.uint64pow10" = some 1 := by kernel_rfl
theorem tab_of {w : World} (h : laidMetH Tryd.prog [("math/bits.deBruijn32tab", Rows.laid_math_bits_deBruijn32tab), ("math/bits.deBruijn64tab", Rows.laid_math_bits_deBruijn64tab), ("internal/strconv.uint64pow10", Rows.laid_internal_strconv_uint64pow10)] w) : TabT w := by
  rw [MakeChecks.laidMetH_plain _ _ _ (by kernel_rfl)] at h
  have e : (Rows.laid_internal_strconv_uint64pow10 : DataW Unit) = Lib.tabData .u64 Lib.pow10Tab := by kernel_rfl
  have h1 := h.tail.tail
  rw [e] at h1
  exact Lib.tabIs_of_head gTabT (t := 112) (e := 95) (n := 20) (by kernel_rfl) Tryd.underlying112 Tryd.underlying95 (by kernel_rfl) (by kernel_rfl) h1

set_option maxHeartbeats 4000000 in
theorem showSlots_law (v : Value) (ss : List (List Int)) (w : World) (T : TabT w) (h : SeeSS w w.heap.size v ss) :
    Calls Tryd.prog 4 #[v] w fun e w' => e = .returned (.bool true) ∧ Below w.heap.size w w' := by
  have HF := szL_fits (ls := lensSS ss) (left := 1048576) (by decide)
  have HS := Lib.hid (szSlots_any w.heap.size v ss 1048576 (by decide) (by decide) w h)
  have HT := Lib.hid T
  clear T
  obtain ⟨A, c, rfl⟩ := h.shape
  generalize hz : szL 1048576 (lensSS ss) = z at *
  go_enter Tryd.func4, Tryd.ntmps4
  go_wp2_with fail
  refine HS.out.mono ?_
  clear HS
  rintro e w1 ⟨rfl, rfl⟩
  clear hz
  rcases HF with rfl | ⟨h0, -, h1, h2⟩
  · go_wp2_with fail
    go_ret
    exact ⟨rfl, Below.refl _ _⟩
  have hn : ss.length ≤ 1048576 := by simp [lensSS] at h1; omega
  have he : ∀ s ∈ ss, s.length ≤ 1048576 := fun s hs => by have := h2 s.length (List.mem_map.2 ⟨s, hs, rfl⟩); omega
  have hz0 : ¬ z < 0 := by omega
  clear h1 h2
  have HTS := Lib.hid (fun (W : World) (b : Below w.heap.size w W) => toSlots_any w.heap.size (.slice A ss.length c) ss hn he W (h.below b) b.size)
  obtain ⟨R, hR⟩ : ∃ R, showSlotsS ss = R := ⟨_, rfl⟩
  go_wp2_with fail
  refine (HTS.out w (Below.refl _ _)).mono ?_
  rintro e w2 ⟨v2, l2, rfl, o2, b2⟩
  have HS2 := Lib.hid (sShowSlots_any w2.heap.size v2 ss w2 o2.see (Nat.le_refl _))
  rw [hR] at HS2
  obtain ⟨A2, c2, rfl⟩ := o2.see.shape
  clear o2 hz0
  go_wp2_with fail
  refine HS2.out.mono ?_
  rintro e w3 ⟨rfl, b3⟩
  replace b3 := below_then b2 b3 (Nat.le_refl _)
  clear HS2 b2
  go_wp2_with fail
  refine (HTS.out w3 b3).mono ?_
  rintro e w4 ⟨v4, l4, rfl, o4, b4⟩
  replace b4 := below_then b3 b4 (Nat.le_refl _)
  have HI2 := Lib.hid (iShowSlots_any w4.heap.size v4 ss w4 o4.see (Nat.le_refl _) (HT.out.below b4))
  rw [hR] at HI2
  obtain ⟨A4, c4, rfl⟩ := o4.see.shape
  clear b3 hR
  go_wp2_with fail
  refine HI2.out.mono ?_
  rintro e w5 ⟨rfl, b5⟩
  have k5 := below_then b4 b5 (Nat.le_refl _)
  have s5 := (o4.see.below b5).more b5.size
  clear HI2 b4 o4 b5
  go_wp2_with fail
  refine (HTS.out w5 k5).mono ?_
  rintro e w6 ⟨v6, l6, rfl, o6, b6⟩
  have k6 := below_then k5 b6 (Nat.le_refl _)
  have s6 := (s5.below b6).more b6.size
  obtain ⟨A6, c6, rfl⟩ := o6.see.shape
  clear k5 b6 s5
  go_wp2_with fail
  refine (eqSlots_same w6.heap.size _ _ ss _ s6 o6.see).mono ?_
  rintro e w7 ⟨rfl, n, rfl⟩
  go_wp2_with fail
  go_ret
  exact ⟨rfl, below_drewN k6 n⟩

end Go.Proofs.YtigcbegeaikfcaaDoor
