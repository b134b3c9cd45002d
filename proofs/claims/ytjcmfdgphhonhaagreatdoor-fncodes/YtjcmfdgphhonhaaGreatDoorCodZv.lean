/- What FnCodes' proof imports: its walk, and what the listed variables hold. -/
import Derived.Test.YtjcmfdgphhonhaaGreatDoorCodZ
import Derived.Test.YtjcmfdgphhonhaaGreatDoorWordV
import Derived.Test.YtjcmfdgphhonhaaGreatDoorFormV
namespace Go.Proofs.YtjcmfdgphhonhaaGreatDoor
open Go.RowKit
set_option linter.unusedVariables false

theorem vars_of6 {w : World} (h : laidMetH Tryz.prog [("math/bits.deBruijn32tab", Rows.laid_math_bits_deBruijn32tab), ("math/bits.deBruijn64tab", Rows.laid_math_bits_deBruijn64tab), ("internal/strconv.uint64pow10", Rows.laid_internal_strconv_uint64pow10), ("strconv.ErrRange", Rows.laid_strconv_ErrRange), ("strconv.ErrSyntax", Rows.laid_strconv_ErrSyntax), ("loop.example/g00533/impl.opForms", Rows.laid_loop_example_g00533_impl_opForms)] w) : Vars w ∧ Forms w := by
  rw [MakeChecks.laidMetH_plain _ _ _ (by kernel_rfl)] at h
  have e : (Rows.laid_internal_strconv_uint64pow10 : DataW Unit) = Lib.tabData .u64 Lib.pow10Tab := by kernel_rfl
  have h1 := h.tail.tail
  rw [e] at h1
  have ht := Lib.tabIs_of_head gTab (t := 231) (e := 207) (n := 20) (by kernel_rfl) Tryz.underlying231 Tryz.underlying207 (by kernel_rfl) (by kernel_rfl) h1
  obtain ⟨a0, s0, hv0, -, -, -⟩ := laid_sentinel h1.tail gER (ti := 150) (by kernel_rfl) Tryz.underlying150 rowES Tryz.underlying286 Tryz.underlying288 rfl rfl Tryz.underlying9 (by kernel_rfl) (by kernel_rfl)
  obtain ⟨a1, s1, hv1, -, -, -⟩ := laid_sentinel h1.tail.tail gES (ti := 150) (by kernel_rfl) Tryz.underlying150 rowES Tryz.underlying286 Tryz.underlying288 rfl rfl Tryz.underlying9 (by kernel_rfl) (by kernel_rfl)
  exact ⟨⟨ht, ⟨_, _, by have h0 := World.var?_cell gES hv1 0; simpa using h0⟩, _, _, by have h0 := World.var?_cell gER hv0 0; simpa using h0⟩, forms_of_head (rest := []) h1.tail.tail.tail⟩

theorem codes_law (A : Option Addr) (n c : Nat) (w : World) (hs : SeeB w w.heap.size A n) (H : Vars w ∧ Forms w) :
    Calls Tryz.prog 3 #[.slice A n c] w fun e w' => e = .returned (.bool true) ∧ Below w.heap.size w w' := codes_core A n c w hs H.1 H.2

end Go.Proofs.YtjcmfdgphhonhaaGreatDoor
