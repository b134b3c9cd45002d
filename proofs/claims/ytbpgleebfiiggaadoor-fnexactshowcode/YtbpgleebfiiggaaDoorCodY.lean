/- FnExactShowCode: what the listed variables hold. -/
import Derived.Test.YtbpgleebfiiggaaDoorCodX
import Derived.Test.YtbpgleebfiiggaaDoorOpenO
namespace Go.Proofs.YtbpgleebfiiggaaDoor
open Go.RowKit
set_option linter.unusedVariables false

theorem gTab8 : Tryd.prog.globalNamed "internal/strconv.uint64pow10" = some 1 := by kernel_rfl
theorem vars_of8 {w : World} (h : laidMetH Tryd.prog [("math/bits.deBruijn32tab", Rows.laid_math_bits_deBruijn32tab), ("math/bits.deBruijn64tab", Rows.laid_math_bits_deBruijn64tab), ("internal/strconv.uint64pow10", Rows.laid_internal_strconv_uint64pow10), ("loop.example/g00533/impl.opForms", Rows.laid_loop_example_g00533_impl_opForms)] w) : Forms w ∧ TabV w := by
  rw [MakeChecks.laidMetH_plain _ _ _ (by kernel_rfl)] at h
  have e : (Rows.laid_internal_strconv_uint64pow10 : DataW Unit) = Lib.tabData .u64 Lib.pow10Tab := by kernel_rfl
  have h1 := h.tail.tail
  rw [e] at h1
  have ht := Lib.tabIs_of_head gTab8 (t := 72) (e := 62) (n := 20) (by kernel_rfl) Tryd.underlying72 Tryd.underlying62 (by kernel_rfl) (by kernel_rfl) h1
  exact ⟨forms_of_head (rest := []) h1.tail, ht⟩

end Go.Proofs.YtbpgleebfiiggaaDoor
