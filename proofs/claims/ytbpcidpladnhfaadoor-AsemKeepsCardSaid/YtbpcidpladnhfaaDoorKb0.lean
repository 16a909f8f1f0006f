/- Layer 22: what an instruction leaves as it was, carried out: part 1. -/
import Derived.Test.YtbpcidpladnhfaaDoorKa
import Derived.KernelRfl
namespace Go.Proofs.YtbpcidpladnhfaaDoor
open Go Go.Proofs Go.RowKit Go.CX Go.SX Go.CX.Cp
set_option maxRecDepth 100000
theorem keep_6 : keepR 6 = true := by kernel_rfl
theorem keep_12 : keepR 12 = true := by kernel_rfl
theorem keep_18 : keepR 18 = true := by kernel_rfl
theorem keep_24 : keepR 24 = true := by kernel_rfl
theorem keep_30 : keepR 30 = true := by kernel_rfl
theorem keep_36 : keepR 36 = true := by kernel_rfl
theorem keep_42 : keepR 42 = true := by kernel_rfl
end Go.Proofs.YtbpcidpladnhfaaDoor
