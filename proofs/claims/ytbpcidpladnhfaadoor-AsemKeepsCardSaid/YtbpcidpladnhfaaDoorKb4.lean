/- Layer 22: what an instruction leaves as it was, carried out: part 5. -/
import Derived.Test.YtbpcidpladnhfaaDoorKa
import Derived.KernelRfl
namespace Go.Proofs.YtbpcidpladnhfaaDoor
open Go Go.Proofs Go.RowKit Go.CX Go.SX Go.CX.Cp
set_option maxRecDepth 100000
theorem keep_4 : keepR 4 = true := by kernel_rfl
theorem keep_10 : keepR 10 = true := by kernel_rfl
theorem keep_16 : keepR 16 = true := by kernel_rfl
theorem keep_22 : keepR 22 = true := by kernel_rfl
theorem keep_28 : keepR 28 = true := by kernel_rfl
theorem keep_34 : keepR 34 = true := by kernel_rfl
theorem keep_40 : keepR 40 = true := by kernel_rfl
theorem keep_46 : keepR 46 = true := by kernel_rfl
end Go.Proofs.YtbpcidpladnhfaaDoor
