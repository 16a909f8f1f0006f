/- Layer 22: what an instruction leaves as it was, carried out: part 2. -/
import Derived.Test.YtbpcidpladnhfaaDoorKa
import Derived.KernelRfl
namespace Go.Proofs.YtbpcidpladnhfaaDoor
open Go Go.Proofs Go.RowKit Go.CX Go.SX Go.CX.Cp
set_option maxRecDepth 100000
theorem keep_1 : keepR 1 = true := by kernel_rfl
theorem keep_7 : keepR 7 = true := by kernel_rfl
theorem keep_13 : keepR 13 = true := by kernel_rfl
theorem keep_19 : keepR 19 = true := by kernel_rfl
theorem keep_25 : keepR 25 = true := by kernel_rfl
theorem keep_31 : keepR 31 = true := by kernel_rfl
theorem keep_37 : keepR 37 = true := by kernel_rfl
theorem keep_43 : keepR 43 = true := by kernel_rfl
end Go.Proofs.YtbpcidpladnhfaaDoor
