/- Layer 22: what an instruction leaves as it was, carried out: part 6. -/
import Derived.Test.YtbpcidpladnhfaaDoorKa
import Derived.KernelRfl
namespace Go.Proofs.YtbpcidpladnhfaaDoor
open Go Go.Proofs Go.RowKit Go.CX Go.SX Go.CX.Cp
set_option maxRecDepth 100000
theorem keep_5 : keepR 5 = true := by kernel_rfl
theorem keep_11 : keepR 11 = true := by kernel_rfl
theorem keep_17 : keepR 17 = true := by kernel_rfl
theorem keep_23 : keepR 23 = true := by kernel_rfl
theorem keep_29 : keepR 29 = true := by kernel_rfl
theorem keep_35 : keepR 35 = true := by kernel_rfl
theorem keep_41 : keepR 41 = true := by kernel_rfl
theorem keep_47 : keepR 47 = true := by kernel_rfl
end Go.Proofs.YtbpcidpladnhfaaDoor
