/- Layer 22: what an instruction leaves as it was, carried out: part 4. -/
import Derived.Test.YtbpcidpladnhfaaDoorKa
import Derived.KernelRfl
namespace Go.Proofs.YtbpcidpladnhfaaDoor
open Go Go.Proofs Go.RowKit Go.CX Go.SX Go.CX.Cp
set_option maxRecDepth 100000
theorem keep_3 : keepR 3 = true := by kernel_rfl
theorem keep_9 : keepR 9 = true := by kernel_rfl
theorem keep_15 : keepR 15 = true := by kernel_rfl
theorem keep_21 : keepR 21 = true := by kernel_rfl
theorem keep_27 : keepR 27 = true := by kernel_rfl
theorem keep_33 : keepR 33 = true := by kernel_rfl
theorem keep_39 : keepR 39 = true := by kernel_rfl
theorem keep_45 : keepR 45 = true := by kernel_rfl
end Go.Proofs.YtbpcidpladnhfaaDoor
