/- Layer 22: what an instruction leaves as it was, carried out: part 3. -/
import Derived.Test.YtbpcidpladnhfaaDoorKa
import Derived.KernelRfl
namespace Go.Proofs.YtbpcidpladnhfaaDoor
open Go Go.Proofs Go.RowKit Go.CX Go.SX Go.CX.Cp
set_option maxRecDepth 100000
theorem keep_2 : keepR 2 = true := by kernel_rfl
theorem keep_8 : keepR 8 = true := by kernel_rfl
theorem keep_14 : keepR 14 = true := by kernel_rfl
theorem keep_20 : keepR 20 = true := by kernel_rfl
theorem keep_26 : keepR 26 = true := by kernel_rfl
theorem keep_32 : keepR 32 = true := by kernel_rfl
theorem keep_38 : keepR 38 = true := by kernel_rfl
theorem keep_44 : keepR 44 = true := by kernel_rfl
end Go.Proofs.YtbpcidpladnhfaaDoor
