/- Layer 22: what an instruction that may not be leaves as it was, carried out. -/
import Derived.Test.YtbpcidpladnhfaaDoorKb6
import Derived.KernelRfl
namespace Go.Proofs.YtbpcidpladnhfaaDoor
open Go Go.Proofs Go.RowKit Go.CX Go.SX Go.CX.Cp
set_option maxRecDepth 100000
theorem nok_lt_true : nokR esKA [lt34, de43 true] = true := by kernel_rfl
theorem nok_gt_true : nokR esKA [gt38, de43 true] = true := by kernel_rfl
theorem nok_lt_false : nokR esKA [lt34, de43 false] = true := by kernel_rfl
theorem nok_gt_false : nokR esKA [gt38, de43 false] = true := by kernel_rfl
end Go.Proofs.YtbpcidpladnhfaaDoor
