/- Layer 20: instructions of a kind, carried out: part 7. -/
import Derived.Test.YtbpcidpladnhfaaDoorQl
import Derived.KernelRfl
namespace Go.Proofs.YtbpcidpladnhfaaDoor
open Go Go.Proofs Go.RowKit Go.CX Go.SX
set_option maxRecDepth 100000
theorem inst_7_8 : instG 7 8 = true := by kernel_rfl
theorem inst_15_8 : instG 15 8 = true := by kernel_rfl
theorem inst_23_8 : instG 23 8 = true := by kernel_rfl
theorem inst_31_8 : instG 31 8 = true := by kernel_rfl
theorem inst_34_4 : instG 34 4 = true := by kernel_rfl
theorem inst_36_4 : instG 36 4 = true := by kernel_rfl
theorem inst_38_4 : instG 38 4 = true := by kernel_rfl
theorem inst_43_8 : instG 43 8 = true := by kernel_rfl
end Go.Proofs.YtbpcidpladnhfaaDoor
