/- Layer 20: instructions of a kind, carried out: part 6. -/
import Derived.Test.YtbpcidpladnhfaaDoorQl
import Derived.KernelRfl
namespace Go.Proofs.YtbpcidpladnhfaaDoor
open Go Go.Proofs Go.RowKit Go.CX Go.SX
set_option maxRecDepth 100000
theorem inst_6_8 : instG 6 8 = true := by kernel_rfl
theorem inst_14_8 : instG 14 8 = true := by kernel_rfl
theorem inst_22_8 : instG 22 8 = true := by kernel_rfl
theorem inst_30_8 : instG 30 8 = true := by kernel_rfl
theorem inst_34_2 : instG 34 2 = true := by kernel_rfl
theorem inst_36_2 : instG 36 2 = true := by kernel_rfl
theorem inst_38_2 : instG 38 2 = true := by kernel_rfl
theorem inst_42_8 : instG 42 8 = true := by kernel_rfl
end Go.Proofs.YtbpcidpladnhfaaDoor
