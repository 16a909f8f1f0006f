/- Layer 20: instructions of a kind, carried out: part 5. -/
import Derived.Test.YtbpcidpladnhfaaDoorQl
import Derived.KernelRfl
namespace Go.Proofs.YtbpcidpladnhfaaDoor
open Go Go.Proofs Go.RowKit Go.CX Go.SX
set_option maxRecDepth 100000
theorem inst_5_8 : instG 5 8 = true := by kernel_rfl
theorem inst_13_8 : instG 13 8 = true := by kernel_rfl
theorem inst_21_8 : instG 21 8 = true := by kernel_rfl
theorem inst_29_8 : instG 29 8 = true := by kernel_rfl
theorem inst_34_1 : instG 34 1 = true := by kernel_rfl
theorem inst_36_1 : instG 36 1 = true := by kernel_rfl
theorem inst_38_1 : instG 38 1 = true := by kernel_rfl
theorem inst_41_8 : instG 41 8 = true := by kernel_rfl
end Go.Proofs.YtbpcidpladnhfaaDoor
