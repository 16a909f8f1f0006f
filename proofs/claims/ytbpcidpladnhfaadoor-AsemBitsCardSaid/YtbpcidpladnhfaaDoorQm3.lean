/- Layer 20: instructions of a kind, carried out: part 4. -/
import Derived.Test.YtbpcidpladnhfaaDoorQl
import Derived.KernelRfl
namespace Go.Proofs.YtbpcidpladnhfaaDoor
open Go Go.Proofs Go.RowKit Go.CX Go.SX
set_option maxRecDepth 100000
theorem inst_4_8 : instG 4 8 = true := by kernel_rfl
theorem inst_12_8 : instG 12 8 = true := by kernel_rfl
theorem inst_20_8 : instG 20 8 = true := by kernel_rfl
theorem inst_28_8 : instG 28 8 = true := by kernel_rfl
theorem inst_33_8 : instG 33 8 = true := by kernel_rfl
theorem inst_35_8 : instG 35 8 = true := by kernel_rfl
theorem inst_37_8 : instG 37 8 = true := by kernel_rfl
theorem inst_40_8 : instG 40 8 = true := by kernel_rfl
end Go.Proofs.YtbpcidpladnhfaaDoor
