/- Layer 20: instructions of a kind, carried out: part 2. -/
import Derived.Test.YtbpcidpladnhfaaDoorQl
import Derived.KernelRfl
namespace Go.Proofs.YtbpcidpladnhfaaDoor
open Go Go.Proofs Go.RowKit Go.CX Go.SX
set_option maxRecDepth 100000
theorem inst_2_8 : instG 2 8 = true := by kernel_rfl
theorem inst_10_8 : instG 10 8 = true := by kernel_rfl
theorem inst_18_8 : instG 18 8 = true := by kernel_rfl
theorem inst_26_8 : instG 26 8 = true := by kernel_rfl
theorem inst_33_2 : instG 33 2 = true := by kernel_rfl
theorem inst_35_2 : instG 35 2 = true := by kernel_rfl
theorem inst_37_2 : instG 37 2 = true := by kernel_rfl
theorem inst_39_10 : instG 39 10 = true := by kernel_rfl
theorem inst_46_8 : instG 46 8 = true := by kernel_rfl
end Go.Proofs.YtbpcidpladnhfaaDoor
