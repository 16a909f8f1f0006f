/- Layer 20: instructions of a kind, carried out: part 3. -/
import Derived.Test.YtbpcidpladnhfaaDoorQl
import Derived.KernelRfl
namespace Go.Proofs.YtbpcidpladnhfaaDoor
open Go Go.Proofs Go.RowKit Go.CX Go.SX
set_option maxRecDepth 100000
theorem inst_3_8 : instG 3 8 = true := by kernel_rfl
theorem inst_11_8 : instG 11 8 = true := by kernel_rfl
theorem inst_19_8 : instG 19 8 = true := by kernel_rfl
theorem inst_27_8 : instG 27 8 = true := by kernel_rfl
theorem inst_33_4 : instG 33 4 = true := by kernel_rfl
theorem inst_35_4 : instG 35 4 = true := by kernel_rfl
theorem inst_37_4 : instG 37 4 = true := by kernel_rfl
theorem inst_39_11 : instG 39 11 = true := by kernel_rfl
theorem inst_47_8 : instG 47 8 = true := by kernel_rfl
end Go.Proofs.YtbpcidpladnhfaaDoor
