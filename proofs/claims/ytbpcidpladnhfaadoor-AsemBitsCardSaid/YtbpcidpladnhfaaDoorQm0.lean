/- Layer 20: instructions of a kind, carried out: part 1. -/
import Derived.Test.YtbpcidpladnhfaaDoorQl
import Derived.KernelRfl
namespace Go.Proofs.YtbpcidpladnhfaaDoor
open Go Go.Proofs Go.RowKit Go.CX Go.SX
set_option maxRecDepth 100000
theorem inst_1_8 : instG 1 8 = true := by kernel_rfl
theorem inst_9_8 : instG 9 8 = true := by kernel_rfl
theorem inst_17_8 : instG 17 8 = true := by kernel_rfl
theorem inst_25_8 : instG 25 8 = true := by kernel_rfl
theorem inst_33_1 : instG 33 1 = true := by kernel_rfl
theorem inst_35_1 : instG 35 1 = true := by kernel_rfl
theorem inst_37_1 : instG 37 1 = true := by kernel_rfl
theorem inst_39_9 : instG 39 9 = true := by kernel_rfl
theorem inst_45_8 : instG 45 8 = true := by kernel_rfl
end Go.Proofs.YtbpcidpladnhfaaDoor
