/- Layer 20: instructions of a kind, carried out: part 8. -/
import Derived.Test.YtbpcidpladnhfaaDoorQl
import Derived.KernelRfl
namespace Go.Proofs.YtbpcidpladnhfaaDoor
open Go Go.Proofs Go.RowKit Go.CX Go.SX
set_option maxRecDepth 100000
theorem inst_8_8 : instG 8 8 = true := by kernel_rfl
theorem inst_16_8 : instG 16 8 = true := by kernel_rfl
theorem inst_24_8 : instG 24 8 = true := by kernel_rfl
theorem inst_32_8 : instG 32 8 = true := by kernel_rfl
theorem inst_34_8 : instG 34 8 = true := by kernel_rfl
theorem inst_36_8 : instG 36 8 = true := by kernel_rfl
theorem inst_38_8 : instG 38 8 = true := by kernel_rfl
theorem inst_44_8 : instG 44 8 = true := by kernel_rfl
end Go.Proofs.YtbpcidpladnhfaaDoor
