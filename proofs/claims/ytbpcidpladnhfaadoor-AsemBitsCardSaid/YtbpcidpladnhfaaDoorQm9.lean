/- Layer 20: instructions that may never be, carried out. -/
import Derived.Test.YtbpcidpladnhfaaDoorQl
import Derived.KernelRfl
namespace Go.Proofs.YtbpcidpladnhfaaDoor
open Go Go.Proofs Go.RowKit Go.CX Go.SX
set_option maxRecDepth 100000
theorem no_2 : noG (esV 2) (notWs 2) = true := by kernel_rfl
theorem no_4 : noG (esV 4) (notWs 4) = true := by kernel_rfl
theorem no_6 : noG (esV 6) (notWs 6) = true := by kernel_rfl
theorem no_8 : noG (esV 8) (notWs 8) = true := by kernel_rfl
theorem no_10 : noG (esV 10) (notWs 10) = true := by kernel_rfl
theorem no_12 : noG (esV 12) (notWs 12) = true := by kernel_rfl
theorem no_14 : noG (esV 14) (notWs 14) = true := by kernel_rfl
theorem no_16 : noG (esV 16) (notWs 16) = true := by kernel_rfl
theorem no_18 : noG (esV 18) (notWs 18) = true := by kernel_rfl
theorem no_20 : noG (esV 20) (notWs 20) = true := by kernel_rfl
theorem no_22 : noG (esV 22) (notWs 22) = true := by kernel_rfl
theorem no_24 : noG (esV 24) (notWs 24) = true := by kernel_rfl
theorem no_26 : noG (esV 26) (notWs 26) = true := by kernel_rfl
theorem no_28 : noG (esV 28) (notWs 28) = true := by kernel_rfl
theorem no_30 : noG (esV 30) (notWs 30) = true := by kernel_rfl
theorem no_32 : noG (esV 32) (notWs 32) = true := by kernel_rfl
theorem no_34 : noG (esV 34) (notWs 34) = true := by kernel_rfl
theorem no_36 : noG (esV 36) (notWs 36) = true := by kernel_rfl
theorem no_38 : noG (esV 38) (notWs 38) = true := by kernel_rfl
theorem no_40 : noG (esV 40) (notWs 40) = true := by kernel_rfl
theorem no_42 : noG (esV 42) (notWs 42) = true := by kernel_rfl
theorem no_44 : noG (esV 44) (notWs 44) = true := by kernel_rfl
theorem no_46 : noG (esV 46) (notWs 46) = true := by kernel_rfl
theorem no_39l : noG (esW 39 8) [immLt 9] = true := by kernel_rfl
theorem no_39g : noG (esW 39 8) [immGt 11] = true := by kernel_rfl
end Go.Proofs.YtbpcidpladnhfaaDoor
