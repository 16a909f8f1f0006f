/- Layer 20: instructions that may never be, carried out. -/
import Derived.Test.YtbpcidpladnhfaaDoorQl
import Derived.KernelRfl
namespace Go.Proofs.YtbpcidpladnhfaaDoor
open Go Go.Proofs Go.RowKit Go.CX Go.SX
set_option maxRecDepth 100000
theorem no_1 : noG (esV 1) (notWs 1) = true := by kernel_rfl
theorem no_3 : noG (esV 3) (notWs 3) = true := by kernel_rfl
theorem no_5 : noG (esV 5) (notWs 5) = true := by kernel_rfl
theorem no_7 : noG (esV 7) (notWs 7) = true := by kernel_rfl
theorem no_9 : noG (esV 9) (notWs 9) = true := by kernel_rfl
theorem no_11 : noG (esV 11) (notWs 11) = true := by kernel_rfl
theorem no_13 : noG (esV 13) (notWs 13) = true := by kernel_rfl
theorem no_15 : noG (esV 15) (notWs 15) = true := by kernel_rfl
theorem no_17 : noG (esV 17) (notWs 17) = true := by kernel_rfl
theorem no_19 : noG (esV 19) (notWs 19) = true := by kernel_rfl
theorem no_21 : noG (esV 21) (notWs 21) = true := by kernel_rfl
theorem no_23 : noG (esV 23) (notWs 23) = true := by kernel_rfl
theorem no_25 : noG (esV 25) (notWs 25) = true := by kernel_rfl
theorem no_27 : noG (esV 27) (notWs 27) = true := by kernel_rfl
theorem no_29 : noG (esV 29) (notWs 29) = true := by kernel_rfl
theorem no_31 : noG (esV 31) (notWs 31) = true := by kernel_rfl
theorem no_33 : noG (esV 33) (notWs 33) = true := by kernel_rfl
theorem no_35 : noG (esV 35) (notWs 35) = true := by kernel_rfl
theorem no_37 : noG (esV 37) (notWs 37) = true := by kernel_rfl
theorem no_39 : noG (esV 39) (notWs 39) = true := by kernel_rfl
theorem no_41 : noG (esV 41) (notWs 41) = true := by kernel_rfl
theorem no_43 : noG (esV 43) (notWs 43) = true := by kernel_rfl
theorem no_45 : noG (esV 45) (notWs 45) = true := by kernel_rfl
theorem no_47 : noG (esV 47) (notWs 47) = true := by kernel_rfl
theorem no_less : noG esA [opLt 1] = true := by kernel_rfl
theorem no_more : noG esA [opGt 47] = true := by kernel_rfl
end Go.Proofs.YtbpcidpladnhfaaDoor
