/- Layer 21: what is read of words, carried out: part 4. -/
import Derived.Test.YtclhmilecdjbiaaDoorQv
import Derived.KernelRfl
namespace Go.Proofs.YtclhmilecdjbiaaDoor
open Go Go.Proofs Go.RowKit Go.CX Go.SX
set_option maxRecDepth 100000
theorem back_4_8 : backR (4, 8) = true := by kernel_rfl
theorem back_8_8 : backR (8, 8) = true := by kernel_rfl
theorem back_12_8 : backR (12, 8) = true := by kernel_rfl
theorem back_16_8 : backR (16, 8) = true := by kernel_rfl
theorem back_20_8 : backR (20, 8) = true := by kernel_rfl
theorem back_24_8 : backR (24, 8) = true := by kernel_rfl
theorem back_28_8 : backR (28, 8) = true := by kernel_rfl
theorem back_32_8 : backR (32, 8) = true := by kernel_rfl
theorem back_33_8 : backR (33, 8) = true := by kernel_rfl
theorem back_34_8 : backR (34, 8) = true := by kernel_rfl
theorem back_35_8 : backR (35, 8) = true := by kernel_rfl
theorem back_36_8 : backR (36, 8) = true := by kernel_rfl
theorem back_37_8 : backR (37, 8) = true := by kernel_rfl
theorem back_38_8 : backR (38, 8) = true := by kernel_rfl
theorem back_40_8 : backR (40, 8) = true := by kernel_rfl
theorem back_44_8 : backR (44, 8) = true := by kernel_rfl
theorem near_3 : naR 3 = true := by kernel_rfl
theorem near_7 : naR 7 = true := by kernel_rfl
theorem near_11 : naR 11 = true := by kernel_rfl
theorem near_15 : naR 15 = true := by kernel_rfl
theorem near_19 : naR 19 = true := by kernel_rfl
theorem near_23 : naR 23 = true := by kernel_rfl
theorem near_27 : naR 27 = true := by kernel_rfl
theorem near_31 : naR 31 = true := by kernel_rfl
theorem near_35 : naR 35 = true := by kernel_rfl
theorem near_39 : naR 39 = true := by kernel_rfl
theorem near_43 : naR 43 = true := by kernel_rfl
theorem near_47 : naR 47 = true := by kernel_rfl
end Go.Proofs.YtclhmilecdjbiaaDoor
