/- Layer 21: what is read of words, carried out: part 3. -/
import Derived.Test.YtclhmilecdjbiaaDoorQv
import Derived.KernelRfl
namespace Go.Proofs.YtclhmilecdjbiaaDoor
open Go Go.Proofs Go.RowKit Go.CX Go.SX
set_option maxRecDepth 100000
theorem back_3_8 : backR (3, 8) = true := by kernel_rfl
theorem back_7_8 : backR (7, 8) = true := by kernel_rfl
theorem back_11_8 : backR (11, 8) = true := by kernel_rfl
theorem back_15_8 : backR (15, 8) = true := by kernel_rfl
theorem back_19_8 : backR (19, 8) = true := by kernel_rfl
theorem back_23_8 : backR (23, 8) = true := by kernel_rfl
theorem back_27_8 : backR (27, 8) = true := by kernel_rfl
theorem back_31_8 : backR (31, 8) = true := by kernel_rfl
theorem back_33_4 : backR (33, 4) = true := by kernel_rfl
theorem back_34_4 : backR (34, 4) = true := by kernel_rfl
theorem back_35_4 : backR (35, 4) = true := by kernel_rfl
theorem back_36_4 : backR (36, 4) = true := by kernel_rfl
theorem back_37_4 : backR (37, 4) = true := by kernel_rfl
theorem back_38_4 : backR (38, 4) = true := by kernel_rfl
theorem back_39_11 : backR (39, 11) = true := by kernel_rfl
theorem back_43_8 : backR (43, 8) = true := by kernel_rfl
theorem back_47_8 : backR (47, 8) = true := by kernel_rfl
theorem near_2 : naR 2 = true := by kernel_rfl
theorem near_6 : naR 6 = true := by kernel_rfl
theorem near_10 : naR 10 = true := by kernel_rfl
theorem near_14 : naR 14 = true := by kernel_rfl
theorem near_18 : naR 18 = true := by kernel_rfl
theorem near_22 : naR 22 = true := by kernel_rfl
theorem near_26 : naR 26 = true := by kernel_rfl
theorem near_30 : naR 30 = true := by kernel_rfl
theorem near_34 : naR 34 = true := by kernel_rfl
theorem near_38 : naR 38 = true := by kernel_rfl
theorem near_42 : naR 42 = true := by kernel_rfl
theorem near_46 : naR 46 = true := by kernel_rfl
end Go.Proofs.YtclhmilecdjbiaaDoor
