/- Layer 21: what is read of words, carried out: part 2. -/
import Derived.Test.YtclhmilecdjbiaaDoorQv
import Derived.KernelRfl
namespace Go.Proofs.YtclhmilecdjbiaaDoor
open Go Go.Proofs Go.RowKit Go.CX Go.SX
set_option maxRecDepth 100000
theorem back_2_8 : backR (2, 8) = true := by kernel_rfl
theorem back_6_8 : backR (6, 8) = true := by kernel_rfl
theorem back_10_8 : backR (10, 8) = true := by kernel_rfl
theorem back_14_8 : backR (14, 8) = true := by kernel_rfl
theorem back_18_8 : backR (18, 8) = true := by kernel_rfl
theorem back_22_8 : backR (22, 8) = true := by kernel_rfl
theorem back_26_8 : backR (26, 8) = true := by kernel_rfl
theorem back_30_8 : backR (30, 8) = true := by kernel_rfl
theorem back_33_2 : backR (33, 2) = true := by kernel_rfl
theorem back_34_2 : backR (34, 2) = true := by kernel_rfl
theorem back_35_2 : backR (35, 2) = true := by kernel_rfl
theorem back_36_2 : backR (36, 2) = true := by kernel_rfl
theorem back_37_2 : backR (37, 2) = true := by kernel_rfl
theorem back_38_2 : backR (38, 2) = true := by kernel_rfl
theorem back_39_10 : backR (39, 10) = true := by kernel_rfl
theorem back_42_8 : backR (42, 8) = true := by kernel_rfl
theorem back_46_8 : backR (46, 8) = true := by kernel_rfl
theorem near_1 : naR 1 = true := by kernel_rfl
theorem near_5 : naR 5 = true := by kernel_rfl
theorem near_9 : naR 9 = true := by kernel_rfl
theorem near_13 : naR 13 = true := by kernel_rfl
theorem near_17 : naR 17 = true := by kernel_rfl
theorem near_21 : naR 21 = true := by kernel_rfl
theorem near_25 : naR 25 = true := by kernel_rfl
theorem near_29 : naR 29 = true := by kernel_rfl
theorem near_33 : naR 33 = true := by kernel_rfl
theorem near_37 : naR 37 = true := by kernel_rfl
theorem near_41 : naR 41 = true := by kernel_rfl
theorem near_45 : naR 45 = true := by kernel_rfl
end Go.Proofs.YtclhmilecdjbiaaDoor
