/- Layer 21: what is read of words, carried out: part 1. -/
import Derived.Test.YtclhmilecdjbiaaDoorQv
import Derived.KernelRfl
namespace Go.Proofs.YtclhmilecdjbiaaDoor
open Go Go.Proofs Go.RowKit Go.CX Go.SX
set_option maxRecDepth 100000
theorem back_1_8 : backR (1, 8) = true := by kernel_rfl
theorem back_5_8 : backR (5, 8) = true := by kernel_rfl
theorem back_9_8 : backR (9, 8) = true := by kernel_rfl
theorem back_13_8 : backR (13, 8) = true := by kernel_rfl
theorem back_17_8 : backR (17, 8) = true := by kernel_rfl
theorem back_21_8 : backR (21, 8) = true := by kernel_rfl
theorem back_25_8 : backR (25, 8) = true := by kernel_rfl
theorem back_29_8 : backR (29, 8) = true := by kernel_rfl
theorem back_33_1 : backR (33, 1) = true := by kernel_rfl
theorem back_34_1 : backR (34, 1) = true := by kernel_rfl
theorem back_35_1 : backR (35, 1) = true := by kernel_rfl
theorem back_36_1 : backR (36, 1) = true := by kernel_rfl
theorem back_37_1 : backR (37, 1) = true := by kernel_rfl
theorem back_38_1 : backR (38, 1) = true := by kernel_rfl
theorem back_39_9 : backR (39, 9) = true := by kernel_rfl
theorem back_41_8 : backR (41, 8) = true := by kernel_rfl
theorem back_45_8 : backR (45, 8) = true := by kernel_rfl
theorem near_4 : naR 4 = true := by kernel_rfl
theorem near_8 : naR 8 = true := by kernel_rfl
theorem near_12 : naR 12 = true := by kernel_rfl
theorem near_16 : naR 16 = true := by kernel_rfl
theorem near_20 : naR 20 = true := by kernel_rfl
theorem near_24 : naR 24 = true := by kernel_rfl
theorem near_28 : naR 28 = true := by kernel_rfl
theorem near_32 : naR 32 = true := by kernel_rfl
theorem near_36 : naR 36 = true := by kernel_rfl
theorem near_40 : naR 40 = true := by kernel_rfl
theorem near_44 : naR 44 = true := by kernel_rfl
theorem read_run : readR = true := by kernel_rfl
end Go.Proofs.YtclhmilecdjbiaaDoor
