/- Layer 20: the law of several instructions, carried out. -/
import Derived.Test.YtclhmilecdjbiaaDoorQs
import Derived.KernelRfl
namespace Go.Proofs.YtclhmilecdjbiaaDoor
open Go Go.Proofs Go.RowKit Go.CX Go.SX
set_option maxRecDepth 100000
theorem all_14_0 : runV 14 0 = true := by kernel_rfl
theorem all_14_1 : runV 14 1 = true := by kernel_rfl
theorem all_14_2 : runV 14 2 = true := by kernel_rfl
theorem all_14_3 : runV 14 3 = true := by kernel_rfl
theorem all_14_4 : runV 14 4 = true := by kernel_rfl
theorem all_14_5 : runV 14 5 = true := by kernel_rfl
theorem all_14_6 : runV 14 6 = true := by kernel_rfl
theorem all_14_7 : runV 14 7 = true := by kernel_rfl
theorem all_14_8 : runV 14 8 = true := by kernel_rfl
theorem all_14_9 : runV 14 9 = true := by kernel_rfl
theorem all_14_10 : runV 14 10 = true := by kernel_rfl
theorem all_14_11 : runV 14 11 = true := by kernel_rfl
theorem all_14_12 : runV 14 12 = true := by kernel_rfl
theorem all_14_13 : runV 14 13 = true := by kernel_rfl
theorem all_14_14 : runV 14 14 = true := by kernel_rfl
theorem all_15_0 : runV 15 0 = true := by kernel_rfl
theorem all_15_1 : runV 15 1 = true := by kernel_rfl
theorem all_15_2 : runV 15 2 = true := by kernel_rfl
theorem all_15_3 : runV 15 3 = true := by kernel_rfl
theorem all_15_4 : runV 15 4 = true := by kernel_rfl
theorem all_15_5 : runV 15 5 = true := by kernel_rfl
theorem all_15_6 : runV 15 6 = true := by kernel_rfl
theorem all_15_7 : runV 15 7 = true := by kernel_rfl
theorem all_15_8 : runV 15 8 = true := by kernel_rfl
theorem all_15_9 : runV 15 9 = true := by kernel_rfl
theorem all_15_10 : runV 15 10 = true := by kernel_rfl
theorem all_15_11 : runV 15 11 = true := by kernel_rfl
theorem all_15_12 : runV 15 12 = true := by kernel_rfl
theorem all_15_13 : runV 15 13 = true := by kernel_rfl
theorem all_15_14 : runV 15 14 = true := by kernel_rfl
theorem all_15_15 : runV 15 15 = true := by kernel_rfl
end Go.Proofs.YtclhmilecdjbiaaDoor
