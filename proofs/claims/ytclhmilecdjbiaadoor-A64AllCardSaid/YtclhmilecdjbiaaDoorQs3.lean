/- Layer 20: the law of several instructions, carried out. -/
import Derived.Test.YtclhmilecdjbiaaDoorQs
import Derived.KernelRfl
namespace Go.Proofs.YtclhmilecdjbiaaDoor
open Go Go.Proofs Go.RowKit Go.CX Go.SX
set_option maxRecDepth 100000
theorem all_16_0 : runV 16 0 = true := by kernel_rfl
theorem all_16_1 : runV 16 1 = true := by kernel_rfl
theorem all_16_2 : runV 16 2 = true := by kernel_rfl
theorem all_16_3 : runV 16 3 = true := by kernel_rfl
theorem all_16_4 : runV 16 4 = true := by kernel_rfl
theorem all_16_5 : runV 16 5 = true := by kernel_rfl
theorem all_16_6 : runV 16 6 = true := by kernel_rfl
theorem all_16_7 : runV 16 7 = true := by kernel_rfl
theorem all_16_8 : runV 16 8 = true := by kernel_rfl
theorem all_16_9 : runV 16 9 = true := by kernel_rfl
theorem all_16_10 : runV 16 10 = true := by kernel_rfl
theorem all_16_11 : runV 16 11 = true := by kernel_rfl
theorem all_16_12 : runV 16 12 = true := by kernel_rfl
theorem all_16_13 : runV 16 13 = true := by kernel_rfl
theorem all_16_14 : runV 16 14 = true := by kernel_rfl
theorem all_16_15 : runV 16 15 = true := by kernel_rfl
theorem all_16_16 : runV 16 16 = true := by kernel_rfl
theorem all_17_0 : runV 17 0 = true := by kernel_rfl
theorem all_17_1 : runV 17 1 = true := by kernel_rfl
theorem all_17_2 : runV 17 2 = true := by kernel_rfl
theorem all_17_3 : runV 17 3 = true := by kernel_rfl
theorem all_17_4 : runV 17 4 = true := by kernel_rfl
theorem all_17_5 : runV 17 5 = true := by kernel_rfl
theorem all_17_6 : runV 17 6 = true := by kernel_rfl
theorem all_17_7 : runV 17 7 = true := by kernel_rfl
theorem all_17_8 : runV 17 8 = true := by kernel_rfl
theorem all_17_9 : runV 17 9 = true := by kernel_rfl
theorem all_17_10 : runV 17 10 = true := by kernel_rfl
theorem all_17_11 : runV 17 11 = true := by kernel_rfl
theorem all_17_12 : runV 17 12 = true := by kernel_rfl
theorem all_17_13 : runV 17 13 = true := by kernel_rfl
theorem all_17_14 : runV 17 14 = true := by kernel_rfl
theorem all_17_15 : runV 17 15 = true := by kernel_rfl
theorem all_17_16 : runV 17 16 = true := by kernel_rfl
theorem all_17_17 : runV 17 17 = true := by kernel_rfl
end Go.Proofs.YtclhmilecdjbiaaDoor
