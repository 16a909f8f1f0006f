/- Layer 21: the rest of the law of several words, carried out. -/
import Derived.Test.YtclhmilecdjbiaaDoorQyi
import Derived.KernelRfl
namespace Go.Proofs.YtclhmilecdjbiaaDoor
open Go Go.Proofs Go.RowKit Go.CX Go.SX
set_option maxRecDepth 100000
theorem tail_17_0 : runT4 17 0 = true := by kernel_rfl
theorem tail_17_1 : runT4 17 1 = true := by kernel_rfl
theorem tail_17_2 : runT4 17 2 = true := by kernel_rfl
theorem tail_17_3 : runT4 17 3 = true := by kernel_rfl
theorem tail_17_4 : runT4 17 4 = true := by kernel_rfl
theorem tail_17_5 : runT4 17 5 = true := by kernel_rfl
theorem tail_17_6 : runT4 17 6 = true := by kernel_rfl
theorem tail_17_7 : runT4 17 7 = true := by kernel_rfl
theorem tail_17_8 : runT4 17 8 = true := by kernel_rfl
theorem tail_17_9 : runT4 17 9 = true := by kernel_rfl
theorem tail_17_10 : runT4 17 10 = true := by kernel_rfl
theorem tail_17_11 : runT4 17 11 = true := by kernel_rfl
theorem tail_17_12 : runT4 17 12 = true := by kernel_rfl
theorem tail_17_13 : runT4 17 13 = true := by kernel_rfl
theorem tail_17_14 : runT4 17 14 = true := by kernel_rfl
theorem tail_17_15 : runT4 17 15 = true := by kernel_rfl
theorem tail_17_16 : runT4 17 16 = true := by kernel_rfl
theorem tail_17_17 : runT4 17 17 = true := by kernel_rfl
theorem tail_15_0 : runT4 15 0 = true := by kernel_rfl
theorem tail_15_1 : runT4 15 1 = true := by kernel_rfl
theorem tail_15_2 : runT4 15 2 = true := by kernel_rfl
theorem tail_15_3 : runT4 15 3 = true := by kernel_rfl
theorem tail_15_4 : runT4 15 4 = true := by kernel_rfl
theorem tail_15_5 : runT4 15 5 = true := by kernel_rfl
theorem tail_15_6 : runT4 15 6 = true := by kernel_rfl
theorem tail_15_7 : runT4 15 7 = true := by kernel_rfl
theorem tail_15_8 : runT4 15 8 = true := by kernel_rfl
theorem tail_15_9 : runT4 15 9 = true := by kernel_rfl
theorem tail_15_10 : runT4 15 10 = true := by kernel_rfl
theorem tail_15_11 : runT4 15 11 = true := by kernel_rfl
theorem tail_15_12 : runT4 15 12 = true := by kernel_rfl
theorem tail_15_13 : runT4 15 13 = true := by kernel_rfl
theorem tail_15_14 : runT4 15 14 = true := by kernel_rfl
theorem tail_15_15 : runT4 15 15 = true := by kernel_rfl
end Go.Proofs.YtclhmilecdjbiaaDoor
