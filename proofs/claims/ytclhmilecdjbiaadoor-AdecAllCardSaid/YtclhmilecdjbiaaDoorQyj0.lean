/- Layer 21: the rest of the law of several words, carried out. -/
import Derived.Test.YtclhmilecdjbiaaDoorQyi
import Derived.KernelRfl
namespace Go.Proofs.YtclhmilecdjbiaaDoor
open Go Go.Proofs Go.RowKit Go.CX Go.SX
set_option maxRecDepth 100000
theorem tail_18_0 : runT4 18 0 = true := by kernel_rfl
theorem tail_18_1 : runT4 18 1 = true := by kernel_rfl
theorem tail_18_2 : runT4 18 2 = true := by kernel_rfl
theorem tail_18_3 : runT4 18 3 = true := by kernel_rfl
theorem tail_18_4 : runT4 18 4 = true := by kernel_rfl
theorem tail_18_5 : runT4 18 5 = true := by kernel_rfl
theorem tail_18_6 : runT4 18 6 = true := by kernel_rfl
theorem tail_18_7 : runT4 18 7 = true := by kernel_rfl
theorem tail_18_8 : runT4 18 8 = true := by kernel_rfl
theorem tail_18_9 : runT4 18 9 = true := by kernel_rfl
theorem tail_18_10 : runT4 18 10 = true := by kernel_rfl
theorem tail_18_11 : runT4 18 11 = true := by kernel_rfl
theorem tail_18_12 : runT4 18 12 = true := by kernel_rfl
theorem tail_18_13 : runT4 18 13 = true := by kernel_rfl
theorem tail_18_14 : runT4 18 14 = true := by kernel_rfl
theorem tail_18_15 : runT4 18 15 = true := by kernel_rfl
theorem tail_18_16 : runT4 18 16 = true := by kernel_rfl
theorem tail_18_17 : runT4 18 17 = true := by kernel_rfl
theorem tail_18_18 : runT4 18 18 = true := by kernel_rfl
theorem tail_14_0 : runT4 14 0 = true := by kernel_rfl
theorem tail_14_1 : runT4 14 1 = true := by kernel_rfl
theorem tail_14_2 : runT4 14 2 = true := by kernel_rfl
theorem tail_14_3 : runT4 14 3 = true := by kernel_rfl
theorem tail_14_4 : runT4 14 4 = true := by kernel_rfl
theorem tail_14_5 : runT4 14 5 = true := by kernel_rfl
theorem tail_14_6 : runT4 14 6 = true := by kernel_rfl
theorem tail_14_7 : runT4 14 7 = true := by kernel_rfl
theorem tail_14_8 : runT4 14 8 = true := by kernel_rfl
theorem tail_14_9 : runT4 14 9 = true := by kernel_rfl
theorem tail_14_10 : runT4 14 10 = true := by kernel_rfl
theorem tail_14_11 : runT4 14 11 = true := by kernel_rfl
theorem tail_14_12 : runT4 14 12 = true := by kernel_rfl
theorem tail_14_13 : runT4 14 13 = true := by kernel_rfl
theorem tail_14_14 : runT4 14 14 = true := by kernel_rfl
end Go.Proofs.YtclhmilecdjbiaaDoor
