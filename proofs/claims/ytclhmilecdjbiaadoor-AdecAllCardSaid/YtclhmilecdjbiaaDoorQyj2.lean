/- Layer 21: the rest of the law of several words, carried out. -/
import Derived.Test.YtclhmilecdjbiaaDoorQyi
import Derived.KernelRfl
namespace Go.Proofs.YtclhmilecdjbiaaDoor
open Go Go.Proofs Go.RowKit Go.CX Go.SX
set_option maxRecDepth 100000
theorem tail_16_0 : runT4 16 0 = true := by kernel_rfl
theorem tail_16_1 : runT4 16 1 = true := by kernel_rfl
theorem tail_16_2 : runT4 16 2 = true := by kernel_rfl
theorem tail_16_3 : runT4 16 3 = true := by kernel_rfl
theorem tail_16_4 : runT4 16 4 = true := by kernel_rfl
theorem tail_16_5 : runT4 16 5 = true := by kernel_rfl
theorem tail_16_6 : runT4 16 6 = true := by kernel_rfl
theorem tail_16_7 : runT4 16 7 = true := by kernel_rfl
theorem tail_16_8 : runT4 16 8 = true := by kernel_rfl
theorem tail_16_9 : runT4 16 9 = true := by kernel_rfl
theorem tail_16_10 : runT4 16 10 = true := by kernel_rfl
theorem tail_16_11 : runT4 16 11 = true := by kernel_rfl
theorem tail_16_12 : runT4 16 12 = true := by kernel_rfl
theorem tail_16_13 : runT4 16 13 = true := by kernel_rfl
theorem tail_16_14 : runT4 16 14 = true := by kernel_rfl
theorem tail_16_15 : runT4 16 15 = true := by kernel_rfl
theorem tail_16_16 : runT4 16 16 = true := by kernel_rfl
theorem tail_13_0 : runT4 13 0 = true := by kernel_rfl
theorem tail_13_1 : runT4 13 1 = true := by kernel_rfl
theorem tail_13_2 : runT4 13 2 = true := by kernel_rfl
theorem tail_13_3 : runT4 13 3 = true := by kernel_rfl
theorem tail_13_4 : runT4 13 4 = true := by kernel_rfl
theorem tail_13_5 : runT4 13 5 = true := by kernel_rfl
theorem tail_13_6 : runT4 13 6 = true := by kernel_rfl
theorem tail_13_7 : runT4 13 7 = true := by kernel_rfl
theorem tail_13_8 : runT4 13 8 = true := by kernel_rfl
theorem tail_13_9 : runT4 13 9 = true := by kernel_rfl
theorem tail_13_10 : runT4 13 10 = true := by kernel_rfl
theorem tail_13_11 : runT4 13 11 = true := by kernel_rfl
theorem tail_13_12 : runT4 13 12 = true := by kernel_rfl
theorem tail_13_13 : runT4 13 13 = true := by kernel_rfl
theorem tail_10_0 : runT4 10 0 = true := by kernel_rfl
theorem tail_10_1 : runT4 10 1 = true := by kernel_rfl
theorem tail_10_2 : runT4 10 2 = true := by kernel_rfl
theorem tail_10_3 : runT4 10 3 = true := by kernel_rfl
theorem tail_10_4 : runT4 10 4 = true := by kernel_rfl
theorem tail_10_5 : runT4 10 5 = true := by kernel_rfl
theorem tail_10_6 : runT4 10 6 = true := by kernel_rfl
theorem tail_10_7 : runT4 10 7 = true := by kernel_rfl
theorem tail_10_8 : runT4 10 8 = true := by kernel_rfl
theorem tail_10_9 : runT4 10 9 = true := by kernel_rfl
theorem tail_10_10 : runT4 10 10 = true := by kernel_rfl
end Go.Proofs.YtclhmilecdjbiaaDoor
