/- Layer 21: the document's Decode, carried out: part 1. -/
import Derived.Test.YtclhmilecdjbiaaDoorQyb
import Derived.KernelRfl
namespace Go.Proofs.YtclhmilecdjbiaaDoor
open Go Go.Proofs Go.RowKit Go.CX Go.SX
set_option maxRecDepth 100000
theorem dec_3 : decR 3 = true := by kernel_rfl
theorem dec_6 : decR 6 = true := by kernel_rfl
theorem dec_9 : decR 9 = true := by kernel_rfl
theorem dec_12 : decR 12 = true := by kernel_rfl
theorem dec_15 : decR 15 = true := by kernel_rfl
theorem dec_18 : decR 18 = true := by kernel_rfl
theorem dec_21 : decR 21 = true := by kernel_rfl
theorem dec_24 : decR 24 = true := by kernel_rfl
theorem dec_27 : decR 27 = true := by kernel_rfl
theorem dec_30 : decR 30 = true := by kernel_rfl
theorem dec_33 : decR 33 = true := by kernel_rfl
theorem dec_36 : decR 36 = true := by kernel_rfl
theorem dec_39 : decR 39 = true := by kernel_rfl
theorem dec_42 : decR 42 = true := by kernel_rfl
theorem dec_45 : decR 45 = true := by kernel_rfl
theorem dec_48 : decR 48 = true := by kernel_rfl
theorem top_3 : topR 3 = true := by kernel_rfl
theorem top_6 : topR 6 = true := by kernel_rfl
theorem top_9 : topR 9 = true := by kernel_rfl
theorem top_12 : topR 12 = true := by kernel_rfl
theorem top_15 : topR 15 = true := by kernel_rfl
theorem top_18 : topR 18 = true := by kernel_rfl
theorem top_21 : topR 21 = true := by kernel_rfl
theorem top_24 : topR 24 = true := by kernel_rfl
theorem top_27 : topR 27 = true := by kernel_rfl
theorem top_30 : topR 30 = true := by kernel_rfl
theorem top_33 : topR 33 = true := by kernel_rfl
theorem top_36 : topR 36 = true := by kernel_rfl
theorem top_39 : topR 39 = true := by kernel_rfl
theorem top_42 : topR 42 = true := by kernel_rfl
theorem top_45 : topR 45 = true := by kernel_rfl
end Go.Proofs.YtclhmilecdjbiaaDoor
