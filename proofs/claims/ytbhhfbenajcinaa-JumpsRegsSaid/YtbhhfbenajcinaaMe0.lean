import Derived.Test.YtbhhfbenajcinaaSXx
import Derived.KernelRfl
import Derived.Test.YtbhhfbenajcinaaMd
namespace Go.Proofs.Ytbhhfbenajcinaa
open Go Go.SX Go.Proofs
theorem sh_4 : shOp 4 [(1, 1), (1, 2), (1, 3), (2, 1), (2, 3)] none = true := by kernel_rfl
theorem rw_4_11 : regRun 5 10 4 none (1, 1) = true := by kernel_rfl
theorem rw_4_12 : regRun 5 10 4 none (1, 2) = true := by kernel_rfl
theorem rw_4_13 : regRun 5 10 4 none (1, 3) = true := by kernel_rfl
theorem rw_4_21 : regRun 5 10 4 none (2, 1) = true := by kernel_rfl
theorem rw_4_23 : regRun 5 10 4 none (2, 3) = true := by kernel_rfl
theorem rw_4 : regOp 5 10 4 [(1, 1), (1, 2), (1, 3), (2, 1), (2, 3)] none = true := by
  simp only [regOp, List.all_cons, List.all_nil, rw_4_11, rw_4_12, rw_4_13, rw_4_21, rw_4_23, Bool.and_true]
theorem rr_4_11 : regRun 7 11 4 none (1, 1) = true := by kernel_rfl
theorem rr_4_12 : regRun 7 11 4 none (1, 2) = true := by kernel_rfl
theorem rr_4_13 : regRun 7 11 4 none (1, 3) = true := by kernel_rfl
theorem rr_4_21 : regRun 7 11 4 none (2, 1) = true := by kernel_rfl
theorem rr_4_23 : regRun 7 11 4 none (2, 3) = true := by kernel_rfl
theorem rr_4 : regOp 7 11 4 [(1, 1), (1, 2), (1, 3), (2, 1), (2, 3)] none = true := by
  simp only [regOp, List.all_cons, List.all_nil, rr_4_11, rr_4_12, rr_4_13, rr_4_21, rr_4_23, Bool.and_true]
theorem sh_8 : shOp 8 [(1, 1), (1, 2), (1, 3), (2, 1), (2, 3)] none = true := by kernel_rfl
theorem rw_8_11 : regRun 5 10 8 none (1, 1) = true := by kernel_rfl
theorem rw_8_12 : regRun 5 10 8 none (1, 2) = true := by kernel_rfl
theorem rw_8_13 : regRun 5 10 8 none (1, 3) = true := by kernel_rfl
theorem rw_8_21 : regRun 5 10 8 none (2, 1) = true := by kernel_rfl
theorem rw_8_23 : regRun 5 10 8 none (2, 3) = true := by kernel_rfl
theorem rw_8 : regOp 5 10 8 [(1, 1), (1, 2), (1, 3), (2, 1), (2, 3)] none = true := by
  simp only [regOp, List.all_cons, List.all_nil, rw_8_11, rw_8_12, rw_8_13, rw_8_21, rw_8_23, Bool.and_true]
theorem rr_8_11 : regRun 7 11 8 none (1, 1) = true := by kernel_rfl
theorem rr_8_12 : regRun 7 11 8 none (1, 2) = true := by kernel_rfl
theorem rr_8_13 : regRun 7 11 8 none (1, 3) = true := by kernel_rfl
theorem rr_8_21 : regRun 7 11 8 none (2, 1) = true := by kernel_rfl
theorem rr_8_23 : regRun 7 11 8 none (2, 3) = true := by kernel_rfl
theorem rr_8 : regOp 7 11 8 [(1, 1), (1, 2), (1, 3), (2, 1), (2, 3)] none = true := by
  simp only [regOp, List.all_cons, List.all_nil, rr_8_11, rr_8_12, rr_8_13, rr_8_21, rr_8_23, Bool.and_true]
theorem sh_12 : shOp 12 [(1, 1), (1, 2)] none = true := by kernel_rfl
theorem rw_12_11 : regRun 5 10 12 none (1, 1) = true := by kernel_rfl
theorem rw_12_12 : regRun 5 10 12 none (1, 2) = true := by kernel_rfl
theorem rw_12 : regOp 5 10 12 [(1, 1), (1, 2)] none = true := by
  simp only [regOp, List.all_cons, List.all_nil, rw_12_11, rw_12_12, Bool.and_true]
theorem rr_12_11 : regRun 7 11 12 none (1, 1) = true := by kernel_rfl
theorem rr_12_12 : regRun 7 11 12 none (1, 2) = true := by kernel_rfl
theorem rr_12 : regOp 7 11 12 [(1, 1), (1, 2)] none = true := by
  simp only [regOp, List.all_cons, List.all_nil, rr_12_11, rr_12_12, Bool.and_true]
theorem sh_16 : shOp 16 [(1, 0), (2, 0)] none = true := by kernel_rfl
theorem rw_16_10 : regRun 5 10 16 none (1, 0) = true := by kernel_rfl
theorem rw_16_20 : regRun 5 10 16 none (2, 0) = true := by kernel_rfl
theorem rw_16 : regOp 5 10 16 [(1, 0), (2, 0)] none = true := by
  simp only [regOp, List.all_cons, List.all_nil, rw_16_10, rw_16_20, Bool.and_true]
theorem rr_16_10 : regRun 7 11 16 none (1, 0) = true := by kernel_rfl
theorem rr_16_20 : regRun 7 11 16 none (2, 0) = true := by kernel_rfl
theorem rr_16 : regOp 7 11 16 [(1, 0), (2, 0)] none = true := by
  simp only [regOp, List.all_cons, List.all_nil, rr_16_10, rr_16_20, Bool.and_true]
theorem sh_20 : shOp 20 [(1, 0), (2, 0)] none = true := by kernel_rfl
theorem rw_20_10 : regRun 5 10 20 none (1, 0) = true := by kernel_rfl
theorem rw_20_20 : regRun 5 10 20 none (2, 0) = true := by kernel_rfl
theorem rw_20 : regOp 5 10 20 [(1, 0), (2, 0)] none = true := by
  simp only [regOp, List.all_cons, List.all_nil, rw_20_10, rw_20_20, Bool.and_true]
theorem rr_20_10 : regRun 7 11 20 none (1, 0) = true := by kernel_rfl
theorem rr_20_20 : regRun 7 11 20 none (2, 0) = true := by kernel_rfl
theorem rr_20 : regOp 7 11 20 [(1, 0), (2, 0)] none = true := by
  simp only [regOp, List.all_cons, List.all_nil, rr_20_10, rr_20_20, Bool.and_true]
theorem sh_24 : shOp 24 [(1, 1), (1, 2)] none = true := by kernel_rfl
theorem rw_24_11 : regRun 5 10 24 none (1, 1) = true := by kernel_rfl
theorem rw_24_12 : regRun 5 10 24 none (1, 2) = true := by kernel_rfl
theorem rw_24 : regOp 5 10 24 [(1, 1), (1, 2)] none = true := by
  simp only [regOp, List.all_cons, List.all_nil, rw_24_11, rw_24_12, Bool.and_true]
theorem rr_24_11 : regRun 7 11 24 none (1, 1) = true := by kernel_rfl
theorem rr_24_12 : regRun 7 11 24 none (1, 2) = true := by kernel_rfl
theorem rr_24 : regOp 7 11 24 [(1, 1), (1, 2)] none = true := by
  simp only [regOp, List.all_cons, List.all_nil, rr_24_11, rr_24_12, Bool.and_true]
theorem sh_28 : shOp 28 [(1, 1), (1, 3), (2, 1), (2, 3)] none = true := by kernel_rfl
theorem rw_28_11 : regRun 5 10 28 none (1, 1) = true := by kernel_rfl
theorem rw_28_13 : regRun 5 10 28 none (1, 3) = true := by kernel_rfl
theorem rw_28_21 : regRun 5 10 28 none (2, 1) = true := by kernel_rfl
theorem rw_28_23 : regRun 5 10 28 none (2, 3) = true := by kernel_rfl
theorem rw_28 : regOp 5 10 28 [(1, 1), (1, 3), (2, 1), (2, 3)] none = true := by
  simp only [regOp, List.all_cons, List.all_nil, rw_28_11, rw_28_13, rw_28_21, rw_28_23, Bool.and_true]
theorem rr_28_11 : regRun 7 11 28 none (1, 1) = true := by kernel_rfl
theorem rr_28_13 : regRun 7 11 28 none (1, 3) = true := by kernel_rfl
theorem rr_28_21 : regRun 7 11 28 none (2, 1) = true := by kernel_rfl
theorem rr_28_23 : regRun 7 11 28 none (2, 3) = true := by kernel_rfl
theorem rr_28 : regOp 7 11 28 [(1, 1), (1, 3), (2, 1), (2, 3)] none = true := by
  simp only [regOp, List.all_cons, List.all_nil, rr_28_11, rr_28_13, rr_28_21, rr_28_23, Bool.and_true]
theorem sh_32 : shOp 32 [(1, 1), (2, 1)] none = true := by kernel_rfl
theorem rw_32_11 : regRun 5 10 32 none (1, 1) = true := by kernel_rfl
theorem rw_32_21 : regRun 5 10 32 none (2, 1) = true := by kernel_rfl
theorem rw_32 : regOp 5 10 32 [(1, 1), (2, 1)] none = true := by
  simp only [regOp, List.all_cons, List.all_nil, rw_32_11, rw_32_21, Bool.and_true]
theorem rr_32_11 : regRun 7 11 32 none (1, 1) = true := by kernel_rfl
theorem rr_32_21 : regRun 7 11 32 none (2, 1) = true := by kernel_rfl
theorem rr_32 : regOp 7 11 32 [(1, 1), (2, 1)] none = true := by
  simp only [regOp, List.all_cons, List.all_nil, rr_32_11, rr_32_21, Bool.and_true]
theorem sh_36 : shOp 36 [(0, 0)] none = true := by kernel_rfl
theorem rw_36_00 : regRun 5 10 36 none (0, 0) = true := by kernel_rfl
theorem rw_36 : regOp 5 10 36 [(0, 0)] none = true := by
  simp only [regOp, List.all_cons, List.all_nil, rw_36_00, Bool.and_true]
theorem rr_36_00 : regRun 7 11 36 none (0, 0) = true := by kernel_rfl
theorem rr_36 : regOp 7 11 36 [(0, 0)] none = true := by
  simp only [regOp, List.all_cons, List.all_nil, rr_36_00, Bool.and_true]
theorem sh_40 : shOp 40 [(0, 0)] none = true := by kernel_rfl
theorem rw_40_00 : regRun 5 10 40 none (0, 0) = true := by kernel_rfl
theorem rw_40 : regOp 5 10 40 [(0, 0)] none = true := by
  simp only [regOp, List.all_cons, List.all_nil, rw_40_00, Bool.and_true]
theorem rr_40_00 : regRun 7 11 40 none (0, 0) = true := by kernel_rfl
theorem rr_40 : regOp 7 11 40 [(0, 0)] none = true := by
  simp only [regOp, List.all_cons, List.all_nil, rr_40_00, Bool.and_true]
theorem sh_44 : shOp 44 [(0, 0)] none = true := by kernel_rfl
theorem rw_44_00 : regRun 5 10 44 none (0, 0) = true := by kernel_rfl
theorem rw_44 : regOp 5 10 44 [(0, 0)] none = true := by
  simp only [regOp, List.all_cons, List.all_nil, rw_44_00, Bool.and_true]
theorem rr_44_00 : regRun 7 11 44 none (0, 0) = true := by kernel_rfl
theorem rr_44 : regOp 7 11 44 [(0, 0)] none = true := by
  simp only [regOp, List.all_cons, List.all_nil, rr_44_00, Bool.and_true]
end Go.Proofs.Ytbhhfbenajcinaa
