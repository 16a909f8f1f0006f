import Derived.Test.YtbhhfbenajcinaaSXx
import Derived.KernelRfl
import Derived.Test.YtbhhfbenajcinaaMd
namespace Go.Proofs.Ytbhhfbenajcinaa
open Go Go.SX Go.Proofs
theorem sh_1 : shOp 1 [(1, 1), (1, 2), (1, 3), (2, 1), (2, 3)] none = true := by kernel_rfl
theorem rw_1_11 : regRun 5 10 1 none (1, 1) = true := by kernel_rfl
theorem rw_1_12 : regRun 5 10 1 none (1, 2) = true := by kernel_rfl
theorem rw_1_13 : regRun 5 10 1 none (1, 3) = true := by kernel_rfl
theorem rw_1_21 : regRun 5 10 1 none (2, 1) = true := by kernel_rfl
theorem rw_1_23 : regRun 5 10 1 none (2, 3) = true := by kernel_rfl
theorem rw_1 : regOp 5 10 1 [(1, 1), (1, 2), (1, 3), (2, 1), (2, 3)] none = true := by
  simp only [regOp, List.all_cons, List.all_nil, rw_1_11, rw_1_12, rw_1_13, rw_1_21, rw_1_23, Bool.and_true]
theorem rr_1_11 : regRun 7 11 1 none (1, 1) = true := by kernel_rfl
theorem rr_1_12 : regRun 7 11 1 none (1, 2) = true := by kernel_rfl
theorem rr_1_13 : regRun 7 11 1 none (1, 3) = true := by kernel_rfl
theorem rr_1_21 : regRun 7 11 1 none (2, 1) = true := by kernel_rfl
theorem rr_1_23 : regRun 7 11 1 none (2, 3) = true := by kernel_rfl
theorem rr_1 : regOp 7 11 1 [(1, 1), (1, 2), (1, 3), (2, 1), (2, 3)] none = true := by
  simp only [regOp, List.all_cons, List.all_nil, rr_1_11, rr_1_12, rr_1_13, rr_1_21, rr_1_23, Bool.and_true]
theorem sh_5 : shOp 5 [(1, 1), (1, 2), (1, 3), (2, 1), (2, 3)] none = true := by kernel_rfl
theorem rw_5_11 : regRun 5 10 5 none (1, 1) = true := by kernel_rfl
theorem rw_5_12 : regRun 5 10 5 none (1, 2) = true := by kernel_rfl
theorem rw_5_13 : regRun 5 10 5 none (1, 3) = true := by kernel_rfl
theorem rw_5_21 : regRun 5 10 5 none (2, 1) = true := by kernel_rfl
theorem rw_5_23 : regRun 5 10 5 none (2, 3) = true := by kernel_rfl
theorem rw_5 : regOp 5 10 5 [(1, 1), (1, 2), (1, 3), (2, 1), (2, 3)] none = true := by
  simp only [regOp, List.all_cons, List.all_nil, rw_5_11, rw_5_12, rw_5_13, rw_5_21, rw_5_23, Bool.and_true]
theorem rr_5_11 : regRun 7 11 5 none (1, 1) = true := by kernel_rfl
theorem rr_5_12 : regRun 7 11 5 none (1, 2) = true := by kernel_rfl
theorem rr_5_13 : regRun 7 11 5 none (1, 3) = true := by kernel_rfl
theorem rr_5_21 : regRun 7 11 5 none (2, 1) = true := by kernel_rfl
theorem rr_5_23 : regRun 7 11 5 none (2, 3) = true := by kernel_rfl
theorem rr_5 : regOp 7 11 5 [(1, 1), (1, 2), (1, 3), (2, 1), (2, 3)] none = true := by
  simp only [regOp, List.all_cons, List.all_nil, rr_5_11, rr_5_12, rr_5_13, rr_5_21, rr_5_23, Bool.and_true]
theorem sh_9 : shOp 9 [(1, 1), (1, 3), (2, 1), (2, 3)] none = true := by kernel_rfl
theorem rw_9_11 : regRun 5 10 9 none (1, 1) = true := by kernel_rfl
theorem rw_9_13 : regRun 5 10 9 none (1, 3) = true := by kernel_rfl
theorem rw_9_21 : regRun 5 10 9 none (2, 1) = true := by kernel_rfl
theorem rw_9_23 : regRun 5 10 9 none (2, 3) = true := by kernel_rfl
theorem rw_9 : regOp 5 10 9 [(1, 1), (1, 3), (2, 1), (2, 3)] none = true := by
  simp only [regOp, List.all_cons, List.all_nil, rw_9_11, rw_9_13, rw_9_21, rw_9_23, Bool.and_true]
theorem rr_9_11 : regRun 7 11 9 none (1, 1) = true := by kernel_rfl
theorem rr_9_13 : regRun 7 11 9 none (1, 3) = true := by kernel_rfl
theorem rr_9_21 : regRun 7 11 9 none (2, 1) = true := by kernel_rfl
theorem rr_9_23 : regRun 7 11 9 none (2, 3) = true := by kernel_rfl
theorem rr_9 : regOp 7 11 9 [(1, 1), (1, 3), (2, 1), (2, 3)] none = true := by
  simp only [regOp, List.all_cons, List.all_nil, rr_9_11, rr_9_13, rr_9_21, rr_9_23, Bool.and_true]
theorem sh_13 : shOp 13 [(1, 2)] none = true := by kernel_rfl
theorem rw_13_12 : regRun 5 10 13 none (1, 2) = true := by kernel_rfl
theorem rw_13 : regOp 5 10 13 [(1, 2)] none = true := by
  simp only [regOp, List.all_cons, List.all_nil, rw_13_12, Bool.and_true]
theorem rr_13_12 : regRun 7 11 13 none (1, 2) = true := by kernel_rfl
theorem rr_13 : regOp 7 11 13 [(1, 2)] none = true := by
  simp only [regOp, List.all_cons, List.all_nil, rr_13_12, Bool.and_true]
theorem sh_17 : shOp 17 [(1, 0), (2, 0)] none = true := by kernel_rfl
theorem rw_17_10 : regRun 5 10 17 none (1, 0) = true := by kernel_rfl
theorem rw_17_20 : regRun 5 10 17 none (2, 0) = true := by kernel_rfl
theorem rw_17 : regOp 5 10 17 [(1, 0), (2, 0)] none = true := by
  simp only [regOp, List.all_cons, List.all_nil, rw_17_10, rw_17_20, Bool.and_true]
theorem rr_17_10 : regRun 7 11 17 none (1, 0) = true := by kernel_rfl
theorem rr_17_20 : regRun 7 11 17 none (2, 0) = true := by kernel_rfl
theorem rr_17 : regOp 7 11 17 [(1, 0), (2, 0)] none = true := by
  simp only [regOp, List.all_cons, List.all_nil, rr_17_10, rr_17_20, Bool.and_true]
theorem sh_21 : shOp 21 [(1, 0), (2, 0)] none = true := by kernel_rfl
theorem rw_21_10 : regRun 5 10 21 none (1, 0) = true := by kernel_rfl
theorem rw_21_20 : regRun 5 10 21 none (2, 0) = true := by kernel_rfl
theorem rw_21 : regOp 5 10 21 [(1, 0), (2, 0)] none = true := by
  simp only [regOp, List.all_cons, List.all_nil, rw_21_10, rw_21_20, Bool.and_true]
theorem rr_21_10 : regRun 7 11 21 none (1, 0) = true := by kernel_rfl
theorem rr_21_20 : regRun 7 11 21 none (2, 0) = true := by kernel_rfl
theorem rr_21 : regOp 7 11 21 [(1, 0), (2, 0)] none = true := by
  simp only [regOp, List.all_cons, List.all_nil, rr_21_10, rr_21_20, Bool.and_true]
theorem sh_25 : shOp 25 [(1, 1), (1, 2)] none = true := by kernel_rfl
theorem rw_25_11 : regRun 5 10 25 none (1, 1) = true := by kernel_rfl
theorem rw_25_12 : regRun 5 10 25 none (1, 2) = true := by kernel_rfl
theorem rw_25 : regOp 5 10 25 [(1, 1), (1, 2)] none = true := by
  simp only [regOp, List.all_cons, List.all_nil, rw_25_11, rw_25_12, Bool.and_true]
theorem rr_25_11 : regRun 7 11 25 none (1, 1) = true := by kernel_rfl
theorem rr_25_12 : regRun 7 11 25 none (1, 2) = true := by kernel_rfl
theorem rr_25 : regOp 7 11 25 [(1, 1), (1, 2)] none = true := by
  simp only [regOp, List.all_cons, List.all_nil, rr_25_11, rr_25_12, Bool.and_true]
theorem sh_29 : shOp 29 [(1, 1), (1, 3), (2, 1), (2, 3)] none = true := by kernel_rfl
theorem rw_29_11 : regRun 5 10 29 none (1, 1) = true := by kernel_rfl
theorem rw_29_13 : regRun 5 10 29 none (1, 3) = true := by kernel_rfl
theorem rw_29_21 : regRun 5 10 29 none (2, 1) = true := by kernel_rfl
theorem rw_29_23 : regRun 5 10 29 none (2, 3) = true := by kernel_rfl
theorem rw_29 : regOp 5 10 29 [(1, 1), (1, 3), (2, 1), (2, 3)] none = true := by
  simp only [regOp, List.all_cons, List.all_nil, rw_29_11, rw_29_13, rw_29_21, rw_29_23, Bool.and_true]
theorem rr_29_11 : regRun 7 11 29 none (1, 1) = true := by kernel_rfl
theorem rr_29_13 : regRun 7 11 29 none (1, 3) = true := by kernel_rfl
theorem rr_29_21 : regRun 7 11 29 none (2, 1) = true := by kernel_rfl
theorem rr_29_23 : regRun 7 11 29 none (2, 3) = true := by kernel_rfl
theorem rr_29 : regOp 7 11 29 [(1, 1), (1, 3), (2, 1), (2, 3)] none = true := by
  simp only [regOp, List.all_cons, List.all_nil, rr_29_11, rr_29_13, rr_29_21, rr_29_23, Bool.and_true]
theorem sh_33 : shOp 33 [(1, 1), (2, 1)] none = true := by kernel_rfl
theorem rw_33_11 : regRun 5 10 33 none (1, 1) = true := by kernel_rfl
theorem rw_33_21 : regRun 5 10 33 none (2, 1) = true := by kernel_rfl
theorem rw_33 : regOp 5 10 33 [(1, 1), (2, 1)] none = true := by
  simp only [regOp, List.all_cons, List.all_nil, rw_33_11, rw_33_21, Bool.and_true]
theorem rr_33_11 : regRun 7 11 33 none (1, 1) = true := by kernel_rfl
theorem rr_33_21 : regRun 7 11 33 none (2, 1) = true := by kernel_rfl
theorem rr_33 : regOp 7 11 33 [(1, 1), (2, 1)] none = true := by
  simp only [regOp, List.all_cons, List.all_nil, rr_33_11, rr_33_21, Bool.and_true]
theorem sh_37 : shOp 37 [(0, 0), (1, 0), (2, 0)] none = true := by kernel_rfl
theorem rw_37_00 : regRun 5 10 37 none (0, 0) = true := by kernel_rfl
theorem rw_37_10 : regRun 5 10 37 none (1, 0) = true := by kernel_rfl
theorem rw_37_20 : regRun 5 10 37 none (2, 0) = true := by kernel_rfl
theorem rw_37 : regOp 5 10 37 [(0, 0), (1, 0), (2, 0)] none = true := by
  simp only [regOp, List.all_cons, List.all_nil, rw_37_00, rw_37_10, rw_37_20, Bool.and_true]
theorem rr_37_00 : regRun 7 11 37 none (0, 0) = true := by kernel_rfl
theorem rr_37_10 : regRun 7 11 37 none (1, 0) = true := by kernel_rfl
theorem rr_37_20 : regRun 7 11 37 none (2, 0) = true := by kernel_rfl
theorem rr_37 : regOp 7 11 37 [(0, 0), (1, 0), (2, 0)] none = true := by
  simp only [regOp, List.all_cons, List.all_nil, rr_37_00, rr_37_10, rr_37_20, Bool.and_true]
theorem sh_41 : shOp 41 [(0, 0)] none = true := by kernel_rfl
theorem rw_41_00 : regRun 5 10 41 none (0, 0) = true := by kernel_rfl
theorem rw_41 : regOp 5 10 41 [(0, 0)] none = true := by
  simp only [regOp, List.all_cons, List.all_nil, rw_41_00, Bool.and_true]
theorem rr_41_00 : regRun 7 11 41 none (0, 0) = true := by kernel_rfl
theorem rr_41 : regOp 7 11 41 [(0, 0)] none = true := by
  simp only [regOp, List.all_cons, List.all_nil, rr_41_00, Bool.and_true]
theorem sh_45 : shOp 45 [(0, 0)] none = true := by kernel_rfl
theorem rw_45_00 : regRun 5 10 45 none (0, 0) = true := by kernel_rfl
theorem rw_45 : regOp 5 10 45 [(0, 0)] none = true := by
  simp only [regOp, List.all_cons, List.all_nil, rw_45_00, Bool.and_true]
theorem rr_45_00 : regRun 7 11 45 none (0, 0) = true := by kernel_rfl
theorem rr_45 : regOp 7 11 45 [(0, 0)] none = true := by
  simp only [regOp, List.all_cons, List.all_nil, rr_45_00, Bool.and_true]
end Go.Proofs.Ytbhhfbenajcinaa
