import Derived.Test.YtbhhfbenajcinaaSXx
import Derived.KernelRfl
import Derived.Test.YtbhhfbenajcinaaMd
namespace Go.Proofs.Ytbhhfbenajcinaa
open Go Go.SX Go.Proofs
theorem sh_3 : shOp 3 [(1, 1), (1, 2), (1, 3), (2, 1), (2, 3)] none = true := by kernel_rfl
theorem rw_3_11 : regRun 5 10 3 none (1, 1) = true := by kernel_rfl
theorem rw_3_12 : regRun 5 10 3 none (1, 2) = true := by kernel_rfl
theorem rw_3_13 : regRun 5 10 3 none (1, 3) = true := by kernel_rfl
theorem rw_3_21 : regRun 5 10 3 none (2, 1) = true := by kernel_rfl
theorem rw_3_23 : regRun 5 10 3 none (2, 3) = true := by kernel_rfl
theorem rw_3 : regOp 5 10 3 [(1, 1), (1, 2), (1, 3), (2, 1), (2, 3)] none = true := by
  simp only [regOp, List.all_cons, List.all_nil, rw_3_11, rw_3_12, rw_3_13, rw_3_21, rw_3_23, Bool.and_true]
theorem rr_3_11 : regRun 7 11 3 none (1, 1) = true := by kernel_rfl
theorem rr_3_12 : regRun 7 11 3 none (1, 2) = true := by kernel_rfl
theorem rr_3_13 : regRun 7 11 3 none (1, 3) = true := by kernel_rfl
theorem rr_3_21 : regRun 7 11 3 none (2, 1) = true := by kernel_rfl
theorem rr_3_23 : regRun 7 11 3 none (2, 3) = true := by kernel_rfl
theorem rr_3 : regOp 7 11 3 [(1, 1), (1, 2), (1, 3), (2, 1), (2, 3)] none = true := by
  simp only [regOp, List.all_cons, List.all_nil, rr_3_11, rr_3_12, rr_3_13, rr_3_21, rr_3_23, Bool.and_true]
theorem sh_7 : shOp 7 [(1, 1), (1, 2), (1, 3), (2, 1), (2, 3)] none = true := by kernel_rfl
theorem rw_7_11 : regRun 5 10 7 none (1, 1) = true := by kernel_rfl
theorem rw_7_12 : regRun 5 10 7 none (1, 2) = true := by kernel_rfl
theorem rw_7_13 : regRun 5 10 7 none (1, 3) = true := by kernel_rfl
theorem rw_7_21 : regRun 5 10 7 none (2, 1) = true := by kernel_rfl
theorem rw_7_23 : regRun 5 10 7 none (2, 3) = true := by kernel_rfl
theorem rw_7 : regOp 5 10 7 [(1, 1), (1, 2), (1, 3), (2, 1), (2, 3)] none = true := by
  simp only [regOp, List.all_cons, List.all_nil, rw_7_11, rw_7_12, rw_7_13, rw_7_21, rw_7_23, Bool.and_true]
theorem rr_7_11 : regRun 7 11 7 none (1, 1) = true := by kernel_rfl
theorem rr_7_12 : regRun 7 11 7 none (1, 2) = true := by kernel_rfl
theorem rr_7_13 : regRun 7 11 7 none (1, 3) = true := by kernel_rfl
theorem rr_7_21 : regRun 7 11 7 none (2, 1) = true := by kernel_rfl
theorem rr_7_23 : regRun 7 11 7 none (2, 3) = true := by kernel_rfl
theorem rr_7 : regOp 7 11 7 [(1, 1), (1, 2), (1, 3), (2, 1), (2, 3)] none = true := by
  simp only [regOp, List.all_cons, List.all_nil, rr_7_11, rr_7_12, rr_7_13, rr_7_21, rr_7_23, Bool.and_true]
theorem sh_11 : shOp 11 [(1, 1), (1, 2)] none = true := by kernel_rfl
theorem rw_11_11 : regRun 5 10 11 none (1, 1) = true := by kernel_rfl
theorem rw_11_12 : regRun 5 10 11 none (1, 2) = true := by kernel_rfl
theorem rw_11 : regOp 5 10 11 [(1, 1), (1, 2)] none = true := by
  simp only [regOp, List.all_cons, List.all_nil, rw_11_11, rw_11_12, Bool.and_true]
theorem rr_11_11 : regRun 7 11 11 none (1, 1) = true := by kernel_rfl
theorem rr_11_12 : regRun 7 11 11 none (1, 2) = true := by kernel_rfl
theorem rr_11 : regOp 7 11 11 [(1, 1), (1, 2)] none = true := by
  simp only [regOp, List.all_cons, List.all_nil, rr_11_11, rr_11_12, Bool.and_true]
theorem sh_15 : shOp 15 [(1, 0), (2, 0)] (some 8) = true := by kernel_rfl
theorem rw_15_10 : regRun 5 10 15 (some 8) (1, 0) = true := by kernel_rfl
theorem rw_15_20 : regRun 5 10 15 (some 8) (2, 0) = true := by kernel_rfl
theorem rw_15 : regOp 5 10 15 [(1, 0), (2, 0)] (some 8) = true := by
  simp only [regOp, List.all_cons, List.all_nil, rw_15_10, rw_15_20, Bool.and_true]
theorem rr_15_10 : regRun 7 11 15 (some 8) (1, 0) = true := by kernel_rfl
theorem rr_15_20 : regRun 7 11 15 (some 8) (2, 0) = true := by kernel_rfl
theorem rr_15 : regOp 7 11 15 [(1, 0), (2, 0)] (some 8) = true := by
  simp only [regOp, List.all_cons, List.all_nil, rr_15_10, rr_15_20, Bool.and_true]
theorem sh_19 : shOp 19 [(1, 0), (2, 0)] none = true := by kernel_rfl
theorem rw_19_10 : regRun 5 10 19 none (1, 0) = true := by kernel_rfl
theorem rw_19_20 : regRun 5 10 19 none (2, 0) = true := by kernel_rfl
theorem rw_19 : regOp 5 10 19 [(1, 0), (2, 0)] none = true := by
  simp only [regOp, List.all_cons, List.all_nil, rw_19_10, rw_19_20, Bool.and_true]
theorem rr_19_10 : regRun 7 11 19 none (1, 0) = true := by kernel_rfl
theorem rr_19_20 : regRun 7 11 19 none (2, 0) = true := by kernel_rfl
theorem rr_19 : regOp 7 11 19 [(1, 0), (2, 0)] none = true := by
  simp only [regOp, List.all_cons, List.all_nil, rr_19_10, rr_19_20, Bool.and_true]
theorem sh_23 : shOp 23 [(1, 0), (2, 0)] none = true := by kernel_rfl
theorem rw_23_10 : regRun 5 10 23 none (1, 0) = true := by kernel_rfl
theorem rw_23_20 : regRun 5 10 23 none (2, 0) = true := by kernel_rfl
theorem rw_23 : regOp 5 10 23 [(1, 0), (2, 0)] none = true := by
  simp only [regOp, List.all_cons, List.all_nil, rw_23_10, rw_23_20, Bool.and_true]
theorem rr_23_10 : regRun 7 11 23 none (1, 0) = true := by kernel_rfl
theorem rr_23_20 : regRun 7 11 23 none (2, 0) = true := by kernel_rfl
theorem rr_23 : regOp 7 11 23 [(1, 0), (2, 0)] none = true := by
  simp only [regOp, List.all_cons, List.all_nil, rr_23_10, rr_23_20, Bool.and_true]
theorem sh_27 : shOp 27 [(1, 1), (1, 3), (2, 1), (2, 3)] none = true := by kernel_rfl
theorem rw_27_11 : regRun 5 10 27 none (1, 1) = true := by kernel_rfl
theorem rw_27_13 : regRun 5 10 27 none (1, 3) = true := by kernel_rfl
theorem rw_27_21 : regRun 5 10 27 none (2, 1) = true := by kernel_rfl
theorem rw_27_23 : regRun 5 10 27 none (2, 3) = true := by kernel_rfl
theorem rw_27 : regOp 5 10 27 [(1, 1), (1, 3), (2, 1), (2, 3)] none = true := by
  simp only [regOp, List.all_cons, List.all_nil, rw_27_11, rw_27_13, rw_27_21, rw_27_23, Bool.and_true]
theorem rr_27_11 : regRun 7 11 27 none (1, 1) = true := by kernel_rfl
theorem rr_27_13 : regRun 7 11 27 none (1, 3) = true := by kernel_rfl
theorem rr_27_21 : regRun 7 11 27 none (2, 1) = true := by kernel_rfl
theorem rr_27_23 : regRun 7 11 27 none (2, 3) = true := by kernel_rfl
theorem rr_27 : regOp 7 11 27 [(1, 1), (1, 3), (2, 1), (2, 3)] none = true := by
  simp only [regOp, List.all_cons, List.all_nil, rr_27_11, rr_27_13, rr_27_21, rr_27_23, Bool.and_true]
theorem sh_31 : shOp 31 [(1, 1), (2, 1)] none = true := by kernel_rfl
theorem rw_31_11 : regRun 5 10 31 none (1, 1) = true := by kernel_rfl
theorem rw_31_21 : regRun 5 10 31 none (2, 1) = true := by kernel_rfl
theorem rw_31 : regOp 5 10 31 [(1, 1), (2, 1)] none = true := by
  simp only [regOp, List.all_cons, List.all_nil, rw_31_11, rw_31_21, Bool.and_true]
theorem rr_31_11 : regRun 7 11 31 none (1, 1) = true := by kernel_rfl
theorem rr_31_21 : regRun 7 11 31 none (2, 1) = true := by kernel_rfl
theorem rr_31 : regOp 7 11 31 [(1, 1), (2, 1)] none = true := by
  simp only [regOp, List.all_cons, List.all_nil, rr_31_11, rr_31_21, Bool.and_true]
theorem sh_35 : shOp 35 [(1, 0), (2, 0)] (some 1) = true := by kernel_rfl
theorem rw_35_10 : regRun 5 10 35 (some 1) (1, 0) = true := by kernel_rfl
theorem rw_35_20 : regRun 5 10 35 (some 1) (2, 0) = true := by kernel_rfl
theorem rw_35 : regOp 5 10 35 [(1, 0), (2, 0)] (some 1) = true := by
  simp only [regOp, List.all_cons, List.all_nil, rw_35_10, rw_35_20, Bool.and_true]
theorem rr_35_10 : regRun 7 11 35 (some 1) (1, 0) = true := by kernel_rfl
theorem rr_35_20 : regRun 7 11 35 (some 1) (2, 0) = true := by kernel_rfl
theorem rr_35 : regOp 7 11 35 [(1, 0), (2, 0)] (some 1) = true := by
  simp only [regOp, List.all_cons, List.all_nil, rr_35_10, rr_35_20, Bool.and_true]
theorem sh_39 : shOp 39 [(0, 0)] none = true := by kernel_rfl
theorem rw_39_00 : regRun 5 10 39 none (0, 0) = true := by kernel_rfl
theorem rw_39 : regOp 5 10 39 [(0, 0)] none = true := by
  simp only [regOp, List.all_cons, List.all_nil, rw_39_00, Bool.and_true]
theorem rr_39_00 : regRun 7 11 39 none (0, 0) = true := by kernel_rfl
theorem rr_39 : regOp 7 11 39 [(0, 0)] none = true := by
  simp only [regOp, List.all_cons, List.all_nil, rr_39_00, Bool.and_true]
theorem sh_43 : shOp 43 [(0, 0)] none = true := by kernel_rfl
theorem rw_43_00 : regRun 5 10 43 none (0, 0) = true := by kernel_rfl
theorem rw_43 : regOp 5 10 43 [(0, 0)] none = true := by
  simp only [regOp, List.all_cons, List.all_nil, rw_43_00, Bool.and_true]
theorem rr_43_00 : regRun 7 11 43 none (0, 0) = true := by kernel_rfl
theorem rr_43 : regOp 7 11 43 [(0, 0)] none = true := by
  simp only [regOp, List.all_cons, List.all_nil, rr_43_00, Bool.and_true]
theorem sh_47 : shOp 47 [(0, 0)] none = true := by kernel_rfl
theorem rw_47_00 : regRun 5 10 47 none (0, 0) = true := by kernel_rfl
theorem rw_47 : regOp 5 10 47 [(0, 0)] none = true := by
  simp only [regOp, List.all_cons, List.all_nil, rw_47_00, Bool.and_true]
theorem rr_47_00 : regRun 7 11 47 none (0, 0) = true := by kernel_rfl
theorem rr_47 : regOp 7 11 47 [(0, 0)] none = true := by
  simp only [regOp, List.all_cons, List.all_nil, rr_47_00, Bool.and_true]
end Go.Proofs.Ytbhhfbenajcinaa
