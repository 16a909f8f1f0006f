/- Layer 23: the instructions of a step, by their forms: their runs. -/
import Derived.Test.YthcncbbnjbhdkaaGreatDoorSy
import Derived.Test.YthcncbbnjbhdkaaGreatDoorDo
import Derived.KernelRfl
namespace Go.Proofs.YthcncbbnjbhdkaaGreatDoor
open Go Go.Proofs Go.RowKit Go.CX Go.SX Go.CX.Cp
set_option maxRecDepth 100000
theorem rgetX_sum : sumR syX (rgetM 52) 1 31 = true := by kernel_rfl
theorem rsetX_sum : sumR syX (rsetM 15) 1 31 = true := by kernel_rfl
theorem rholdX_sum : sumR syX (rholdM 51) 1 16 = true := by kernel_rfl
theorem hold_1 : holdR 1 = true := by kernel_rfl
theorem hold_2 : holdR 2 = true := by kernel_rfl
theorem hold_10 : holdR 10 = true := by kernel_rfl
theorem ex_do_7 : exT (doE 7) = true := by kernel_rfl
theorem ex_field_7_t : exT (fieldE 7 true) = true := by kernel_rfl
theorem ex_field_31_f : exT (fieldE 31 false) = true := by kernel_rfl
theorem ex_field_63_t : exT (fieldE 63 true) = true := by kernel_rfl
theorem mayX_bin_11 : mayT syX (bin3 11 .xor) = true := by kernel_rfl
theorem doneX_bin_11 : doneY (bin3 11 .xor) = true := by kernel_rfl
theorem mayX_do3_23 : mayT syX (do3 23 9) = true := by kernel_rfl
theorem doneX_do3_23 : doneY (do3 23 9) = true := by kernel_rfl
theorem mayX_do3_26 : mayT syX (do3 26 12) = true := by kernel_rfl
theorem doneX_do3_26 : doneY (do3 26 12) = true := by kernel_rfl
theorem mayX_subs0 : mayT syX subs0I = true := by kernel_rfl
theorem doneX_subs0 : doneY subs0I = true := by kernel_rfl
theorem mayX_csinc_1 : mayT syX (csincI 1) = true := by kernel_rfl
theorem doneX_csinc_1 : doneY (csincI 1) = true := by kernel_rfl
theorem mayX_fld_7_f : mayT syX (fieldI 7 false) = true := by kernel_rfl
theorem doneX_fld_7_f : doneY (fieldI 7 false) = true := by kernel_rfl
theorem mayX_fld_15_t : mayT syX (fieldI 15 true) = true := by kernel_rfl
theorem doneX_fld_15_t : doneY (fieldI 15 true) = true := by kernel_rfl
theorem mayX_fld_63_f : mayT syX (fieldI 63 false) = true := by kernel_rfl
theorem doneX_fld_63_f : doneY (fieldI 63 false) = true := by kernel_rfl
theorem mayX_17 : mayT syX (wideI 17) = true := by kernel_rfl
theorem mayX_14 : mayT syX orriI = true := by kernel_rfl
theorem doneX_17_2 : doneYW (movnI 2) (wideI 17) = true := by kernel_rfl
theorem doneX_18_2 : doneYW (movkI 2) (wideI 18) = true := by kernel_rfl
theorem ex_do_9 : exT (doE 9) = true := by kernel_rfl
theorem ex_do_11 : exT (doE 11) = true := by kernel_rfl
end Go.Proofs.YthcncbbnjbhdkaaGreatDoor
