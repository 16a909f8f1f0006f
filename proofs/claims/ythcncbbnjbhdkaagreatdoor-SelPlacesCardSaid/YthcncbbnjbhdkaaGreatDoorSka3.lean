/- Layer 23: a step's value, worked in some registers: the runs, part 3. -/
import Derived.Test.YthcncbbnjbhdkaaGreatDoorSk
import Derived.KernelRfl
namespace Go.Proofs.YthcncbbnjbhdkaaGreatDoor
open Go Go.Proofs Go.RowKit Go.CX Go.SX Go.CX.Cp
set_option maxRecDepth 100000
theorem constK_t_1112 : constK true [1, 1, 1, 2] = true := by kernel_rfl
theorem constK_t_1122 : constK true [1, 1, 2, 2] = true := by kernel_rfl
theorem constK_t_1212 : constK true [1, 2, 1, 2] = true := by kernel_rfl
theorem constK_t_1222 : constK true [1, 2, 2, 2] = true := by kernel_rfl
theorem constK_t_2112 : constK true [2, 1, 1, 2] = true := by kernel_rfl
theorem constK_t_2122 : constK true [2, 1, 2, 2] = true := by kernel_rfl
theorem constK_t_2212 : constK true [2, 2, 1, 2] = true := by kernel_rfl
theorem constK_t_2222 : constK true [2, 2, 2, 2] = true := by kernel_rfl
theorem constK_t_0112 : constK true [0, 1, 1, 2] = true := by kernel_rfl
theorem constK_t_0122 : constK true [0, 1, 2, 2] = true := by kernel_rfl
theorem constK_t_0212 : constK true [0, 2, 1, 2] = true := by kernel_rfl
theorem constK_t_0222 : constK true [0, 2, 2, 2] = true := by kernel_rfl
theorem constK_t_1012 : constK true [1, 0, 1, 2] = true := by kernel_rfl
theorem constK_t_1022 : constK true [1, 0, 2, 2] = true := by kernel_rfl
theorem constK_t_1102 : constK true [1, 1, 0, 2] = true := by kernel_rfl
theorem constK_t_1120 : constK true [1, 1, 2, 0] = true := by kernel_rfl
theorem constK_t_1202 : constK true [1, 2, 0, 2] = true := by kernel_rfl
theorem constK_t_1220 : constK true [1, 2, 2, 0] = true := by kernel_rfl
theorem constK_t_2012 : constK true [2, 0, 1, 2] = true := by kernel_rfl
theorem constK_t_2022 : constK true [2, 0, 2, 2] = true := by kernel_rfl
theorem constK_t_2102 : constK true [2, 1, 0, 2] = true := by kernel_rfl
theorem constK_t_2120 : constK true [2, 1, 2, 0] = true := by kernel_rfl
theorem constK_t_2202 : constK true [2, 2, 0, 2] = true := by kernel_rfl
theorem constK_t_2220 : constK true [2, 2, 2, 0] = true := by kernel_rfl
theorem constK_t_0012 : constK true [0, 0, 1, 2] = true := by kernel_rfl
theorem constK_t_0022 : constK true [0, 0, 2, 2] = true := by kernel_rfl
theorem constK_t_0102 : constK true [0, 1, 0, 2] = true := by kernel_rfl
theorem constK_t_0120 : constK true [0, 1, 2, 0] = true := by kernel_rfl
theorem constK_t_0202 : constK true [0, 2, 0, 2] = true := by kernel_rfl
theorem constK_t_0220 : constK true [0, 2, 2, 0] = true := by kernel_rfl
theorem constK_t_1002 : constK true [1, 0, 0, 2] = true := by kernel_rfl
theorem constK_t_1020 : constK true [1, 0, 2, 0] = true := by kernel_rfl
theorem constK_t_1200 : constK true [1, 2, 0, 0] = true := by kernel_rfl
theorem constK_t_2002 : constK true [2, 0, 0, 2] = true := by kernel_rfl
theorem constK_t_2020 : constK true [2, 0, 2, 0] = true := by kernel_rfl
theorem constK_t_2200 : constK true [2, 2, 0, 0] = true := by kernel_rfl
theorem aluK_3 : workR [mayP (bin3 9 .and)] [doneP (bin3 9 .and)] (opAlu 3) [] = true := by kernel_rfl
theorem aluK_6 : workR [mayP (maddI)] [doneP (maddI)] (opAlu 6) [] = true := by kernel_rfl
theorem aluK_10 : workR [mayP (do3 24 10)] [doneP (do3 24 10)] (opAlu 10) [] = true := by kernel_rfl
theorem aluK_14 : workR [mayP subsI, mayP (csincI 1)] [doneP subsI, doneP (csincI 1)] (opAlu 14) [] = true := by kernel_rfl
theorem extK_1_t : workR [mayP (fieldI 7 true)] [doneP (fieldI 7 true)] (opExt 1 true) [] = true := by kernel_rfl
theorem extK_4_t : workR [mayP (fieldI 31 true)] [doneP (fieldI 31 true)] (opExt 4 true) [] = true := by kernel_rfl
theorem constK_t_0001 : constK true [0, 0, 0, 1] = true := by kernel_rfl
theorem constK_f_0010 : constK false [0, 0, 1, 0] = true := by kernel_rfl
theorem constK_f_0100 : constK false [0, 1, 0, 0] = true := by kernel_rfl
theorem constK_f_1000 : constK false [1, 0, 0, 0] = true := by kernel_rfl
theorem constK_f_0000 : constK false [0, 0, 0, 0] = true := by kernel_rfl
theorem badK_4c : badK 4 (inF 1 17 ++ [no w0]) = true := by kernel_rfl
theorem badK_5a : badK 5 ([no f0]) = true := by kernel_rfl
theorem badK_5c2 : badK 5 (f0 :: (isW [false, true, false, false] ++ [no n0F])) = true := by kernel_rfl
theorem badK_5c8 : badK 5 (f0 :: (isW [false, false, false, true] ++ [no n0F])) = true := by kernel_rfl
theorem badK_6c : badK 6 ([f0, w0, no n0F]) = true := by kernel_rfl
theorem badK_1b : badK 1 ([f0, no w0]) = true := by kernel_rfl
theorem noK_1h : noR opAny ([] ++ [(ixLt (.var 13) 0, false), (ixLt (.var 13) 31, false)]) = true := by kernel_rfl
theorem noK_2h : noR opAny (apart1 ++ [(ixLt (.var 14) 0, false), (ixLt (.var 14) 31, false)]) = true := by kernel_rfl
theorem noK_3e : noR opAny (apart2 ++ (regK 15 ++ [(.cmp .eql (.var 15) (.var 13), true)])) = true := by kernel_rfl
end Go.Proofs.YthcncbbnjbhdkaaGreatDoor
