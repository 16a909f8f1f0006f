/- Layer 23: a step's value, worked in some registers: the runs, part 0. -/
import Derived.Test.YthcncbbnjbhdkaaGreatDoorSk
import Derived.KernelRfl
namespace Go.Proofs.YthcncbbnjbhdkaaGreatDoor
open Go Go.Proofs Go.RowKit Go.CX Go.SX Go.CX.Cp
set_option maxRecDepth 100000
theorem constK_f_1111 : constK false [1, 1, 1, 1] = true := by kernel_rfl
theorem constK_f_1121 : constK false [1, 1, 2, 1] = true := by kernel_rfl
theorem constK_f_1211 : constK false [1, 2, 1, 1] = true := by kernel_rfl
theorem constK_f_1221 : constK false [1, 2, 2, 1] = true := by kernel_rfl
theorem constK_f_2111 : constK false [2, 1, 1, 1] = true := by kernel_rfl
theorem constK_f_2121 : constK false [2, 1, 2, 1] = true := by kernel_rfl
theorem constK_f_2211 : constK false [2, 2, 1, 1] = true := by kernel_rfl
theorem constK_f_2221 : constK false [2, 2, 2, 1] = true := by kernel_rfl
theorem constK_f_0111 : constK false [0, 1, 1, 1] = true := by kernel_rfl
theorem constK_f_0121 : constK false [0, 1, 2, 1] = true := by kernel_rfl
theorem constK_f_0211 : constK false [0, 2, 1, 1] = true := by kernel_rfl
theorem constK_f_0221 : constK false [0, 2, 2, 1] = true := by kernel_rfl
theorem constK_f_1011 : constK false [1, 0, 1, 1] = true := by kernel_rfl
theorem constK_f_1021 : constK false [1, 0, 2, 1] = true := by kernel_rfl
theorem constK_f_1101 : constK false [1, 1, 0, 1] = true := by kernel_rfl
theorem constK_f_1110 : constK false [1, 1, 1, 0] = true := by kernel_rfl
theorem constK_f_1201 : constK false [1, 2, 0, 1] = true := by kernel_rfl
theorem constK_f_1210 : constK false [1, 2, 1, 0] = true := by kernel_rfl
theorem constK_f_2011 : constK false [2, 0, 1, 1] = true := by kernel_rfl
theorem constK_f_2021 : constK false [2, 0, 2, 1] = true := by kernel_rfl
theorem constK_f_2101 : constK false [2, 1, 0, 1] = true := by kernel_rfl
theorem constK_f_2110 : constK false [2, 1, 1, 0] = true := by kernel_rfl
theorem constK_f_2201 : constK false [2, 2, 0, 1] = true := by kernel_rfl
theorem constK_f_2210 : constK false [2, 2, 1, 0] = true := by kernel_rfl
theorem constK_f_0011 : constK false [0, 0, 1, 1] = true := by kernel_rfl
theorem constK_f_0021 : constK false [0, 0, 2, 1] = true := by kernel_rfl
theorem constK_f_0101 : constK false [0, 1, 0, 1] = true := by kernel_rfl
theorem constK_f_0110 : constK false [0, 1, 1, 0] = true := by kernel_rfl
theorem constK_f_0201 : constK false [0, 2, 0, 1] = true := by kernel_rfl
theorem constK_f_0210 : constK false [0, 2, 1, 0] = true := by kernel_rfl
theorem constK_f_1001 : constK false [1, 0, 0, 1] = true := by kernel_rfl
theorem constK_f_1010 : constK false [1, 0, 1, 0] = true := by kernel_rfl
theorem constK_f_1100 : constK false [1, 1, 0, 0] = true := by kernel_rfl
theorem constK_f_2001 : constK false [2, 0, 0, 1] = true := by kernel_rfl
theorem constK_f_2010 : constK false [2, 0, 1, 0] = true := by kernel_rfl
theorem constK_f_2100 : constK false [2, 1, 0, 0] = true := by kernel_rfl
theorem selK : workR [mayP subs0I, mayP (cselI 1)] [doneP subs0I, doneP (cselI 1)] opSel [] = true := by kernel_rfl
theorem aluK_7 : workR [mayP (do3 21 7)] [doneP (do3 21 7)] (opAlu 7) [] = true := by kernel_rfl
theorem aluK_11 : workR [mayP (do3 25 11)] [doneP (do3 25 11)] (opAlu 11) [] = true := by kernel_rfl
theorem aluK_15 : workR [mayP subsI, mayP (csincI 2)] [doneP subsI, doneP (csincI 2)] (opAlu 15) [] = true := by kernel_rfl
theorem extK_2_f : workR [mayP (fieldI 15 false)] [doneP (fieldI 15 false)] (opExt 2 false) [] = true := by kernel_rfl
theorem extK_8_f : workR [mayP (fieldI 63 false)] [doneP (fieldI 63 false)] (opExt 8 false) [] = true := by kernel_rfl
theorem constK_f_0002 : constK false [0, 0, 0, 2] = true := by kernel_rfl
theorem constK_t_0010 : constK true [0, 0, 1, 0] = true := by kernel_rfl
theorem constK_t_0100 : constK true [0, 1, 0, 0] = true := by kernel_rfl
theorem constK_t_1000 : constK true [1, 0, 0, 0] = true := by kernel_rfl
theorem constK_t_0000 : constK true [0, 0, 0, 0] = true := by kernel_rfl
theorem badK_4d : badK 4 (inF 1 17 ++ [w0, no n0F]) = true := by kernel_rfl
theorem badK_5b : badK 5 (f0 :: isW []) = true := by kernel_rfl
theorem badK_5d2 : badK 5 (f0 :: (isW [false, true, false, false] ++ [n0F, no o0F])) = true := by kernel_rfl
theorem badK_5d8 : badK 5 (f0 :: (isW [false, false, false, true] ++ [n0F, no o0F])) = true := by kernel_rfl
theorem badK_6d : badK 6 ([f0, w0, n0F, no o0F]) = true := by kernel_rfl
theorem badK_1d : badK 1 ([f0, w0, no o0F]) = true := by kernel_rfl
theorem noK_2l : noR opAny (apart1 ++ [(ixLt (.var 14) 0, true)]) = true := by kernel_rfl
theorem noK_3l : noR opAny (apart2 ++ [(ixLt (.var 15) 0, true)]) = true := by kernel_rfl
theorem noK_0h : noR opAny (apart3 ++ [(ixLt (.var 12) 0, false), (ixLt (.var 12) 31, false)]) = true := by kernel_rfl
end Go.Proofs.YthcncbbnjbhdkaaGreatDoor
