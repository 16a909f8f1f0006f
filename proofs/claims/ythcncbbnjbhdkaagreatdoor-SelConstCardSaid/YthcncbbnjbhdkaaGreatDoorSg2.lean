/- Layer 23: a number in a register: the runs, part 2. -/
import Derived.Test.YthcncbbnjbhdkaaGreatDoorSf
import Derived.KernelRfl
namespace Go.Proofs.YthcncbbnjbhdkaaGreatDoor
open Go Go.Proofs Go.RowKit Go.CX Go.SX Go.CX.Cp
set_option maxRecDepth 100000
theorem const_f_0002 : constR false [0, 0, 0, 2] = true := by kernel_rfl
theorem const_t_0002 : constR true [0, 0, 0, 2] = true := by kernel_rfl
theorem const_f_0020 : constR false [0, 0, 2, 0] = true := by kernel_rfl
theorem const_t_0020 : constR true [0, 0, 2, 0] = true := by kernel_rfl
theorem const_f_0101 : constR false [0, 1, 0, 1] = true := by kernel_rfl
theorem const_t_0101 : constR true [0, 1, 0, 1] = true := by kernel_rfl
theorem const_f_0112 : constR false [0, 1, 1, 2] = true := by kernel_rfl
theorem const_t_0112 : constR true [0, 1, 1, 2] = true := by kernel_rfl
theorem const_f_0200 : constR false [0, 2, 0, 0] = true := by kernel_rfl
theorem const_t_0200 : constR true [0, 2, 0, 0] = true := by kernel_rfl
theorem const_f_0211 : constR false [0, 2, 1, 1] = true := by kernel_rfl
theorem const_t_0211 : constR true [0, 2, 1, 1] = true := by kernel_rfl
theorem const_f_0222 : constR false [0, 2, 2, 2] = true := by kernel_rfl
theorem const_t_0222 : constR true [0, 2, 2, 2] = true := by kernel_rfl
theorem const_f_1010 : constR false [1, 0, 1, 0] = true := by kernel_rfl
theorem const_t_1010 : constR true [1, 0, 1, 0] = true := by kernel_rfl
theorem const_f_1021 : constR false [1, 0, 2, 1] = true := by kernel_rfl
theorem const_t_1021 : constR true [1, 0, 2, 1] = true := by kernel_rfl
theorem const_f_1102 : constR false [1, 1, 0, 2] = true := by kernel_rfl
theorem const_t_1102 : constR true [1, 1, 0, 2] = true := by kernel_rfl
theorem const_f_1120 : constR false [1, 1, 2, 0] = true := by kernel_rfl
theorem const_t_1120 : constR true [1, 1, 2, 0] = true := by kernel_rfl
theorem const_f_1201 : constR false [1, 2, 0, 1] = true := by kernel_rfl
theorem const_t_1201 : constR true [1, 2, 0, 1] = true := by kernel_rfl
theorem const_f_1212 : constR false [1, 2, 1, 2] = true := by kernel_rfl
theorem const_t_1212 : constR true [1, 2, 1, 2] = true := by kernel_rfl
theorem const_f_2000 : constR false [2, 0, 0, 0] = true := by kernel_rfl
theorem const_t_2000 : constR true [2, 0, 0, 0] = true := by kernel_rfl
theorem const_f_2011 : constR false [2, 0, 1, 1] = true := by kernel_rfl
theorem const_t_2011 : constR true [2, 0, 1, 1] = true := by kernel_rfl
theorem const_f_2022 : constR false [2, 0, 2, 2] = true := by kernel_rfl
theorem const_t_2022 : constR true [2, 0, 2, 2] = true := by kernel_rfl
theorem const_f_2110 : constR false [2, 1, 1, 0] = true := by kernel_rfl
theorem const_t_2110 : constR true [2, 1, 1, 0] = true := by kernel_rfl
theorem const_f_2121 : constR false [2, 1, 2, 1] = true := by kernel_rfl
theorem const_t_2121 : constR true [2, 1, 2, 1] = true := by kernel_rfl
theorem const_f_2202 : constR false [2, 2, 0, 2] = true := by kernel_rfl
theorem const_t_2202 : constR true [2, 2, 0, 2] = true := by kernel_rfl
theorem const_f_2220 : constR false [2, 2, 2, 0] = true := by kernel_rfl
theorem const_t_2220 : constR true [2, 2, 2, 0] = true := by kernel_rfl
end Go.Proofs.YthcncbbnjbhdkaaGreatDoor
