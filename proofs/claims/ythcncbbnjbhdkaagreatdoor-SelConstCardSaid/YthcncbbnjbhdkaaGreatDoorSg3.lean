/- Layer 23: a number in a register: the runs, part 3. -/
import Derived.Test.YthcncbbnjbhdkaaGreatDoorSf
import Derived.KernelRfl
namespace Go.Proofs.YthcncbbnjbhdkaaGreatDoor
open Go Go.Proofs Go.RowKit Go.CX Go.SX Go.CX.Cp
set_option maxRecDepth 100000
theorem const_f_0010 : constR false [0, 0, 1, 0] = true := by kernel_rfl
theorem const_t_0010 : constR true [0, 0, 1, 0] = true := by kernel_rfl
theorem const_f_0021 : constR false [0, 0, 2, 1] = true := by kernel_rfl
theorem const_t_0021 : constR true [0, 0, 2, 1] = true := by kernel_rfl
theorem const_f_0102 : constR false [0, 1, 0, 2] = true := by kernel_rfl
theorem const_t_0102 : constR true [0, 1, 0, 2] = true := by kernel_rfl
theorem const_f_0120 : constR false [0, 1, 2, 0] = true := by kernel_rfl
theorem const_t_0120 : constR true [0, 1, 2, 0] = true := by kernel_rfl
theorem const_f_0201 : constR false [0, 2, 0, 1] = true := by kernel_rfl
theorem const_t_0201 : constR true [0, 2, 0, 1] = true := by kernel_rfl
theorem const_f_0212 : constR false [0, 2, 1, 2] = true := by kernel_rfl
theorem const_t_0212 : constR true [0, 2, 1, 2] = true := by kernel_rfl
theorem const_f_1000 : constR false [1, 0, 0, 0] = true := by kernel_rfl
theorem const_t_1000 : constR true [1, 0, 0, 0] = true := by kernel_rfl
theorem const_f_1011 : constR false [1, 0, 1, 1] = true := by kernel_rfl
theorem const_t_1011 : constR true [1, 0, 1, 1] = true := by kernel_rfl
theorem const_f_1022 : constR false [1, 0, 2, 2] = true := by kernel_rfl
theorem const_t_1022 : constR true [1, 0, 2, 2] = true := by kernel_rfl
theorem const_f_1110 : constR false [1, 1, 1, 0] = true := by kernel_rfl
theorem const_t_1110 : constR true [1, 1, 1, 0] = true := by kernel_rfl
theorem const_f_1121 : constR false [1, 1, 2, 1] = true := by kernel_rfl
theorem const_t_1121 : constR true [1, 1, 2, 1] = true := by kernel_rfl
theorem const_f_1202 : constR false [1, 2, 0, 2] = true := by kernel_rfl
theorem const_t_1202 : constR true [1, 2, 0, 2] = true := by kernel_rfl
theorem const_f_1220 : constR false [1, 2, 2, 0] = true := by kernel_rfl
theorem const_t_1220 : constR true [1, 2, 2, 0] = true := by kernel_rfl
theorem const_f_2001 : constR false [2, 0, 0, 1] = true := by kernel_rfl
theorem const_t_2001 : constR true [2, 0, 0, 1] = true := by kernel_rfl
theorem const_f_2012 : constR false [2, 0, 1, 2] = true := by kernel_rfl
theorem const_t_2012 : constR true [2, 0, 1, 2] = true := by kernel_rfl
theorem const_f_2100 : constR false [2, 1, 0, 0] = true := by kernel_rfl
theorem const_t_2100 : constR true [2, 1, 0, 0] = true := by kernel_rfl
theorem const_f_2111 : constR false [2, 1, 1, 1] = true := by kernel_rfl
theorem const_t_2111 : constR true [2, 1, 1, 1] = true := by kernel_rfl
theorem const_f_2122 : constR false [2, 1, 2, 2] = true := by kernel_rfl
theorem const_t_2122 : constR true [2, 1, 2, 2] = true := by kernel_rfl
theorem const_f_2210 : constR false [2, 2, 1, 0] = true := by kernel_rfl
theorem const_t_2210 : constR true [2, 2, 1, 0] = true := by kernel_rfl
theorem const_f_2221 : constR false [2, 2, 2, 1] = true := by kernel_rfl
theorem const_t_2221 : constR true [2, 2, 2, 1] = true := by kernel_rfl
end Go.Proofs.YthcncbbnjbhdkaaGreatDoor
