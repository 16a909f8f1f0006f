/- Layer 22: instructions of a kind, done, carried out: part 4. -/
import Derived.Test.YtbpcidpladnhfaaGreatDoorDx
import Derived.KernelRfl
namespace Go.Proofs.YtbpcidpladnhfaaGreatDoor
open Go Go.Proofs Go.RowKit Go.CX Go.SX Go.CX.Cp
set_option maxRecDepth 100000
theorem done_3_8 : doneR 3 8 = true := by kernel_rfl
theorem done_7_8 : doneR 7 8 = true := by kernel_rfl
theorem done_11_8 : doneR 11 8 = true := by kernel_rfl
theorem done_15_8 : doneR 15 8 = true := by kernel_rfl
theorem dones_16_3 : doneS 16 3 = true := by kernel_rfl
theorem dones_17_3 : doneS 17 3 = true := by kernel_rfl
theorem dones_18_3 : doneS 18 3 = true := by kernel_rfl
theorem done_22_8 : doneR 22 8 = true := by kernel_rfl
theorem done_26_8 : doneR 26 8 = true := by kernel_rfl
theorem donef_30 : doneF 30 = true := by kernel_rfl
theorem done_33_2 : doneR 33 2 = true := by kernel_rfl
theorem done_34_2 : doneR 34 2 = true := by kernel_rfl
theorem done_35_2 : doneR 35 2 = true := by kernel_rfl
theorem done_36_2 : doneR 36 2 = true := by kernel_rfl
theorem done_37_2 : doneR 37 2 = true := by kernel_rfl
theorem done_38_2 : doneR 38 2 = true := by kernel_rfl
theorem done_40_8 : doneR 40 8 = true := by kernel_rfl
theorem done_44_8 : doneR 44 8 = true := by kernel_rfl
end Go.Proofs.YtbpcidpladnhfaaGreatDoor
