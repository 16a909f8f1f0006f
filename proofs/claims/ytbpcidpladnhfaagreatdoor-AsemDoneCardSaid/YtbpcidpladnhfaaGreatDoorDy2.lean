/- Layer 22: instructions of a kind, done, carried out: part 3. -/
import Derived.Test.YtbpcidpladnhfaaGreatDoorDx
import Derived.KernelRfl
namespace Go.Proofs.YtbpcidpladnhfaaGreatDoor
open Go Go.Proofs Go.RowKit Go.CX Go.SX Go.CX.Cp
set_option maxRecDepth 100000
theorem done_2_8 : doneR 2 8 = true := by kernel_rfl
theorem done_6_8 : doneR 6 8 = true := by kernel_rfl
theorem done_10_8 : doneR 10 8 = true := by kernel_rfl
theorem done_14_8 : doneR 14 8 = true := by kernel_rfl
theorem dones_16_2 : doneS 16 2 = true := by kernel_rfl
theorem dones_17_2 : doneS 17 2 = true := by kernel_rfl
theorem dones_18_2 : doneS 18 2 = true := by kernel_rfl
theorem done_21_8 : doneR 21 8 = true := by kernel_rfl
theorem done_25_8 : doneR 25 8 = true := by kernel_rfl
theorem donef_29 : doneF 29 = true := by kernel_rfl
theorem done_33_1 : doneR 33 1 = true := by kernel_rfl
theorem done_34_1 : doneR 34 1 = true := by kernel_rfl
theorem done_35_1 : doneR 35 1 = true := by kernel_rfl
theorem done_36_1 : doneR 36 1 = true := by kernel_rfl
theorem done_37_1 : doneR 37 1 = true := by kernel_rfl
theorem done_38_1 : doneR 38 1 = true := by kernel_rfl
theorem done_39_8 : doneR 39 8 = true := by kernel_rfl
theorem done_43_8 : doneR 43 8 = true := by kernel_rfl
theorem done_47_8 : doneR 47 8 = true := by kernel_rfl
end Go.Proofs.YtbpcidpladnhfaaGreatDoor
