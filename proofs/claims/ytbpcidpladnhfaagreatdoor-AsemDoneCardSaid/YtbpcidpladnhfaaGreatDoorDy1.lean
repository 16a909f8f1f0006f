/- Layer 22: instructions of a kind, done, carried out: part 2. -/
import Derived.Test.YtbpcidpladnhfaaGreatDoorDx
import Derived.KernelRfl
namespace Go.Proofs.YtbpcidpladnhfaaGreatDoor
open Go Go.Proofs Go.RowKit Go.CX Go.SX Go.CX.Cp
set_option maxRecDepth 100000
theorem done_1_8 : doneR 1 8 = true := by kernel_rfl
theorem done_5_8 : doneR 5 8 = true := by kernel_rfl
theorem done_9_8 : doneR 9 8 = true := by kernel_rfl
theorem done_13_8 : doneR 13 8 = true := by kernel_rfl
theorem dones_16_1 : doneS 16 1 = true := by kernel_rfl
theorem dones_17_1 : doneS 17 1 = true := by kernel_rfl
theorem dones_18_1 : doneS 18 1 = true := by kernel_rfl
theorem done_20_8 : doneR 20 8 = true := by kernel_rfl
theorem done_24_8 : doneR 24 8 = true := by kernel_rfl
theorem done_28_8 : doneR 28 8 = true := by kernel_rfl
theorem done_32_8 : doneR 32 8 = true := by kernel_rfl
theorem done_33_8 : doneR 33 8 = true := by kernel_rfl
theorem done_34_8 : doneR 34 8 = true := by kernel_rfl
theorem done_35_8 : doneR 35 8 = true := by kernel_rfl
theorem done_36_8 : doneR 36 8 = true := by kernel_rfl
theorem done_37_8 : doneR 37 8 = true := by kernel_rfl
theorem done_38_8 : doneR 38 8 = true := by kernel_rfl
theorem done_42_8 : doneR 42 8 = true := by kernel_rfl
theorem done_46_8 : doneR 46 8 = true := by kernel_rfl
end Go.Proofs.YtbpcidpladnhfaaGreatDoor
