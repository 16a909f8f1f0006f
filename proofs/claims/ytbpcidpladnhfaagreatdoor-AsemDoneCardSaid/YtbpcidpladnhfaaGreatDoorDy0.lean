/- Layer 22: instructions of a kind, done, carried out: part 1. -/
import Derived.Test.YtbpcidpladnhfaaGreatDoorDx
import Derived.KernelRfl
namespace Go.Proofs.YtbpcidpladnhfaaGreatDoor
open Go Go.Proofs Go.RowKit Go.CX Go.SX Go.CX.Cp
set_option maxRecDepth 100000
theorem done_no : runD22 esA22 [] false = true := by kernel_rfl
theorem done_4_8 : doneR 4 8 = true := by kernel_rfl
theorem done_8_8 : doneR 8 8 = true := by kernel_rfl
theorem done_12_8 : doneR 12 8 = true := by kernel_rfl
theorem dones_16_0 : doneS 16 0 = true := by kernel_rfl
theorem dones_17_0 : doneS 17 0 = true := by kernel_rfl
theorem dones_18_0 : doneS 18 0 = true := by kernel_rfl
theorem done_19_8 : doneR 19 8 = true := by kernel_rfl
theorem done_23_8 : doneR 23 8 = true := by kernel_rfl
theorem done_27_8 : doneR 27 8 = true := by kernel_rfl
theorem done_31_8 : doneR 31 8 = true := by kernel_rfl
theorem done_33_4 : doneR 33 4 = true := by kernel_rfl
theorem done_34_4 : doneR 34 4 = true := by kernel_rfl
theorem done_35_4 : doneR 35 4 = true := by kernel_rfl
theorem done_36_4 : doneR 36 4 = true := by kernel_rfl
theorem done_37_4 : doneR 37 4 = true := by kernel_rfl
theorem done_38_4 : doneR 38 4 = true := by kernel_rfl
theorem done_41_8 : doneR 41 8 = true := by kernel_rfl
theorem done_45_8 : doneR 45 8 = true := by kernel_rfl
end Go.Proofs.YtbpcidpladnhfaaGreatDoor
