/- Walks of layer 13: each function of two words, of the code and of the document's own answers. -/
import Derived.Test.YtebbokaocobmgaaGreatDoorDa
namespace Go.Proofs.YtebbokaocobmgaaGreatDoor
open Go Go.RowKit
open Cq (U64 I64 isW nb zx sx neg mhi mlo shi)
set_option maxRecDepth 100000
set_option linter.unusedVariables false
theorem do_1 (a b : Int) (ha : U64 a) (hb : U64 b) (W : World) : Calls Tryz.prog 4 #[.int .i64 1, .int .u64 a, .int .u64 b] W fun e W' => e = .returned (.int .u64 (IntKind.u64.wrap (a + b))) ∧ W' = W := by
  go_enter Tryz.func4, Tryz.ntmps4
  go_wp2_with fail
  go_ret
  exact ⟨rfl, rfl⟩
theorem rdo_1 (a b : Int) (ha : U64 a) (hb : U64 b) (W : World) : Calls Tryz.prog 5 #[.int .i64 1, .int .u64 a, .int .u64 b] W fun e W' => e = .returned (.int .u64 (IntKind.u64.wrap (a + b))) ∧ Kp W W' := by
  have hc := ftab_cell W 1 (by decide)
  rw [show str (ftab.getD 1 []) = .string ⟨#[97, 100, 100]⟩ from rfl] at hc
  have ha0 := ha.1
  have hb0 := hb.1
  go_enter Tryz.func5, Tryz.ntmps5
  go_wp2_with fail
  refine (functions_any _).mono ?_; rintro e w' ⟨rfl, rfl⟩
  go_wp2_with fail
  go_ret
  exact ⟨rfl, (Kp.rfl W).new _⟩
theorem do_2 (a b : Int) (ha : U64 a) (hb : U64 b) (W : World) : Calls Tryz.prog 4 #[.int .i64 2, .int .u64 a, .int .u64 b] W fun e W' => e = .returned (.int .u64 (IntKind.u64.wrap (a - b))) ∧ W' = W := by
  go_enter Tryz.func4, Tryz.ntmps4
  go_wp2_with fail
  go_ret
  exact ⟨rfl, rfl⟩
theorem rdo_2 (a b : Int) (ha : U64 a) (hb : U64 b) (W : World) : Calls Tryz.prog 5 #[.int .i64 2, .int .u64 a, .int .u64 b] W fun e W' => e = .returned (.int .u64 (IntKind.u64.wrap (a - b))) ∧ Kp W W' := by
  have hc := ftab_cell W 2 (by decide)
  rw [show str (ftab.getD 2 []) = .string ⟨#[115, 117, 98]⟩ from rfl] at hc
  have ha0 := ha.1
  have hb0 := hb.1
  go_enter Tryz.func5, Tryz.ntmps5
  go_wp2_with fail
  refine (functions_any _).mono ?_; rintro e w' ⟨rfl, rfl⟩
  go_wp2_with fail
  go_ret
  exact ⟨rfl, (Kp.rfl W).new _⟩
theorem do_3 (a b : Int) (ha : U64 a) (hb : U64 b) (W : World) : Calls Tryz.prog 4 #[.int .i64 3, .int .u64 a, .int .u64 b] W fun e W' => e = .returned (.int .u64 (bits .and .u64 a b)) ∧ W' = W := by
  go_enter Tryz.func4, Tryz.ntmps4
  go_wp2_with fail
  go_ret
  exact ⟨rfl, rfl⟩
theorem rdo_3 (a b : Int) (ha : U64 a) (hb : U64 b) (W : World) : Calls Tryz.prog 5 #[.int .i64 3, .int .u64 a, .int .u64 b] W fun e W' => e = .returned (.int .u64 (bits .and .u64 a b)) ∧ Kp W W' := by
  have hc := ftab_cell W 3 (by decide)
  rw [show str (ftab.getD 3 []) = .string ⟨#[97, 110, 100]⟩ from rfl] at hc
  have ha0 := ha.1
  have hb0 := hb.1
  go_enter Tryz.func5, Tryz.ntmps5
  go_wp2_with fail
  refine (functions_any _).mono ?_; rintro e w' ⟨rfl, rfl⟩
  go_wp2_with fail
  go_ret
  exact ⟨rfl, (Kp.rfl W).new _⟩
theorem do_4 (a b : Int) (ha : U64 a) (hb : U64 b) (W : World) : Calls Tryz.prog 4 #[.int .i64 4, .int .u64 a, .int .u64 b] W fun e W' => e = .returned (.int .u64 (bits .or .u64 a b)) ∧ W' = W := by
  go_enter Tryz.func4, Tryz.ntmps4
  go_wp2_with fail
  go_ret
  exact ⟨rfl, rfl⟩
theorem rdo_4 (a b : Int) (ha : U64 a) (hb : U64 b) (W : World) : Calls Tryz.prog 5 #[.int .i64 4, .int .u64 a, .int .u64 b] W fun e W' => e = .returned (.int .u64 (bits .or .u64 a b)) ∧ Kp W W' := by
  have hc := ftab_cell W 4 (by decide)
  rw [show str (ftab.getD 4 []) = .string ⟨#[111, 114]⟩ from rfl] at hc
  have ha0 := ha.1
  have hb0 := hb.1
  go_enter Tryz.func5, Tryz.ntmps5
  go_wp2_with fail
  refine (functions_any _).mono ?_; rintro e w' ⟨rfl, rfl⟩
  go_wp2_with fail
  go_ret
  exact ⟨rfl, (Kp.rfl W).new _⟩
theorem do_5 (a b : Int) (ha : U64 a) (hb : U64 b) (W : World) : Calls Tryz.prog 4 #[.int .i64 5, .int .u64 a, .int .u64 b] W fun e W' => e = .returned (.int .u64 (bits .xor .u64 a b)) ∧ W' = W := by
  go_enter Tryz.func4, Tryz.ntmps4
  go_wp2_with fail
  go_ret
  exact ⟨rfl, rfl⟩
theorem rdo_5 (a b : Int) (ha : U64 a) (hb : U64 b) (W : World) : Calls Tryz.prog 5 #[.int .i64 5, .int .u64 a, .int .u64 b] W fun e W' => e = .returned (.int .u64 (bits .xor .u64 a b)) ∧ Kp W W' := by
  have hc := ftab_cell W 5 (by decide)
  rw [show str (ftab.getD 5 []) = .string ⟨#[120, 111, 114]⟩ from rfl] at hc
  have ha0 := ha.1
  have hb0 := hb.1
  go_enter Tryz.func5, Tryz.ntmps5
  go_wp2_with fail
  refine (functions_any _).mono ?_; rintro e w' ⟨rfl, rfl⟩
  go_wp2_with fail
  go_ret
  exact ⟨rfl, (Kp.rfl W).new _⟩
theorem mul_6 (a b : Int) (ha : U64 a) (hb : U64 b) (W : World) : Calls Tryz.prog 8 #[.int .i64 6, .int .u64 a, .int .u64 b] W fun e W' => e = .returned (.int .u64 (IntKind.u64.wrap (a * b))) ∧ W' = W := by
  go_enter Tryz.func8, Tryz.ntmps8
  go_wp2_with fail
  go_ret
  exact ⟨rfl, rfl⟩
theorem do_6 (a b : Int) (ha : U64 a) (hb : U64 b) (W : World) : Calls Tryz.prog 4 #[.int .i64 6, .int .u64 a, .int .u64 b] W fun e W' => e = .returned (.int .u64 (IntKind.u64.wrap (a * b))) ∧ W' = W := by
  go_enter Tryz.func4, Tryz.ntmps4
  go_wp2_with fail
  refine (mul_6 a b ha hb _).mono ?_; rintro e w' ⟨rfl, rfl⟩
  go_wp2_with fail
  go_ret
  exact ⟨rfl, rfl⟩
theorem rdo_6 (a b : Int) (ha : U64 a) (hb : U64 b) (W : World) : Calls Tryz.prog 5 #[.int .i64 6, .int .u64 a, .int .u64 b] W fun e W' => e = .returned (.int .u64 (IntKind.u64.wrap (a * b))) ∧ Kp W W' := by
  have hc := ftab_cell W 6 (by decide)
  rw [show str (ftab.getD 6 []) = .string ⟨#[109, 117, 108]⟩ from rfl] at hc
  have ha0 := ha.1
  have hb0 := hb.1
  go_enter Tryz.func5, Tryz.ntmps5
  go_wp2_with fail
  refine (functions_any _).mono ?_; rintro e w' ⟨rfl, rfl⟩
  go_wp2_with fail
  go_ret
  exact ⟨rfl, (Kp.rfl W).new _⟩
theorem mul_7 (a b : Int) (ha : U64 a) (hb : U64 b) (W : World) : Calls Tryz.prog 8 #[.int .i64 7, .int .u64 a, .int .u64 b] W fun e W' => e = .returned (.int .u64 (mhi (a * b))) ∧ W' = W := by
  go_enter Tryz.func8, Tryz.ntmps8
  go_wp2_with fail
  refine (mulU_any a b ha hb _).mono ?_; rintro e w' ⟨rfl, rfl⟩
  go_wp2_with fail
  go_ret
  exact ⟨rfl, rfl⟩
theorem do_7 (a b : Int) (ha : U64 a) (hb : U64 b) (W : World) : Calls Tryz.prog 4 #[.int .i64 7, .int .u64 a, .int .u64 b] W fun e W' => e = .returned (.int .u64 (mhi (a * b))) ∧ W' = W := by
  go_enter Tryz.func4, Tryz.ntmps4
  go_wp2_with fail
  refine (mul_7 a b ha hb _).mono ?_; rintro e w' ⟨rfl, rfl⟩
  go_wp2_with fail
  go_ret
  exact ⟨rfl, rfl⟩
theorem rdo_7 (a b : Int) (ha : U64 a) (hb : U64 b) (W : World) : Calls Tryz.prog 5 #[.int .i64 7, .int .u64 a, .int .u64 b] W fun e W' => e = .returned (.int .u64 (mhi (a * b))) ∧ Kp W W' := by
  have hc := ftab_cell W 7 (by decide)
  rw [show str (ftab.getD 7 []) = .string ⟨#[109, 117, 108, 117]⟩ from rfl] at hc
  have ha0 := ha.1
  have hb0 := hb.1
  go_enter Tryz.func5, Tryz.ntmps5
  go_wp2_with fail
  refine (functions_any _).mono ?_; rintro e w' ⟨rfl, rfl⟩
  go_wp2_with fail
  refine (rmulU_any a b ha hb _).mono ?_; rintro e w' ⟨rfl, rfl⟩
  go_wp2_with fail
  go_ret
  exact ⟨rfl, (Kp.rfl W).new _⟩
theorem mul_8 (a b : Int) (ha : U64 a) (hb : U64 b) (W : World) : Calls Tryz.prog 8 #[.int .i64 8, .int .u64 a, .int .u64 b] W fun e W' => e = .returned (.int .u64 (shi a b)) ∧ W' = W := by
  go_enter Tryz.func8, Tryz.ntmps8
  go_wp2_with fail
  refine (mulS_any a b ha hb _).mono ?_; rintro e w' ⟨rfl, rfl⟩
  go_wp2_with fail
  go_ret
  exact ⟨rfl, rfl⟩
theorem do_8 (a b : Int) (ha : U64 a) (hb : U64 b) (W : World) : Calls Tryz.prog 4 #[.int .i64 8, .int .u64 a, .int .u64 b] W fun e W' => e = .returned (.int .u64 (shi a b)) ∧ W' = W := by
  go_enter Tryz.func4, Tryz.ntmps4
  go_wp2_with fail
  refine (mul_8 a b ha hb _).mono ?_; rintro e w' ⟨rfl, rfl⟩
  go_wp2_with fail
  go_ret
  exact ⟨rfl, rfl⟩
theorem rdo_8 (a b : Int) (ha : U64 a) (hb : U64 b) (W : World) : Calls Tryz.prog 5 #[.int .i64 8, .int .u64 a, .int .u64 b] W fun e W' => e = .returned (.int .u64 (shi a b)) ∧ Kp W W' := by
  have hc := ftab_cell W 8 (by decide)
  rw [show str (ftab.getD 8 []) = .string ⟨#[109, 117, 108, 115]⟩ from rfl] at hc
  have ha0 := ha.1
  have hb0 := hb.1
  go_enter Tryz.func5, Tryz.ntmps5
  go_wp2_with fail
  refine (functions_any _).mono ?_; rintro e w' ⟨rfl, rfl⟩
  go_wp2_with fail
  refine (rmulS_any a b ha hb _).mono ?_; rintro e w' ⟨rfl, rfl⟩
  go_wp2_with fail
  go_ret
  exact ⟨rfl, (Kp.rfl W).new _⟩
theorem mul_9_0 (a b : Int) (ha : U64 a) (hb : U64 b) (h0 : b = 0) (W : World) : Calls Tryz.prog 8 #[.int .i64 9, .int .u64 a, .int .u64 b] W fun e W' => e = .returned (.int .u64 (0)) ∧ W' = W := by
  subst h0
  go_enter Tryz.func8, Tryz.ntmps8
  go_wp2_with fail
  go_ret
  exact ⟨rfl, rfl⟩
theorem do_9_0 (a b : Int) (ha : U64 a) (hb : U64 b) (h0 : b = 0) (W : World) : Calls Tryz.prog 4 #[.int .i64 9, .int .u64 a, .int .u64 b] W fun e W' => e = .returned (.int .u64 0) ∧ W' = W := by
  subst h0
  go_enter Tryz.func4, Tryz.ntmps4
  go_wp2_with fail
  refine (mul_9_0 a 0 ha hb rfl _).mono ?_; rintro e w' ⟨rfl, rfl⟩
  go_wp2_with fail
  go_ret
  exact ⟨rfl, rfl⟩
theorem rdo_9_0 (a b : Int) (ha : U64 a) (hb : U64 b) (h0 : b = 0) (W : World) : Calls Tryz.prog 5 #[.int .i64 9, .int .u64 a, .int .u64 b] W fun e W' => e = .returned (.int .u64 (0)) ∧ Kp W W' := by
  have hc := ftab_cell W 9 (by decide)
  rw [show str (ftab.getD 9 []) = .string ⟨#[100, 105, 118, 117]⟩ from rfl] at hc
  have ha0 := ha.1
  have hb0 := hb.1
  subst h0
  go_enter Tryz.func5, Tryz.ntmps5
  go_wp2_with fail
  refine (functions_any _).mono ?_; rintro e w' ⟨rfl, rfl⟩
  go_wp2_with fail
  go_ret
  exact ⟨rfl, (Kp.rfl W).new _⟩
theorem mul_10_0 (a b : Int) (ha : U64 a) (hb : U64 b) (h0 : b = 0) (W : World) : Calls Tryz.prog 8 #[.int .i64 10, .int .u64 a, .int .u64 b] W fun e W' => e = .returned (.int .u64 (0)) ∧ W' = W := by
  subst h0
  go_enter Tryz.func8, Tryz.ntmps8
  go_wp2_with fail
  go_ret
  exact ⟨rfl, rfl⟩
theorem do_10_0 (a b : Int) (ha : U64 a) (hb : U64 b) (h0 : b = 0) (W : World) : Calls Tryz.prog 4 #[.int .i64 10, .int .u64 a, .int .u64 b] W fun e W' => e = .returned (.int .u64 0) ∧ W' = W := by
  subst h0
  go_enter Tryz.func4, Tryz.ntmps4
  go_wp2_with fail
  refine (mul_10_0 a 0 ha hb rfl _).mono ?_; rintro e w' ⟨rfl, rfl⟩
  go_wp2_with fail
  go_ret
  exact ⟨rfl, rfl⟩
theorem rdo_10_0 (a b : Int) (ha : U64 a) (hb : U64 b) (h0 : b = 0) (W : World) : Calls Tryz.prog 5 #[.int .i64 10, .int .u64 a, .int .u64 b] W fun e W' => e = .returned (.int .u64 (0)) ∧ Kp W W' := by
  have hc := ftab_cell W 10 (by decide)
  rw [show str (ftab.getD 10 []) = .string ⟨#[100, 105, 118, 115]⟩ from rfl] at hc
  have ha0 := ha.1
  have hb0 := hb.1
  subst h0
  go_enter Tryz.func5, Tryz.ntmps5
  go_wp2_with fail
  refine (functions_any _).mono ?_; rintro e w' ⟨rfl, rfl⟩
  go_wp2_with fail
  go_ret
  exact ⟨rfl, (Kp.rfl W).new _⟩
theorem mul_9_n (a b : Int) (ha : U64 a) (hb : U64 b) (h0 : b ≠ 0) (W : World) : Calls Tryz.prog 8 #[.int .i64 9, .int .u64 a, .int .u64 b] W fun e W' => e = .returned (.int .u64 (IntKind.u64.wrap (a.tdiv b))) ∧ W' = W := by
  have hz : (b == 0) = false := by simpa using h0
  have hn : (b != 0) = true := by simpa using h0
  have hp : 0 < b := by unfold U64 at hb; omega
  clear h0
  go_enter Tryz.func8, Tryz.ntmps8
  go_wp2_with fail
  go_ret
  exact ⟨rfl, rfl⟩
theorem do_9_n (a b : Int) (ha : U64 a) (hb : U64 b) (h0 : b ≠ 0) (W : World) : Calls Tryz.prog 4 #[.int .i64 9, .int .u64 a, .int .u64 b] W fun e W' => e = .returned (.int .u64 (IntKind.u64.wrap (a.tdiv b))) ∧ W' = W := by
  go_enter Tryz.func4, Tryz.ntmps4
  go_wp2_with fail
  refine (mul_9_n a b ha hb h0 _).mono ?_; rintro e w' ⟨rfl, rfl⟩
  go_wp2_with fail
  go_ret
  exact ⟨rfl, rfl⟩
theorem rdo_9_n (a b : Int) (ha : U64 a) (hb : U64 b) (h0 : b ≠ 0) (W : World) : Calls Tryz.prog 5 #[.int .i64 9, .int .u64 a, .int .u64 b] W fun e W' => e = .returned (.int .u64 (IntKind.u64.wrap (a.tdiv b))) ∧ Kp W W' := by
  have hc := ftab_cell W 9 (by decide)
  rw [show str (ftab.getD 9 []) = .string ⟨#[100, 105, 118, 117]⟩ from rfl] at hc
  have ha0 := ha.1
  have hb0 := hb.1
  have hz : (b == 0) = false := by simpa using h0
  have hn : (b != 0) = true := by simpa using h0
  have hp : 0 < b := by unfold U64 at hb; omega
  clear h0
  go_enter Tryz.func5, Tryz.ntmps5
  go_wp2_with fail
  refine (functions_any _).mono ?_; rintro e w' ⟨rfl, rfl⟩
  go_wp2_with fail
  go_ret
  exact ⟨rfl, (Kp.rfl W).new _⟩
theorem do_14 (a b : Int) (ha : U64 a) (hb : U64 b) (W : World) : Calls Tryz.prog 4 #[.int .i64 14, .int .u64 a, .int .u64 b] W fun e W' => e = .returned (.int .u64 (oneB (a == b))) ∧ W' = W := by
  go_enter Tryz.func4, Tryz.ntmps4
  go_wp2_with fail
  refine (one_any _ _).mono ?_; rintro e w' ⟨rfl, rfl⟩
  go_wp2_with fail
  go_ret
  exact ⟨rfl, rfl⟩
theorem rdo_14 (a b : Int) (ha : U64 a) (hb : U64 b) (W : World) : Calls Tryz.prog 5 #[.int .i64 14, .int .u64 a, .int .u64 b] W fun e W' => e = .returned (.int .u64 (oneB (a == b))) ∧ Kp W W' := by
  have hc := ftab_cell W 14 (by decide)
  rw [show str (ftab.getD 14 []) = .string ⟨#[101, 113]⟩ from rfl] at hc
  have ha0 := ha.1
  have hb0 := hb.1
  go_enter Tryz.func5, Tryz.ntmps5
  go_wp2_with fail
  refine (functions_any _).mono ?_; rintro e w' ⟨rfl, rfl⟩
  go_wp2_with fail
  refine (rone_any _ _).mono ?_; rintro e w' ⟨rfl, rfl⟩
  go_wp2_with fail
  go_ret
  exact ⟨rfl, (Kp.rfl W).new _⟩
theorem do_15 (a b : Int) (ha : U64 a) (hb : U64 b) (W : World) : Calls Tryz.prog 4 #[.int .i64 15, .int .u64 a, .int .u64 b] W fun e W' => e = .returned (.int .u64 (oneB (decide (a < b)))) ∧ W' = W := by
  go_enter Tryz.func4, Tryz.ntmps4
  go_wp2_with fail
  refine (one_any _ _).mono ?_; rintro e w' ⟨rfl, rfl⟩
  go_wp2_with fail
  go_ret
  exact ⟨rfl, rfl⟩
theorem rdo_15 (a b : Int) (ha : U64 a) (hb : U64 b) (W : World) : Calls Tryz.prog 5 #[.int .i64 15, .int .u64 a, .int .u64 b] W fun e W' => e = .returned (.int .u64 (oneB (decide (a < b)))) ∧ Kp W W' := by
  have hc := ftab_cell W 15 (by decide)
  rw [show str (ftab.getD 15 []) = .string ⟨#[108, 116, 117]⟩ from rfl] at hc
  have ha0 := ha.1
  have hb0 := hb.1
  go_enter Tryz.func5, Tryz.ntmps5
  go_wp2_with fail
  refine (functions_any _).mono ?_; rintro e w' ⟨rfl, rfl⟩
  go_wp2_with fail
  refine (rone_any _ _).mono ?_; rintro e w' ⟨rfl, rfl⟩
  go_wp2_with fail
  go_ret
  exact ⟨rfl, (Kp.rfl W).new _⟩
end Go.Proofs.YtebbokaocobmgaaGreatDoor
