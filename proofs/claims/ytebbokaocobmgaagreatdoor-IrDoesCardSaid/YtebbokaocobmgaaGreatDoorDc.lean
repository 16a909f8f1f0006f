/- Walks of layer 13: each function of two words, of the code and of the document's own answers. -/
import Derived.Test.YtebbokaocobmgaaGreatDoorDb
namespace Go.Proofs.YtebbokaocobmgaaGreatDoor
open Go Go.RowKit
open Cq (U64 I64 isW nb zx sx neg mhi mlo shi)
set_option maxRecDepth 100000
set_option linter.unusedVariables false
theorem and_63 {x : Int} (h : U64 x) : bits .and .u64 x 63 = x % 64 := by
  obtain ⟨n, rfl⟩ : ∃ n : Nat, x = n := ⟨x.toNat, by have := h.1; omega⟩
  rw [u64_and n 63 h.1 h.2 (by decide) (by decide)]
  have : (n : Int).toNat &&& (63 : Int).toNat = n % 64 := Nat.and_two_pow_sub_one_eq_mod n 6
  rw [this]
  rfl
theorem do_11 (a b : Int) (ha : U64 a) (hb : U64 b) (W : World) : Calls Tryz.prog 4 #[.int .i64 11, .int .u64 a, .int .u64 b] W fun e W' => e = .returned (.int .u64 (IntKind.u64.wrap (a * 2 ^ (b % 64).toNat))) ∧ W' = W := by
  have hk := and_63 hb
  have hk0 : 0 ≤ b % 64 := by omega
  have hk1 : b % 64 < 64 := by omega
  go_enter Tryz.func4, Tryz.ntmps4
  go_wp2_with fail
  go_ret
  exact ⟨rfl, rfl⟩
theorem rdo_11 (a b : Int) (ha : U64 a) (hb : U64 b) (W : World) : Calls Tryz.prog 5 #[.int .i64 11, .int .u64 a, .int .u64 b] W fun e W' => e = .returned (.int .u64 (IntKind.u64.wrap (a * 2 ^ (b % 64).toNat))) ∧ Kp W W' := by
  have hc := ftab_cell W 11 (by decide)
  rw [show str (ftab.getD 11 []) = .string ⟨#[115, 104, 108]⟩ from rfl] at hc
  have ha0 := ha.1
  have hb0 := hb.1
  go_enter Tryz.func5, Tryz.ntmps5
  go_wp2_with fail
  refine (functions_any _).mono ?_; rintro e w' ⟨rfl, rfl⟩
  go_wp2_with fail
  go_ret
  exact ⟨rfl, (Kp.rfl W).new _⟩
theorem do_12 (a b : Int) (ha : U64 a) (hb : U64 b) (W : World) : Calls Tryz.prog 4 #[.int .i64 12, .int .u64 a, .int .u64 b] W fun e W' => e = .returned (.int .u64 (a / 2 ^ (b % 64).toNat)) ∧ W' = W := by
  have hk := and_63 hb
  have hk0 : 0 ≤ b % 64 := by omega
  have hk1 : b % 64 < 64 := by omega
  go_enter Tryz.func4, Tryz.ntmps4
  go_wp2_with fail
  go_ret
  exact ⟨rfl, rfl⟩
theorem rdo_12 (a b : Int) (ha : U64 a) (hb : U64 b) (W : World) : Calls Tryz.prog 5 #[.int .i64 12, .int .u64 a, .int .u64 b] W fun e W' => e = .returned (.int .u64 (a / 2 ^ (b % 64).toNat)) ∧ Kp W W' := by
  have hc := ftab_cell W 12 (by decide)
  rw [show str (ftab.getD 12 []) = .string ⟨#[115, 104, 114]⟩ from rfl] at hc
  have ha0 := ha.1
  have hb0 := hb.1
  go_enter Tryz.func5, Tryz.ntmps5
  go_wp2_with fail
  refine (functions_any _).mono ?_; rintro e w' ⟨rfl, rfl⟩
  go_wp2_with fail
  go_ret
  exact ⟨rfl, (Kp.rfl W).new _⟩
theorem do_13 (a b : Int) (ha : U64 a) (hb : U64 b) (W : World) : Calls Tryz.prog 4 #[.int .i64 13, .int .u64 a, .int .u64 b] W fun e W' => e = .returned (.int .u64 (IntKind.u64.wrap (wrap64 a / 2 ^ (b % 64).toNat))) ∧ W' = W := by
  have hk := and_63 hb
  have hk0 : 0 ≤ b % 64 := by omega
  have hk1 : b % 64 < 64 := by omega
  go_enter Tryz.func4, Tryz.ntmps4
  go_wp2_with fail
  go_ret
  exact ⟨rfl, rfl⟩
theorem do_16 (a b : Int) (ha : U64 a) (hb : U64 b) (W : World) : Calls Tryz.prog 4 #[.int .i64 16, .int .u64 a, .int .u64 b] W fun e W' => e = .returned (.int .u64 (oneB (decide (wrap64 a < wrap64 b)))) ∧ W' = W := by
  go_enter Tryz.func4, Tryz.ntmps4
  go_wp2_with fail
  refine (one_any _ _).mono ?_; rintro e w' ⟨rfl, rfl⟩
  go_wp2_with fail
  go_ret
  exact ⟨rfl, rfl⟩
theorem mul_10_n (a b : Int) (ha : U64 a) (hb : U64 b) (h0 : b ≠ 0) (W : World) : Calls Tryz.prog 8 #[.int .i64 10, .int .u64 a, .int .u64 b] W fun e W' => e = .returned (.int .u64 (IntKind.u64.wrap (wrap64 ((wrap64 a).tdiv (wrap64 b))))) ∧ W' = W := by
  obtain ⟨S, hS⟩ : ∃ S, S = wrap64 a := ⟨_, rfl⟩
  obtain ⟨D, hD⟩ : ∃ D, D = wrap64 b := ⟨_, rfl⟩
  have hw : ¬ D = 0 := by unfold U64 at hb; rw [hD]; unfold wrap64; omega
  have hn : (b != 0) = true := by simpa using h0
  rw [← hS, ← hD]
  replace hS := hS.symm
  replace hD := hD.symm
  clear h0
  go_enter Tryz.func8, Tryz.ntmps8
  go_wp2_with fail
  go_ret
  exact ⟨rfl, rfl⟩
theorem do_10_n (a b : Int) (ha : U64 a) (hb : U64 b) (h0 : b ≠ 0) (W : World) : Calls Tryz.prog 4 #[.int .i64 10, .int .u64 a, .int .u64 b] W fun e W' => e = .returned (.int .u64 (IntKind.u64.wrap (wrap64 ((wrap64 a).tdiv (wrap64 b))))) ∧ W' = W := by
  go_enter Tryz.func4, Tryz.ntmps4
  go_wp2_with fail
  refine (mul_10_n a b ha hb h0 _).mono ?_; rintro e w' ⟨rfl, rfl⟩
  go_wp2_with fail
  go_ret
  exact ⟨rfl, rfl⟩
theorem sar_step {a : Int} (ha : U64 a) (j : Nat) : IntKind.u64.wrap (IntKind.u64.wrap ((IntKind.u64.wrap (wrap64 a / 2 ^ j)).tdiv 2) + IntKind.u64.wrap (oneB (ngB (IntKind.u64.wrap (wrap64 a / 2 ^ j))) * 9223372036854775808)) = IntKind.u64.wrap (wrap64 a / 2 ^ (j + 1)) := by
  have hs : -9223372036854775808 ≤ wrap64 a ∧ wrap64 a < 9223372036854775808 := by unfold wrap64; omega
  have e : wrap64 a / 2 ^ (j + 1) = wrap64 a / 2 ^ j / 2 := by rw [Int.pow_succ, Int.ediv_ediv_of_nonneg (Int.le_of_lt (Int.pow_pos (by decide)))]
  have hm : -9223372036854775808 ≤ wrap64 a / 2 ^ j ∧ wrap64 a / 2 ^ j < 9223372036854775808 := by
    have p : (0 : Int) < 2 ^ j := Int.pow_pos (by decide)
    generalize (2 : Int) ^ j = t at p ⊢
    constructor
    · rw [Int.le_ediv_iff_mul_le p]
      omega
    · rw [Int.ediv_lt_iff_lt_mul p]
      omega
  rw [e]
  generalize wrap64 a / 2 ^ j = m at hm ⊢
  unfold ngB oneB
  rw [Int.tdiv_eq_ediv_of_nonneg (by rw [IntKind.wrap_u64]; omega)]
  simp only [IntKind.wrap_u64]
  by_cases h : 9223372036854775808 ≤ m % 18446744073709551616
  · simp only [h, decide_true, if_true]
    omega
  · simp only [h, decide_false, Bool.false_eq_true, if_false]
    omega
theorem sar_0 {a : Int} (ha : U64 a) : IntKind.u64.wrap (wrap64 a / 2 ^ 0) = a := by
  rw [IntKind.wrap_u64]
  unfold U64 at ha
  unfold wrap64
  simp only [Int.pow_zero, Int.ediv_one]
  omega
theorem lts_1 {a b : Int} (ha : U64 a) (hb : U64 b) (h : ngB a = ngB b) : decide (wrap64 a < wrap64 b) = decide (a < b) := by
  unfold ngB at h
  unfold U64 at ha hb
  unfold wrap64
  simp only [decide_eq_decide] at h ⊢
  omega
theorem lts_2 {a b : Int} (ha : U64 a) (hb : U64 b) (h : ngB a ≠ ngB b) : decide (wrap64 a < wrap64 b) = ngB a := by
  unfold ngB at *
  unfold U64 at ha hb
  unfold wrap64
  by_cases h1 : 9223372036854775808 ≤ a <;> by_cases h2 : 9223372036854775808 ≤ b <;> simp [h1, h2] at h ⊢ <;> omega
theorem szB_bd {a : Int} (ha : U64 a) : 0 ≤ szB a ∧ szB a ≤ 9223372036854775808 := by
  unfold szB ngB
  unfold U64 at ha
  by_cases h : 9223372036854775808 ≤ a
  · simp only [h, decide_true, if_true, IntKind.wrap_u64]
    omega
  · simp only [h, decide_false, Bool.false_eq_true, if_false]
    omega
theorem szB_pos {a : Int} (ha : U64 a) (h0 : a ≠ 0) : ¬ szB a = 0 := by
  unfold szB ngB
  unfold U64 at ha
  by_cases h : 9223372036854775808 ≤ a
  · simp only [h, decide_true, if_true, IntKind.wrap_u64]
    omega
  · simp only [h, decide_false, Bool.false_eq_true, if_false]
    omega
theorem s_of {a : Int} (ha : U64 a) : wrap64 a = if ngB a then - szB a else szB a := by
  unfold szB ngB
  unfold U64 at ha
  unfold wrap64
  by_cases h : 9223372036854775808 ≤ a
  · simp only [h, decide_true, if_true, IntKind.wrap_u64]
    omega
  · simp only [h, decide_false, Bool.false_eq_true, if_false]
    omega
theorem divs_math {a b : Int} (ha : U64 a) (hb : U64 b) (h0 : b ≠ 0) : IntKind.u64.wrap (wrap64 ((wrap64 a).tdiv (wrap64 b))) = if ngB a != ngB b then IntKind.u64.wrap (-IntKind.u64.wrap ((szB a).tdiv (szB b))) else IntKind.u64.wrap ((szB a).tdiv (szB b)) := by
  have h1 := szB_bd ha
  have h2 := szB_bd hb
  have h3 := szB_pos hb h0
  rw [s_of ha, s_of hb]
  generalize szB a = A at *
  generalize szB b = B at *
  have hq : 0 ≤ A.tdiv B ∧ A.tdiv B ≤ 9223372036854775808 := by
    rw [Int.tdiv_eq_ediv_of_nonneg h1.1]
    exact ⟨Int.ediv_nonneg h1.1 h2.1, Int.le_trans (Int.ediv_le_self _ h1.1) h1.2⟩
  cases ngB a <;> cases ngB b
  · simp only [Bool.false_eq_true, if_false, bne_self_eq_false]
    generalize A.tdiv B = q at hq
    simp only [IntKind.wrap_u64]
    unfold wrap64
    omega
  · simp only [Bool.false_eq_true, if_false, if_true, Int.tdiv_neg, show (false != true) = true from rfl]
    generalize A.tdiv B = q at hq
    simp only [IntKind.wrap_u64]
    unfold wrap64
    omega
  · simp only [Bool.false_eq_true, if_false, if_true, Int.neg_tdiv, show (true != false) = true from rfl]
    generalize A.tdiv B = q at hq
    simp only [IntKind.wrap_u64]
    unfold wrap64
    omega
  · simp only [Bool.false_eq_true, if_false, if_true, Int.neg_tdiv, Int.tdiv_neg, Int.neg_neg, bne_self_eq_false]
    generalize A.tdiv B = q at hq
    simp only [IntKind.wrap_u64]
    unfold wrap64
    omega
theorem rdo_16_tt (a b : Int) (ha : U64 a) (hb : U64 b) (ga : ngB a = true) (gb : ngB b = true) (W : World) : Calls Tryz.prog 5 #[.int .i64 16, .int .u64 a, .int .u64 b] W fun e W' => e = .returned (.int .u64 (oneB (decide (a < b)))) ∧ Kp W W' := by
  have hc := ftab_cell W 16 (by decide)
  rw [show str (ftab.getD 16 []) = .string ⟨#[108, 116, 115]⟩ from rfl] at hc
  have ha0 := ha.1
  have hb0 := hb.1
  have HA := Lib.hid ga
  have HB := Lib.hid gb
  clear ga gb
  go_enter Tryz.func5, Tryz.ntmps5
  go_wp2_with fail
  refine (functions_any _).mono ?_; rintro e w' ⟨rfl, rfl⟩
  go_wp2_with fail
  refine (rng_any a _).mono ?_; rintro e w' ⟨rfl, rfl⟩
  rw [HA.out]
  go_wp2_with fail
  refine (rng_any b _).mono ?_; rintro e w' ⟨rfl, rfl⟩
  rw [HB.out]
  go_wp2_with fail
  refine (rone_any _ _).mono ?_; rintro e w' ⟨rfl, rfl⟩
  go_wp2_with fail
  go_ret
  exact ⟨rfl, (Kp.rfl W).new _⟩
theorem rdo_10_tt (a b : Int) (ha : U64 a) (hb : U64 b) (h0 : b ≠ 0) (ga : ngB a = true) (gb : ngB b = true) (W : World) : Calls Tryz.prog 5 #[.int .i64 10, .int .u64 a, .int .u64 b] W fun e W' => e = .returned (.int .u64 (IntKind.u64.wrap ((szB a).tdiv (szB b)))) ∧ Kp W W' := by
  have hc := ftab_cell W 10 (by decide)
  rw [show str (ftab.getD 10 []) = .string ⟨#[100, 105, 118, 115]⟩ from rfl] at hc
  have ha0 := ha.1
  have hb0 := hb.1
  have HA := Lib.hid ga
  have HB := Lib.hid gb
  have h3 := szB_pos hb h0
  obtain ⟨A, hA⟩ : ∃ A, A = szB a := ⟨_, rfl⟩
  obtain ⟨B, hB⟩ : ∃ B, B = szB b := ⟨_, rfl⟩
  rw [← hB] at h3
  rw [← hA, ← hB]
  have HSA := Lib.hid hA.symm
  have HSB := Lib.hid hB.symm
  have hz : (b == 0) = false := by simpa using h0
  clear ga gb hA hB h0
  go_enter Tryz.func5, Tryz.ntmps5
  go_wp2_with fail
  refine (functions_any _).mono ?_; rintro e w' ⟨rfl, rfl⟩
  go_wp2_with fail
  refine (rsz_any a _).mono ?_; rintro e w' ⟨rfl, rfl⟩
  rw [HSA.out]
  go_wp2_with fail
  refine (rsz_any b _).mono ?_; rintro e w' ⟨rfl, rfl⟩
  rw [HSB.out]
  go_wp2_with fail
  refine (rng_any a _).mono ?_; rintro e w' ⟨rfl, rfl⟩
  rw [HA.out]
  go_wp2_with fail
  refine (rng_any b _).mono ?_; rintro e w' ⟨rfl, rfl⟩
  rw [HB.out]
  go_wp2_with fail
  go_ret
  exact ⟨rfl, (Kp.rfl W).new _⟩
theorem rdo_16_tf (a b : Int) (ha : U64 a) (hb : U64 b) (ga : ngB a = true) (gb : ngB b = false) (W : World) : Calls Tryz.prog 5 #[.int .i64 16, .int .u64 a, .int .u64 b] W fun e W' => e = .returned (.int .u64 (oneB true)) ∧ Kp W W' := by
  have hc := ftab_cell W 16 (by decide)
  rw [show str (ftab.getD 16 []) = .string ⟨#[108, 116, 115]⟩ from rfl] at hc
  have ha0 := ha.1
  have hb0 := hb.1
  have HA := Lib.hid ga
  have HB := Lib.hid gb
  clear ga gb
  go_enter Tryz.func5, Tryz.ntmps5
  go_wp2_with fail
  refine (functions_any _).mono ?_; rintro e w' ⟨rfl, rfl⟩
  go_wp2_with fail
  refine (rng_any a _).mono ?_; rintro e w' ⟨rfl, rfl⟩
  rw [HA.out]
  go_wp2_with fail
  refine (rng_any b _).mono ?_; rintro e w' ⟨rfl, rfl⟩
  rw [HB.out]
  go_wp2_with fail
  refine (rng_any a _).mono ?_; rintro e w' ⟨rfl, rfl⟩
  rw [HA.out]
  go_wp2_with fail
  refine (rone_any _ _).mono ?_; rintro e w' ⟨rfl, rfl⟩
  go_wp2_with fail
  go_ret
  exact ⟨rfl, (Kp.rfl W).new _⟩
theorem rdo_10_tf (a b : Int) (ha : U64 a) (hb : U64 b) (h0 : b ≠ 0) (ga : ngB a = true) (gb : ngB b = false) (W : World) : Calls Tryz.prog 5 #[.int .i64 10, .int .u64 a, .int .u64 b] W fun e W' => e = .returned (.int .u64 (IntKind.u64.wrap (-IntKind.u64.wrap ((szB a).tdiv (szB b))))) ∧ Kp W W' := by
  have hc := ftab_cell W 10 (by decide)
  rw [show str (ftab.getD 10 []) = .string ⟨#[100, 105, 118, 115]⟩ from rfl] at hc
  have ha0 := ha.1
  have hb0 := hb.1
  have HA := Lib.hid ga
  have HB := Lib.hid gb
  have h3 := szB_pos hb h0
  obtain ⟨A, hA⟩ : ∃ A, A = szB a := ⟨_, rfl⟩
  obtain ⟨B, hB⟩ : ∃ B, B = szB b := ⟨_, rfl⟩
  rw [← hB] at h3
  rw [← hA, ← hB]
  have HSA := Lib.hid hA.symm
  have HSB := Lib.hid hB.symm
  have hz : (b == 0) = false := by simpa using h0
  clear ga gb hA hB h0
  go_enter Tryz.func5, Tryz.ntmps5
  go_wp2_with fail
  refine (functions_any _).mono ?_; rintro e w' ⟨rfl, rfl⟩
  go_wp2_with fail
  refine (rsz_any a _).mono ?_; rintro e w' ⟨rfl, rfl⟩
  rw [HSA.out]
  go_wp2_with fail
  refine (rsz_any b _).mono ?_; rintro e w' ⟨rfl, rfl⟩
  rw [HSB.out]
  go_wp2_with fail
  refine (rng_any a _).mono ?_; rintro e w' ⟨rfl, rfl⟩
  rw [HA.out]
  go_wp2_with fail
  refine (rng_any b _).mono ?_; rintro e w' ⟨rfl, rfl⟩
  rw [HB.out]
  go_wp2_with fail
  go_ret
  exact ⟨rfl, (Kp.rfl W).new _⟩
theorem rdo_16_ft (a b : Int) (ha : U64 a) (hb : U64 b) (ga : ngB a = false) (gb : ngB b = true) (W : World) : Calls Tryz.prog 5 #[.int .i64 16, .int .u64 a, .int .u64 b] W fun e W' => e = .returned (.int .u64 (oneB false)) ∧ Kp W W' := by
  have hc := ftab_cell W 16 (by decide)
  rw [show str (ftab.getD 16 []) = .string ⟨#[108, 116, 115]⟩ from rfl] at hc
  have ha0 := ha.1
  have hb0 := hb.1
  have HA := Lib.hid ga
  have HB := Lib.hid gb
  clear ga gb
  go_enter Tryz.func5, Tryz.ntmps5
  go_wp2_with fail
  refine (functions_any _).mono ?_; rintro e w' ⟨rfl, rfl⟩
  go_wp2_with fail
  refine (rng_any a _).mono ?_; rintro e w' ⟨rfl, rfl⟩
  rw [HA.out]
  go_wp2_with fail
  refine (rng_any b _).mono ?_; rintro e w' ⟨rfl, rfl⟩
  rw [HB.out]
  go_wp2_with fail
  refine (rng_any a _).mono ?_; rintro e w' ⟨rfl, rfl⟩
  rw [HA.out]
  go_wp2_with fail
  refine (rone_any _ _).mono ?_; rintro e w' ⟨rfl, rfl⟩
  go_wp2_with fail
  go_ret
  exact ⟨rfl, (Kp.rfl W).new _⟩
theorem rdo_10_ft (a b : Int) (ha : U64 a) (hb : U64 b) (h0 : b ≠ 0) (ga : ngB a = false) (gb : ngB b = true) (W : World) : Calls Tryz.prog 5 #[.int .i64 10, .int .u64 a, .int .u64 b] W fun e W' => e = .returned (.int .u64 (IntKind.u64.wrap (-IntKind.u64.wrap ((szB a).tdiv (szB b))))) ∧ Kp W W' := by
  have hc := ftab_cell W 10 (by decide)
  rw [show str (ftab.getD 10 []) = .string ⟨#[100, 105, 118, 115]⟩ from rfl] at hc
  have ha0 := ha.1
  have hb0 := hb.1
  have HA := Lib.hid ga
  have HB := Lib.hid gb
  have h3 := szB_pos hb h0
  obtain ⟨A, hA⟩ : ∃ A, A = szB a := ⟨_, rfl⟩
  obtain ⟨B, hB⟩ : ∃ B, B = szB b := ⟨_, rfl⟩
  rw [← hB] at h3
  rw [← hA, ← hB]
  have HSA := Lib.hid hA.symm
  have HSB := Lib.hid hB.symm
  have hz : (b == 0) = false := by simpa using h0
  clear ga gb hA hB h0
  go_enter Tryz.func5, Tryz.ntmps5
  go_wp2_with fail
  refine (functions_any _).mono ?_; rintro e w' ⟨rfl, rfl⟩
  go_wp2_with fail
  refine (rsz_any a _).mono ?_; rintro e w' ⟨rfl, rfl⟩
  rw [HSA.out]
  go_wp2_with fail
  refine (rsz_any b _).mono ?_; rintro e w' ⟨rfl, rfl⟩
  rw [HSB.out]
  go_wp2_with fail
  refine (rng_any a _).mono ?_; rintro e w' ⟨rfl, rfl⟩
  rw [HA.out]
  go_wp2_with fail
  refine (rng_any b _).mono ?_; rintro e w' ⟨rfl, rfl⟩
  rw [HB.out]
  go_wp2_with fail
  go_ret
  exact ⟨rfl, (Kp.rfl W).new _⟩
theorem rdo_16_ff (a b : Int) (ha : U64 a) (hb : U64 b) (ga : ngB a = false) (gb : ngB b = false) (W : World) : Calls Tryz.prog 5 #[.int .i64 16, .int .u64 a, .int .u64 b] W fun e W' => e = .returned (.int .u64 (oneB (decide (a < b)))) ∧ Kp W W' := by
  have hc := ftab_cell W 16 (by decide)
  rw [show str (ftab.getD 16 []) = .string ⟨#[108, 116, 115]⟩ from rfl] at hc
  have ha0 := ha.1
  have hb0 := hb.1
  have HA := Lib.hid ga
  have HB := Lib.hid gb
  clear ga gb
  go_enter Tryz.func5, Tryz.ntmps5
  go_wp2_with fail
  refine (functions_any _).mono ?_; rintro e w' ⟨rfl, rfl⟩
  go_wp2_with fail
  refine (rng_any a _).mono ?_; rintro e w' ⟨rfl, rfl⟩
  rw [HA.out]
  go_wp2_with fail
  refine (rng_any b _).mono ?_; rintro e w' ⟨rfl, rfl⟩
  rw [HB.out]
  go_wp2_with fail
  refine (rone_any _ _).mono ?_; rintro e w' ⟨rfl, rfl⟩
  go_wp2_with fail
  go_ret
  exact ⟨rfl, (Kp.rfl W).new _⟩
theorem rdo_10_ff (a b : Int) (ha : U64 a) (hb : U64 b) (h0 : b ≠ 0) (ga : ngB a = false) (gb : ngB b = false) (W : World) : Calls Tryz.prog 5 #[.int .i64 10, .int .u64 a, .int .u64 b] W fun e W' => e = .returned (.int .u64 (IntKind.u64.wrap ((szB a).tdiv (szB b)))) ∧ Kp W W' := by
  have hc := ftab_cell W 10 (by decide)
  rw [show str (ftab.getD 10 []) = .string ⟨#[100, 105, 118, 115]⟩ from rfl] at hc
  have ha0 := ha.1
  have hb0 := hb.1
  have HA := Lib.hid ga
  have HB := Lib.hid gb
  have h3 := szB_pos hb h0
  obtain ⟨A, hA⟩ : ∃ A, A = szB a := ⟨_, rfl⟩
  obtain ⟨B, hB⟩ : ∃ B, B = szB b := ⟨_, rfl⟩
  rw [← hB] at h3
  rw [← hA, ← hB]
  have HSA := Lib.hid hA.symm
  have HSB := Lib.hid hB.symm
  have hz : (b == 0) = false := by simpa using h0
  clear ga gb hA hB h0
  go_enter Tryz.func5, Tryz.ntmps5
  go_wp2_with fail
  refine (functions_any _).mono ?_; rintro e w' ⟨rfl, rfl⟩
  go_wp2_with fail
  refine (rsz_any a _).mono ?_; rintro e w' ⟨rfl, rfl⟩
  rw [HSA.out]
  go_wp2_with fail
  refine (rsz_any b _).mono ?_; rintro e w' ⟨rfl, rfl⟩
  rw [HSB.out]
  go_wp2_with fail
  refine (rng_any a _).mono ?_; rintro e w' ⟨rfl, rfl⟩
  rw [HA.out]
  go_wp2_with fail
  refine (rng_any b _).mono ?_; rintro e w' ⟨rfl, rfl⟩
  rw [HB.out]
  go_wp2_with fail
  go_ret
  exact ⟨rfl, (Kp.rfl W).new _⟩
theorem rdo_13 (a b : Int) (ha : U64 a) (hb : U64 b) (W : World) : Calls Tryz.prog 5 #[.int .i64 13, .int .u64 a, .int .u64 b] W fun e W' => e = .returned (.int .u64 (IntKind.u64.wrap (wrap64 a / 2 ^ (b % 64).toNat))) ∧ Kp W W' := by
  have hc := ftab_cell W 13 (by decide)
  rw [show str (ftab.getD 13 []) = .string ⟨#[115, 97, 114]⟩ from rfl] at hc
  have ha0 := ha.1
  have hb0 := hb.1
  go_enter Tryz.func5, Tryz.ntmps5
  go_wp2_with fail
  refine (functions_any _).mono ?_; rintro e w' ⟨rfl, rfl⟩
  go_wp2_with fail
  go_loop [1, 13] (fun x i => ∃ j : Nat, (j : Int) ≤ b % 64 ∧ i = .int .u64 j ∧ x = .int .u64 (IntKind.u64.wrap (wrap64 a / 2 ^ j))) (fun _ i => (b % 64 - intOf i).toNat)
  case atStart => exact ⟨0, by omega, rfl, by rw [sar_0 ha]⟩
  case round =>
    obtain ⟨j, hj, rfl, rfl⟩ := hrel
    have HS := Lib.hid (sar_step ha j)
    have ux : U64 (IntKind.u64.wrap (wrap64 a / 2 ^ j)) := by rw [IntKind.wrap_u64]; unfold U64; omega
    by_cases hl : (j : Int) < b % 64
    · have hj2 : IntKind.u64.wrap ((j : Int) + 1) = (j + 1 : Nat) := by rw [IntKind.wrap_u64]; omega
      generalize IntKind.u64.wrap (wrap64 a / 2 ^ j) = x at HS ux ⊢
      go_wp2_with fail
      refine (rng_any _ _).mono ?_; rintro e w' ⟨rfl, rfl⟩
      go_wp2_with fail
      refine (rone_any _ _).mono ?_; rintro e w' ⟨rfl, rfl⟩
      go_wp2_with fail
      go_round
      case rel => exact ⟨j + 1, by omega, rfl, congrArg (Value.int .u64) HS.out⟩
      case measure => simp [intOf]; omega
    · have hl' := Int.not_lt.mp hl
      have hjj : (b % 64).toNat = j := by omega
      clear hl
      go_wp2_with fail
      go_ret
      exact ⟨rfl, (Kp.rfl W).new _⟩
end Go.Proofs.YtebbokaocobmgaaGreatDoor
