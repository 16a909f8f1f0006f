/- Layer 23: the quotient with signs: walks of the document's own answer. -/
import Derived.Test.YthcncbbnjbhdkaaGreatDoorRows
import Derived.Test.YthcncbbnjbhdkaaGreatDoorBitv
import Derived.WalkKit
import Derived.WalkLawsBesides
import Derived.WalkSpells
import Derived.LoopTactic
import Derived.Lib.Hide
import Derived.Deep.QuietTactic
import Derived.BigQuiet
import Derived.Below
import Derived.Deep.RegionWith
namespace Go.Proofs.YthcncbbnjbhdkaaGreatDoor
open Go Go.RowKit
open Cq (U64 I64)

abbrev Kp (W W' : World) : Prop := Below W.heap.size W W'
theorem Kp.rfl (W : World) : Kp W W := Below.refl _ W
theorem Kp.next {W W1 W2 : World} (h : Kp W W1) (k : Kp W1 W2) : Kp W W2 := h.trans (k.mono h.size)
theorem Kp.new {W W1 : World} (h : Kp W W1) (o : Obj) : Kp W (W1.alloc o) := h.alloc h.size o
theorem Kp.draw {W W1 : World} (h : Kp W W1) : Kp W W1.drew := h.drew
def str (l : List UInt8) : Value := .string ⟨l.toArray⟩
def ftab : List (List UInt8) := [[], [97, 100, 100], [115, 117, 98], [97, 110, 100], [111, 114], [120, 111, 114], [109, 117, 108], [109, 117, 108, 117], [109, 117, 108, 115], [100, 105, 118, 117], [100, 105, 118, 115], [115, 104, 108], [115, 104, 114], [115, 97, 114], [101, 113], [108, 116, 117], [108, 116, 115]]
def ftabObj : Obj := .cells (ftab.map str).toArray 9
theorem ftab_cell (W : World) (n : Nat) (h : n < 17) : (W.alloc ftabObj).cell? ⟨W.heap.size, n, none⟩ = some (str (ftab.getD n [])) := by
  rw [World.cell?, heap_alloc_new]
  have : n < ftab.length := h
  simp [ftabObj, List.getElem?_eq_getElem this]
set_option maxRecDepth 100000 in
theorem functions_any (W : World) : Calls Tryz.prog 125 #[] W fun e W' => e = .returned (.slice (some ⟨W.heap.size, 0, none⟩) 17 17) ∧ W' = W.alloc ftabObj := by
  go_enter Tryz.func125, Tryz.ntmps125
  go_wp2_with fail
  go_ret
  exact ⟨by simp, by kernel_rfl⟩
def oneB (c : Bool) : Int := if c then 1 else 0
theorem rone13_any (c : Bool) (W : World) : Calls Tryz.prog 130 #[.bool c] W fun e W' => e = .returned (.int .u64 (oneB c)) ∧ W' = W := by
  cases c <;> (go_enter Tryz.func130, Tryz.ntmps130; go_wp2_with fail; go_ret; exact ⟨rfl, rfl⟩)
def ngB (a : Int) : Bool := decide (9223372036854775808 ≤ a)
theorem rng_any (a : Int) (W : World) : Calls Tryz.prog 129 #[.int .u64 a] W fun e W' => e = .returned (.bool (ngB a)) ∧ W' = W := by
  unfold ngB
  go_enter Tryz.func129, Tryz.ntmps129
  go_wp2_with fail
  go_ret
  exact ⟨rfl, rfl⟩
def szB (a : Int) : Int := if ngB a then IntKind.u64.wrap (0 - a) else a
theorem rsz_any (a : Int) (W : World) : Calls Tryz.prog 128 #[.int .u64 a] W fun e W' => e = .returned (.int .u64 (szB a)) ∧ W' = W := by
  unfold szB
  cases h : ngB a
  · have H := Lib.hid h
    clear h
    go_enter Tryz.func128, Tryz.ntmps128
    go_wp2_with fail
    refine (rng_any _ _).mono ?_; rintro e w' ⟨rfl, rfl⟩
    rw [H.out]
    go_wp2_with fail
    go_ret
    exact ⟨rfl, rfl⟩
  · have H := Lib.hid h
    clear h
    go_enter Tryz.func128, Tryz.ntmps128
    go_wp2_with fail
    refine (rng_any _ _).mono ?_; rintro e w' ⟨rfl, rfl⟩
    rw [H.out]
    go_wp2_with fail
    go_ret
    exact ⟨by simp, rfl⟩
theorem rdo_10_0 (a b : Int) (ha : U64 a) (hb : U64 b) (h0 : b = 0) (W : World) : Calls Tryz.prog 62 #[.int .i64 10, .int .u64 a, .int .u64 b] W fun e W' => e = .returned (.int .u64 (0)) ∧ Kp W W' := by
  have hc := ftab_cell W 10 (by decide)
  rw [show str (ftab.getD 10 []) = .string ⟨#[100, 105, 118, 115]⟩ from rfl] at hc
  have ha0 := ha.1
  have hb0 := hb.1
  subst h0
  go_enter Tryz.func62, Tryz.ntmps62
  go_wp2_with fail
  refine (functions_any _).mono ?_; rintro e w' ⟨rfl, rfl⟩
  go_wp2_with fail
  go_ret
  exact ⟨rfl, (Kp.rfl W).new _⟩
theorem szB_bd {a : Int} (ha : U64 a) : 0 ≤ szB a ∧ szB a ≤ 9223372036854775808 := by
  unfold szB ngB
  unfold U64 at ha
  by_cases h : 9223372036854775808 ≤ a
  · simp only [h, decide_true, if_true, IntKind.wrap_u64]
    omega
  · simp only [h, decide_false, Bool.false_eq_true, if_false]
    omega
theorem szB_pos {a : Int} (ha : U64 a) (h0 : a ≠ 0) : ¬ szB a = 0 := by
  unfold szB ngB
  unfold U64 at ha
  by_cases h : 9223372036854775808 ≤ a
  · simp only [h, decide_true, if_true, IntKind.wrap_u64]
    omega
  · simp only [h, decide_false, Bool.false_eq_true, if_false]
    omega
theorem rdo_10_tt (a b : Int) (ha : U64 a) (hb : U64 b) (h0 : b ≠ 0) (ga : ngB a = true) (gb : ngB b = true) (W : World) : Calls Tryz.prog 62 #[.int .i64 10, .int .u64 a, .int .u64 b] W fun e W' => e = .returned (.int .u64 (IntKind.u64.wrap ((szB a).tdiv (szB b)))) ∧ Kp W W' := by
  have hc := ftab_cell W 10 (by decide)
  rw [show str (ftab.getD 10 []) = .string ⟨#[100, 105, 118, 115]⟩ from rfl] at hc
  have ha0 := ha.1
  have hb0 := hb.1
  have HA := Lib.hid ga
  have HB := Lib.hid gb
  have h3 := szB_pos hb h0
  obtain ⟨A, hA⟩ : ∃ A, A = szB a := ⟨_, rfl⟩
  obtain ⟨B, hB⟩ : ∃ B, B = szB b := ⟨_, rfl⟩
  rw [← hB] at h3
  rw [← hA, ← hB]
  have HSA := Lib.hid hA.symm
  have HSB := Lib.hid hB.symm
  have hz : (b == 0) = false := by simpa using h0
  clear ga gb hA hB h0
  go_enter Tryz.func62, Tryz.ntmps62
  go_wp2_with fail
  refine (functions_any _).mono ?_; rintro e w' ⟨rfl, rfl⟩
  go_wp2_with fail
  refine (rsz_any a _).mono ?_; rintro e w' ⟨rfl, rfl⟩
  rw [HSA.out]
  go_wp2_with fail
  refine (rsz_any b _).mono ?_; rintro e w' ⟨rfl, rfl⟩
  rw [HSB.out]
  go_wp2_with fail
  refine (rng_any a _).mono ?_; rintro e w' ⟨rfl, rfl⟩
  rw [HA.out]
  go_wp2_with fail
  refine (rng_any b _).mono ?_; rintro e w' ⟨rfl, rfl⟩
  rw [HB.out]
  go_wp2_with fail
  go_ret
  exact ⟨rfl, (Kp.rfl W).new _⟩
theorem rdo_10_tf (a b : Int) (ha : U64 a) (hb : U64 b) (h0 : b ≠ 0) (ga : ngB a = true) (gb : ngB b = false) (W : World) : Calls Tryz.prog 62 #[.int .i64 10, .int .u64 a, .int .u64 b] W fun e W' => e = .returned (.int .u64 (IntKind.u64.wrap (-IntKind.u64.wrap ((szB a).tdiv (szB b))))) ∧ Kp W W' := by
  have hc := ftab_cell W 10 (by decide)
  rw [show str (ftab.getD 10 []) = .string ⟨#[100, 105, 118, 115]⟩ from rfl] at hc
  have ha0 := ha.1
  have hb0 := hb.1
  have HA := Lib.hid ga
  have HB := Lib.hid gb
  have h3 := szB_pos hb h0
  obtain ⟨A, hA⟩ : ∃ A, A = szB a := ⟨_, rfl⟩
  obtain ⟨B, hB⟩ : ∃ B, B = szB b := ⟨_, rfl⟩
  rw [← hB] at h3
  rw [← hA, ← hB]
  have HSA := Lib.hid hA.symm
  have HSB := Lib.hid hB.symm
  have hz : (b == 0) = false := by simpa using h0
  clear ga gb hA hB h0
  go_enter Tryz.func62, Tryz.ntmps62
  go_wp2_with fail
  refine (functions_any _).mono ?_; rintro e w' ⟨rfl, rfl⟩
  go_wp2_with fail
  refine (rsz_any a _).mono ?_; rintro e w' ⟨rfl, rfl⟩
  rw [HSA.out]
  go_wp2_with fail
  refine (rsz_any b _).mono ?_; rintro e w' ⟨rfl, rfl⟩
  rw [HSB.out]
  go_wp2_with fail
  refine (rng_any a _).mono ?_; rintro e w' ⟨rfl, rfl⟩
  rw [HA.out]
  go_wp2_with fail
  refine (rng_any b _).mono ?_; rintro e w' ⟨rfl, rfl⟩
  rw [HB.out]
  go_wp2_with fail
  go_ret
  exact ⟨rfl, (Kp.rfl W).new _⟩
theorem rdo_10_ft (a b : Int) (ha : U64 a) (hb : U64 b) (h0 : b ≠ 0) (ga : ngB a = false) (gb : ngB b = true) (W : World) : Calls Tryz.prog 62 #[.int .i64 10, .int .u64 a, .int .u64 b] W fun e W' => e = .returned (.int .u64 (IntKind.u64.wrap (-IntKind.u64.wrap ((szB a).tdiv (szB b))))) ∧ Kp W W' := by
  have hc := ftab_cell W 10 (by decide)
  rw [show str (ftab.getD 10 []) = .string ⟨#[100, 105, 118, 115]⟩ from rfl] at hc
  have ha0 := ha.1
  have hb0 := hb.1
  have HA := Lib.hid ga
  have HB := Lib.hid gb
  have h3 := szB_pos hb h0
  obtain ⟨A, hA⟩ : ∃ A, A = szB a := ⟨_, rfl⟩
  obtain ⟨B, hB⟩ : ∃ B, B = szB b := ⟨_, rfl⟩
  rw [← hB] at h3
  rw [← hA, ← hB]
  have HSA := Lib.hid hA.symm
  have HSB := Lib.hid hB.symm
  have hz : (b == 0) = false := by simpa using h0
  clear ga gb hA hB h0
  go_enter Tryz.func62, Tryz.ntmps62
  go_wp2_with fail
  refine (functions_any _).mono ?_; rintro e w' ⟨rfl, rfl⟩
  go_wp2_with fail
  refine (rsz_any a _).mono ?_; rintro e w' ⟨rfl, rfl⟩
  rw [HSA.out]
  go_wp2_with fail
  refine (rsz_any b _).mono ?_; rintro e w' ⟨rfl, rfl⟩
  rw [HSB.out]
  go_wp2_with fail
  refine (rng_any a _).mono ?_; rintro e w' ⟨rfl, rfl⟩
  rw [HA.out]
  go_wp2_with fail
  refine (rng_any b _).mono ?_; rintro e w' ⟨rfl, rfl⟩
  rw [HB.out]
  go_wp2_with fail
  go_ret
  exact ⟨rfl, (Kp.rfl W).new _⟩
theorem rdo_10_ff (a b : Int) (ha : U64 a) (hb : U64 b) (h0 : b ≠ 0) (ga : ngB a = false) (gb : ngB b = false) (W : World) : Calls Tryz.prog 62 #[.int .i64 10, .int .u64 a, .int .u64 b] W fun e W' => e = .returned (.int .u64 (IntKind.u64.wrap ((szB a).tdiv (szB b)))) ∧ Kp W W' := by
  have hc := ftab_cell W 10 (by decide)
  rw [show str (ftab.getD 10 []) = .string ⟨#[100, 105, 118, 115]⟩ from rfl] at hc
  have ha0 := ha.1
  have hb0 := hb.1
  have HA := Lib.hid ga
  have HB := Lib.hid gb
  have h3 := szB_pos hb h0
  obtain ⟨A, hA⟩ : ∃ A, A = szB a := ⟨_, rfl⟩
  obtain ⟨B, hB⟩ : ∃ B, B = szB b := ⟨_, rfl⟩
  rw [← hB] at h3
  rw [← hA, ← hB]
  have HSA := Lib.hid hA.symm
  have HSB := Lib.hid hB.symm
  have hz : (b == 0) = false := by simpa using h0
  clear ga gb hA hB h0
  go_enter Tryz.func62, Tryz.ntmps62
  go_wp2_with fail
  refine (functions_any _).mono ?_; rintro e w' ⟨rfl, rfl⟩
  go_wp2_with fail
  refine (rsz_any a _).mono ?_; rintro e w' ⟨rfl, rfl⟩
  rw [HSA.out]
  go_wp2_with fail
  refine (rsz_any b _).mono ?_; rintro e w' ⟨rfl, rfl⟩
  rw [HSB.out]
  go_wp2_with fail
  refine (rng_any a _).mono ?_; rintro e w' ⟨rfl, rfl⟩
  rw [HA.out]
  go_wp2_with fail
  refine (rng_any b _).mono ?_; rintro e w' ⟨rfl, rfl⟩
  rw [HB.out]
  go_wp2_with fail
  go_ret
  exact ⟨rfl, (Kp.rfl W).new _⟩
theorem sar_step {a : Int} (_ha : U64 a) (j : Nat) : IntKind.u64.wrap (IntKind.u64.wrap ((IntKind.u64.wrap (wrap64 a / 2 ^ j)).tdiv 2) + IntKind.u64.wrap (oneB (ngB (IntKind.u64.wrap (wrap64 a / 2 ^ j))) * 9223372036854775808)) = IntKind.u64.wrap (wrap64 a / 2 ^ (j + 1)) := by
  have hs : -9223372036854775808 ≤ wrap64 a ∧ wrap64 a < 9223372036854775808 := by unfold wrap64; omega
  have e : wrap64 a / 2 ^ (j + 1) = wrap64 a / 2 ^ j / 2 := by rw [Int.pow_succ, Int.ediv_ediv_of_nonneg (Int.le_of_lt (Int.pow_pos (by decide)))]
  have hm : -9223372036854775808 ≤ wrap64 a / 2 ^ j ∧ wrap64 a / 2 ^ j < 9223372036854775808 := by
    have p : (0 : Int) < 2 ^ j := Int.pow_pos (by decide)
    generalize (2 : Int) ^ j = t at p ⊢
    constructor
    · rw [Int.le_ediv_iff_mul_le p]
      omega
    · rw [Int.ediv_lt_iff_lt_mul p]
      omega
  rw [e]
  generalize wrap64 a / 2 ^ j = m at hm ⊢
  unfold ngB oneB
  rw [Int.tdiv_eq_ediv_of_nonneg (by rw [IntKind.wrap_u64]; omega)]
  simp only [IntKind.wrap_u64]
  by_cases h : 9223372036854775808 ≤ m % 18446744073709551616
  · simp only [h, decide_true, if_true]
    omega
  · simp only [h, decide_false, Bool.false_eq_true, if_false]
    omega
theorem sar_0 {a : Int} (ha : U64 a) : IntKind.u64.wrap (wrap64 a / 2 ^ 0) = a := by
  rw [IntKind.wrap_u64]
  unfold U64 at ha
  unfold wrap64
  simp only [Int.pow_zero, Int.ediv_one]
  omega
theorem rdo_13 (a b : Int) (ha : U64 a) (hb : U64 b) (W : World) : Calls Tryz.prog 62 #[.int .i64 13, .int .u64 a, .int .u64 b] W fun e W' => e = .returned (.int .u64 (IntKind.u64.wrap (wrap64 a / 2 ^ (b % 64).toNat))) ∧ Kp W W' := by
  have hc := ftab_cell W 13 (by decide)
  rw [show str (ftab.getD 13 []) = .string ⟨#[115, 97, 114]⟩ from rfl] at hc
  have ha0 := ha.1
  have hb0 := hb.1
  go_enter Tryz.func62, Tryz.ntmps62
  go_wp2_with fail
  refine (functions_any _).mono ?_; rintro e w' ⟨rfl, rfl⟩
  go_wp2_with fail
  go_loop [1, 13] (fun x i => ∃ j : Nat, (j : Int) ≤ b % 64 ∧ i = .int .u64 j ∧ x = .int .u64 (IntKind.u64.wrap (wrap64 a / 2 ^ j))) (fun _ i => (b % 64 - intOf i).toNat)
  case atStart => exact ⟨0, by omega, rfl, by rw [sar_0 ha]⟩
  case round =>
    obtain ⟨j, hj, rfl, rfl⟩ := hrel
    have HS := Lib.hid (sar_step ha j)
    have ux : U64 (IntKind.u64.wrap (wrap64 a / 2 ^ j)) := by rw [IntKind.wrap_u64]; unfold U64; omega
    by_cases hl : (j : Int) < b % 64
    · have hj2 : IntKind.u64.wrap ((j : Int) + 1) = (j + 1 : Nat) := by rw [IntKind.wrap_u64]; omega
      generalize IntKind.u64.wrap (wrap64 a / 2 ^ j) = x at HS ux ⊢
      go_wp2_with fail
      refine (rng_any _ _).mono ?_; rintro e w' ⟨rfl, rfl⟩
      go_wp2_with fail
      refine (rone13_any _ _).mono ?_; rintro e w' ⟨rfl, rfl⟩
      go_wp2_with fail
      go_round
      case rel => exact ⟨j + 1, by omega, rfl, congrArg (Value.int .u64) HS.out⟩
      case measure => simp [intOf]; omega
    · have hl' := Int.not_lt.mp hl
      have hjj : (b % 64).toNat = j := by omega
      clear hl
      go_wp2_with fail
      go_ret
      exact ⟨rfl, (Kp.rfl W).new _⟩
end Go.Proofs.YthcncbbnjbhdkaaGreatDoor
