/- Walks of layer 1: products, of the code and of the document's own answers. -/
import Derived.Test.YtbpcidpladnhfaaGreatDoorBity
import Derived.Test.YtbpcidpladnhfaaGreatDoorBitv
import Derived.Below
import Derived.Deep.RegionWith
namespace Go.Proofs.YtbpcidpladnhfaaGreatDoor
open Go.RowKit
open Cq (U64 I64 isW nb zx mask neg sx oneI bit mhi mlo shi cLow cMid cCross)

theorem mulU_any (a b : Int) (ha : U64 a) (hb : U64 b) (W : World) : Calls Tryz.prog 105 #[.int .u64 a, .int .u64 b] W
    fun e W' => e = .returned (.tuple #[.int .u64 (mhi (a * b)), .int .u64 (mlo (a * b))]) ∧ W = W' := by
  have H1 := Lib.hid (Cq.code_mul ha hb).1
  have H2 := Lib.hid (Cq.code_mulLo ha hb)
  unfold cCross cMid cLow at H1 H2
  have ha0 := ha.1
  have hb0 := hb.1
  go_enter Tryz.func105, Tryz.ntmps105
  go_wp2_with fail
  refine (zx_any _ _ _).mono ?_; rintro e w' ⟨rfl, rfl⟩
  go_wp2_with fail
  refine (zx_any _ _ _).mono ?_; rintro e w' ⟨rfl, rfl⟩
  go_wp2_with fail
  refine (zx_any _ _ _).mono ?_; rintro e w' ⟨rfl, rfl⟩
  go_wp2_with fail
  refine (zx_any _ _ _).mono ?_; rintro e w' ⟨rfl, rfl⟩
  go_wp2_with fail
  go_ret2
  exact ⟨by rw [H1.out, H2.out]; rfl, rfl⟩
theorem mulS_any (a b : Int) (ha : U64 a) (hb : U64 b) (W : World) : Calls Tryz.prog 106 #[.int .u64 a, .int .u64 b] W
    fun e W' => e = .returned (.tuple #[.int .u64 (shi a b), .int .u64 (mlo (a * b))]) ∧ W = W' := by
  have HC := Lib.hid (Cq.code_mulS a b)
  cases na : neg a 8 <;> cases nb' : neg b 8
  all_goals
    have HA := Lib.hid na
    have HB := Lib.hid nb'
    clear na nb'
    go_enter Tryz.func106, Tryz.ntmps106
    go_wp2_with fail
    refine (mulU_any _ _ ha hb _).mono ?_; rintro e w' ⟨rfl, rfl⟩
    go_wp2_with fail
    refine (neg_any _ _ ha _).mono ?_; rintro e w' ⟨rfl, rfl⟩
    rw [HA.out]
    go_wp2_with fail
    refine (neg_any _ _ hb _).mono ?_; rintro e w' ⟨rfl, rfl⟩
    rw [HB.out]
    go_wp2_with fail
    go_ret2
  · exact ⟨by rw [HC.out.1 HA.out HB.out ha hb]; rfl, rfl⟩
  · exact ⟨by rw [HC.out.2.2.1 HA.out HB.out]; rfl, rfl⟩
  · exact ⟨by rw [HC.out.2.1 HA.out HB.out]; rfl, rfl⟩
  · exact ⟨by rw [HC.out.2.2.2 HA.out HB.out]; rfl, rfl⟩
theorem rmulU_any (a b : Int) (ha : U64 a) (hb : U64 b) (W : World) : Calls Tryz.prog 87 #[.int .u64 a, .int .u64 b] W
    fun e W' => e = .returned (.tuple #[.int .u64 (mhi (a * b)), .int .u64 (mlo (a * b))]) ∧ W = W' := by
  go_enter Tryz.func87, Tryz.ntmps87
  go_wp2_with fail
  go_loop [6, 7, 8] (fun h l i => ∃ k : Nat, k ≤ 64 ∧ i = .int .i64 ((k : Int) - 1) ∧ h = .int .u64 (mhi (a * (b / 2 ^ k))) ∧ l = .int .u64 (mlo (a * (b / 2 ^ k)))) (fun _ _ i => (intOf i + 1).toNat)
  case atStart =>
    have e : a * (b / 2 ^ 64) = 0 := by
      have : b / 2 ^ 64 = 0 := by have := hb.1; have := hb.2; omega
      rw [this, Int.mul_zero]
    exact ⟨64, by omega, by rfl, by rw [e]; rfl, by rw [e]; rfl⟩
  case round =>
    obtain ⟨k, hk, rfl, rfl, rfl⟩ := hrel
    by_cases hlt : k = 0
    · subst hlt
      go_wp2_with fail
      go_ret2
      exact ⟨by simp, rfl⟩
    · obtain ⟨j, rfl⟩ : ∃ j, k = j + 1 := ⟨k - 1, by omega⟩
      have HT := Lib.hid (Cq.mul_turn ha hb j)
      have ul := Cq.mlo_u64 (a * (b / 2 ^ (j + 1)))
      have hbit := Cq.bit_01 b j
      have hj : j ≤ 63 := by omega
      rw [show ((j + 1 : Nat) : Int) - 1 = j from by omega]
      clear hk hlt
      generalize mhi (a * (b / 2 ^ (j + 1))) = h at *
      generalize mlo (a * (b / 2 ^ (j + 1))) = l at *
      by_cases hz : bit b j = 0
      · have HZ := Lib.hid hz; clear hz
        go_wp2_with fail
        refine (bit_any l _ (by omega) ul _).mono ?_; rintro e w' ⟨rfl, rfl⟩
        go_wp2_with fail
        refine (bit_any b _ (by omega) hb _).mono ?_; rintro e w' ⟨rfl, rfl⟩
        rw [HZ.out]
        go_wp2_with fail
        go_round
        case rel => exact ⟨j, by omega, rfl, congrArg (Value.int .u64) (HT.out.1 HZ.out).1, congrArg (Value.int .u64) (HT.out.1 HZ.out).2⟩
        case measure => simp [intOf]
      · have HZ : Hid (bit b j = 1) := Lib.hid (by omega)
        clear hz
        by_cases hc : IntKind.u64.wrap (IntKind.u64.wrap (l * 2) + a) < a
        · go_wp2_with fail
          refine (bit_any l _ (by omega) ul _).mono ?_; rintro e w' ⟨rfl, rfl⟩
          go_wp2_with fail
          refine (bit_any b _ (by omega) hb _).mono ?_; rintro e w' ⟨rfl, rfl⟩
          rw [HZ.out]
          go_wp2_with fail
          go_round
          case rel => exact ⟨j, by omega, rfl, congrArg (Value.int .u64) ((HT.out.2 HZ.out).2.1 hc), congrArg (Value.int .u64) (HT.out.2 HZ.out).1⟩
          case measure => simp [intOf]
        · have hc' := Int.not_lt.mp hc
          clear hc
          go_wp2_with fail
          refine (bit_any l _ (by omega) ul _).mono ?_; rintro e w' ⟨rfl, rfl⟩
          go_wp2_with fail
          refine (bit_any b _ (by omega) hb _).mono ?_; rintro e w' ⟨rfl, rfl⟩
          rw [HZ.out]
          go_wp2_with fail
          go_round
          case rel => exact ⟨j, by omega, rfl, congrArg (Value.int .u64) ((HT.out.2 HZ.out).2.2 hc'), congrArg (Value.int .u64) (HT.out.2 HZ.out).1⟩
          case measure => simp [intOf]
theorem rmulS_any (a b : Int) (ha : U64 a) (hb : U64 b) (W : World) : Calls Tryz.prog 88 #[.int .u64 a, .int .u64 b] W
    fun e W' => e = .returned (.tuple #[.int .u64 (shi a b), .int .u64 (mlo (a * b))]) ∧ W = W' := by
  cases na : neg a 8 <;> cases nb' : neg b 8
  · have HA := Lib.hid na
    have HB := Lib.hid nb'
    have HE := Lib.hid (Cq.mulS_pos na nb' ha hb)
    clear na nb'
    go_enter Tryz.func88, Tryz.ntmps88
    go_wp2_with fail
    refine (rneg_any _ _ ha _).mono ?_; rintro e w' ⟨rfl, rfl⟩
    rw [HA.out]
    go_wp2_with fail
    refine (rneg_any _ _ hb _).mono ?_; rintro e w' ⟨rfl, rfl⟩
    rw [HB.out]
    go_wp2_with fail
    refine (rneg_any _ _ ha _).mono ?_; rintro e w' ⟨rfl, rfl⟩
    rw [HA.out]
    go_wp2_with fail
    refine (rneg_any _ _ hb _).mono ?_; rintro e w' ⟨rfl, rfl⟩
    rw [HB.out]
    go_wp2_with fail
    refine (rmulU_any _ _ ha hb _).mono ?_; rintro e w' ⟨rfl, rfl⟩
    go_wp2_with fail
    go_ret2
    exact ⟨by rw [HE.out]; rfl, rfl⟩
  · have HA := Lib.hid na
    have HB := Lib.hid nb'
    have HE := Lib.hid (Cq.mulS_right na nb' ha hb)
    clear na nb'
    go_enter Tryz.func88, Tryz.ntmps88
    go_wp2_with fail
    refine (rneg_any _ _ ha _).mono ?_; rintro e w' ⟨rfl, rfl⟩
    rw [HA.out]
    go_wp2_with fail
    refine (rneg_any _ _ hb _).mono ?_; rintro e w' ⟨rfl, rfl⟩
    rw [HB.out]
    go_wp2_with fail
    refine (rneg_any _ _ ha _).mono ?_; rintro e w' ⟨rfl, rfl⟩
    rw [HA.out]
    go_wp2_with fail
    refine (rneg_any _ _ hb _).mono ?_; rintro e w' ⟨rfl, rfl⟩
    rw [HB.out]
    go_wp2_with fail
    refine (rmulU_any _ _ ha (Cq.u64_wrap _) _).mono ?_; rintro e w' ⟨rfl, rfl⟩
    go_wp2_with fail
    · have ht : (IntKind.u64.wrap (-mlo (a * IntKind.u64.wrap (-b))) == 0) = true := by assumption
      rw [HE.out.1] at ht
      go_ret2
      exact ⟨by rw [HE.out.1, HE.out.2.1 (by simpa using ht)]; rfl, rfl⟩
    · have ht : (IntKind.u64.wrap (-mlo (a * IntKind.u64.wrap (-b))) == 0) = false := by assumption
      rw [HE.out.1] at ht
      go_ret2
      exact ⟨by rw [HE.out.1, HE.out.2.2 (by simpa using ht)]; rfl, rfl⟩
  · have HA := Lib.hid na
    have HB := Lib.hid nb'
    have HE := Lib.hid (Cq.mulS_left na nb' ha hb)
    clear na nb'
    go_enter Tryz.func88, Tryz.ntmps88
    go_wp2_with fail
    refine (rneg_any _ _ ha _).mono ?_; rintro e w' ⟨rfl, rfl⟩
    rw [HA.out]
    go_wp2_with fail
    refine (rneg_any _ _ hb _).mono ?_; rintro e w' ⟨rfl, rfl⟩
    rw [HB.out]
    go_wp2_with fail
    refine (rneg_any _ _ ha _).mono ?_; rintro e w' ⟨rfl, rfl⟩
    rw [HA.out]
    go_wp2_with fail
    refine (rneg_any _ _ hb _).mono ?_; rintro e w' ⟨rfl, rfl⟩
    rw [HB.out]
    go_wp2_with fail
    refine (rmulU_any _ _ (Cq.u64_wrap _) hb _).mono ?_; rintro e w' ⟨rfl, rfl⟩
    go_wp2_with fail
    · have ht : (IntKind.u64.wrap (-mlo (IntKind.u64.wrap (-a) * b)) == 0) = true := by assumption
      rw [HE.out.1] at ht
      go_ret2
      exact ⟨by rw [HE.out.1, HE.out.2.1 (by simpa using ht)]; rfl, rfl⟩
    · have ht : (IntKind.u64.wrap (-mlo (IntKind.u64.wrap (-a) * b)) == 0) = false := by assumption
      rw [HE.out.1] at ht
      go_ret2
      exact ⟨by rw [HE.out.1, HE.out.2.2 (by simpa using ht)]; rfl, rfl⟩
  · have HA := Lib.hid na
    have HB := Lib.hid nb'
    have HE := Lib.hid (Cq.mulS_both na nb' ha hb)
    clear na nb'
    go_enter Tryz.func88, Tryz.ntmps88
    go_wp2_with fail
    refine (rneg_any _ _ ha _).mono ?_; rintro e w' ⟨rfl, rfl⟩
    rw [HA.out]
    go_wp2_with fail
    refine (rneg_any _ _ hb _).mono ?_; rintro e w' ⟨rfl, rfl⟩
    rw [HB.out]
    go_wp2_with fail
    refine (rneg_any _ _ ha _).mono ?_; rintro e w' ⟨rfl, rfl⟩
    rw [HA.out]
    go_wp2_with fail
    refine (rneg_any _ _ hb _).mono ?_; rintro e w' ⟨rfl, rfl⟩
    rw [HB.out]
    go_wp2_with fail
    refine (rmulU_any _ _ (Cq.u64_wrap _) (Cq.u64_wrap _) _).mono ?_; rintro e w' ⟨rfl, rfl⟩
    go_wp2_with fail
    go_ret2
    exact ⟨by rw [HE.out.1, HE.out.2]; rfl, rfl⟩
end Go.Proofs.YtbpcidpladnhfaaGreatDoor

/- Walks of layer 13: the functions of two words, of the code and of the document's own answers. -/
namespace Go.Proofs.YtbpcidpladnhfaaGreatDoor
open Go Go.RowKit
open Cq (U64 I64 isW nb zx sx neg mhi mlo shi)

abbrev Kp (W W' : World) : Prop := Below W.heap.size W W'
theorem Kp.rfl (W : World) : Kp W W := Below.refl _ W
theorem Kp.next {W W1 W2 : World} (h : Kp W W1) (k : Kp W1 W2) : Kp W W2 := h.trans (k.mono h.size)
theorem Kp.new {W W1 : World} (h : Kp W W1) (o : Obj) : Kp W (W1.alloc o) := h.alloc h.size o
theorem Kp.draw {W W1 : World} (h : Kp W W1) : Kp W W1.drew := h.drew
def str (l : List UInt8) : Value := .string ⟨l.toArray⟩
def ftab : List (List UInt8) := [[], [97, 100, 100], [115, 117, 98], [97, 110, 100], [111, 114], [120, 111, 114], [109, 117, 108], [109, 117, 108, 117], [109, 117, 108, 115], [100, 105, 118, 117], [100, 105, 118, 115], [115, 104, 108], [115, 104, 114], [115, 97, 114], [101, 113], [108, 116, 117], [108, 116, 115]]
def ftabObj : Obj := .cells (ftab.map str).toArray 9
theorem ftab_cell (W : World) (n : Nat) (h : n < 17) : (W.alloc ftabObj).cell? ⟨W.heap.size, n, none⟩ = some (str (ftab.getD n [])) := by
  rw [World.cell?, heap_alloc_new]
  have : n < ftab.length := h
  simp [ftabObj, List.getElem?_eq_getElem this]
set_option maxRecDepth 100000 in
theorem functions_any (W : World) : Calls Tryz.prog 86 #[] W fun e W' => e = .returned (.slice (some ⟨W.heap.size, 0, none⟩) 17 17) ∧ W' = W.alloc ftabObj := by
  go_enter Tryz.func86, Tryz.ntmps86
  go_wp2_with fail
  go_ret
  exact ⟨by simp, by kernel_rfl⟩
def oneB (c : Bool) : Int := if c then 1 else 0
theorem rone13_any (c : Bool) (W : World) : Calls Tryz.prog 91 #[.bool c] W fun e W' => e = .returned (.int .u64 (oneB c)) ∧ W' = W := by
  cases c <;> (go_enter Tryz.func91, Tryz.ntmps91; go_wp2_with fail; go_ret; exact ⟨rfl, rfl⟩)
def ngB (a : Int) : Bool := decide (9223372036854775808 ≤ a)
theorem rng_any (a : Int) (W : World) : Calls Tryz.prog 90 #[.int .u64 a] W fun e W' => e = .returned (.bool (ngB a)) ∧ W' = W := by
  unfold ngB
  go_enter Tryz.func90, Tryz.ntmps90
  go_wp2_with fail
  go_ret
  exact ⟨rfl, rfl⟩
def szB (a : Int) : Int := if ngB a then IntKind.u64.wrap (0 - a) else a
theorem rsz_any (a : Int) (W : World) : Calls Tryz.prog 89 #[.int .u64 a] W fun e W' => e = .returned (.int .u64 (szB a)) ∧ W' = W := by
  unfold szB
  cases h : ngB a
  · have H := Lib.hid h
    clear h
    go_enter Tryz.func89, Tryz.ntmps89
    go_wp2_with fail
    refine (rng_any _ _).mono ?_; rintro e w' ⟨rfl, rfl⟩
    rw [H.out]
    go_wp2_with fail
    go_ret
    exact ⟨rfl, rfl⟩
  · have H := Lib.hid h
    clear h
    go_enter Tryz.func89, Tryz.ntmps89
    go_wp2_with fail
    refine (rng_any _ _).mono ?_; rintro e w' ⟨rfl, rfl⟩
    rw [H.out]
    go_wp2_with fail
    go_ret
    exact ⟨by simp, rfl⟩
end Go.Proofs.YtbpcidpladnhfaaGreatDoor

/- Walks of layer 13: each function of two words, of the code and of the document's own answers. -/
namespace Go.Proofs.YtbpcidpladnhfaaGreatDoor
open Go Go.RowKit
open Cq (U64 I64 isW nb zx sx neg mhi mlo shi)
set_option maxRecDepth 100000
set_option linter.unusedVariables false
theorem rdo_1 (a b : Int) (ha : U64 a) (hb : U64 b) (W : World) : Calls Tryz.prog 56 #[.int .i64 1, .int .u64 a, .int .u64 b] W fun e W' => e = .returned (.int .u64 (IntKind.u64.wrap (a + b))) ∧ Kp W W' := by
  have hc := ftab_cell W 1 (by decide)
  rw [show str (ftab.getD 1 []) = .string ⟨#[97, 100, 100]⟩ from rfl] at hc
  have ha0 := ha.1
  have hb0 := hb.1
  go_enter Tryz.func56, Tryz.ntmps56
  go_wp2_with fail
  refine (functions_any _).mono ?_; rintro e w' ⟨rfl, rfl⟩
  go_wp2_with fail
  go_ret
  exact ⟨rfl, (Kp.rfl W).new _⟩
theorem rdo_2 (a b : Int) (ha : U64 a) (hb : U64 b) (W : World) : Calls Tryz.prog 56 #[.int .i64 2, .int .u64 a, .int .u64 b] W fun e W' => e = .returned (.int .u64 (IntKind.u64.wrap (a - b))) ∧ Kp W W' := by
  have hc := ftab_cell W 2 (by decide)
  rw [show str (ftab.getD 2 []) = .string ⟨#[115, 117, 98]⟩ from rfl] at hc
  have ha0 := ha.1
  have hb0 := hb.1
  go_enter Tryz.func56, Tryz.ntmps56
  go_wp2_with fail
  refine (functions_any _).mono ?_; rintro e w' ⟨rfl, rfl⟩
  go_wp2_with fail
  go_ret
  exact ⟨rfl, (Kp.rfl W).new _⟩
theorem rdo_3 (a b : Int) (ha : U64 a) (hb : U64 b) (W : World) : Calls Tryz.prog 56 #[.int .i64 3, .int .u64 a, .int .u64 b] W fun e W' => e = .returned (.int .u64 (bits .and .u64 a b)) ∧ Kp W W' := by
  have hc := ftab_cell W 3 (by decide)
  rw [show str (ftab.getD 3 []) = .string ⟨#[97, 110, 100]⟩ from rfl] at hc
  have ha0 := ha.1
  have hb0 := hb.1
  go_enter Tryz.func56, Tryz.ntmps56
  go_wp2_with fail
  refine (functions_any _).mono ?_; rintro e w' ⟨rfl, rfl⟩
  go_wp2_with fail
  go_ret
  exact ⟨rfl, (Kp.rfl W).new _⟩
theorem rdo_4 (a b : Int) (ha : U64 a) (hb : U64 b) (W : World) : Calls Tryz.prog 56 #[.int .i64 4, .int .u64 a, .int .u64 b] W fun e W' => e = .returned (.int .u64 (bits .or .u64 a b)) ∧ Kp W W' := by
  have hc := ftab_cell W 4 (by decide)
  rw [show str (ftab.getD 4 []) = .string ⟨#[111, 114]⟩ from rfl] at hc
  have ha0 := ha.1
  have hb0 := hb.1
  go_enter Tryz.func56, Tryz.ntmps56
  go_wp2_with fail
  refine (functions_any _).mono ?_; rintro e w' ⟨rfl, rfl⟩
  go_wp2_with fail
  go_ret
  exact ⟨rfl, (Kp.rfl W).new _⟩
theorem rdo_5 (a b : Int) (ha : U64 a) (hb : U64 b) (W : World) : Calls Tryz.prog 56 #[.int .i64 5, .int .u64 a, .int .u64 b] W fun e W' => e = .returned (.int .u64 (bits .xor .u64 a b)) ∧ Kp W W' := by
  have hc := ftab_cell W 5 (by decide)
  rw [show str (ftab.getD 5 []) = .string ⟨#[120, 111, 114]⟩ from rfl] at hc
  have ha0 := ha.1
  have hb0 := hb.1
  go_enter Tryz.func56, Tryz.ntmps56
  go_wp2_with fail
  refine (functions_any _).mono ?_; rintro e w' ⟨rfl, rfl⟩
  go_wp2_with fail
  go_ret
  exact ⟨rfl, (Kp.rfl W).new _⟩
theorem rdo_6 (a b : Int) (ha : U64 a) (hb : U64 b) (W : World) : Calls Tryz.prog 56 #[.int .i64 6, .int .u64 a, .int .u64 b] W fun e W' => e = .returned (.int .u64 (IntKind.u64.wrap (a * b))) ∧ Kp W W' := by
  have hc := ftab_cell W 6 (by decide)
  rw [show str (ftab.getD 6 []) = .string ⟨#[109, 117, 108]⟩ from rfl] at hc
  have ha0 := ha.1
  have hb0 := hb.1
  go_enter Tryz.func56, Tryz.ntmps56
  go_wp2_with fail
  refine (functions_any _).mono ?_; rintro e w' ⟨rfl, rfl⟩
  go_wp2_with fail
  go_ret
  exact ⟨rfl, (Kp.rfl W).new _⟩
theorem rdo_7 (a b : Int) (ha : U64 a) (hb : U64 b) (W : World) : Calls Tryz.prog 56 #[.int .i64 7, .int .u64 a, .int .u64 b] W fun e W' => e = .returned (.int .u64 (mhi (a * b))) ∧ Kp W W' := by
  have hc := ftab_cell W 7 (by decide)
  rw [show str (ftab.getD 7 []) = .string ⟨#[109, 117, 108, 117]⟩ from rfl] at hc
  have ha0 := ha.1
  have hb0 := hb.1
  go_enter Tryz.func56, Tryz.ntmps56
  go_wp2_with fail
  refine (functions_any _).mono ?_; rintro e w' ⟨rfl, rfl⟩
  go_wp2_with fail
  refine (rmulU_any a b ha hb _).mono ?_; rintro e w' ⟨rfl, rfl⟩
  go_wp2_with fail
  go_ret
  exact ⟨rfl, (Kp.rfl W).new _⟩
theorem rdo_8 (a b : Int) (ha : U64 a) (hb : U64 b) (W : World) : Calls Tryz.prog 56 #[.int .i64 8, .int .u64 a, .int .u64 b] W fun e W' => e = .returned (.int .u64 (shi a b)) ∧ Kp W W' := by
  have hc := ftab_cell W 8 (by decide)
  rw [show str (ftab.getD 8 []) = .string ⟨#[109, 117, 108, 115]⟩ from rfl] at hc
  have ha0 := ha.1
  have hb0 := hb.1
  go_enter Tryz.func56, Tryz.ntmps56
  go_wp2_with fail
  refine (functions_any _).mono ?_; rintro e w' ⟨rfl, rfl⟩
  go_wp2_with fail
  refine (rmulS_any a b ha hb _).mono ?_; rintro e w' ⟨rfl, rfl⟩
  go_wp2_with fail
  go_ret
  exact ⟨rfl, (Kp.rfl W).new _⟩
theorem rdo_9_0 (a b : Int) (ha : U64 a) (hb : U64 b) (h0 : b = 0) (W : World) : Calls Tryz.prog 56 #[.int .i64 9, .int .u64 a, .int .u64 b] W fun e W' => e = .returned (.int .u64 (0)) ∧ Kp W W' := by
  have hc := ftab_cell W 9 (by decide)
  rw [show str (ftab.getD 9 []) = .string ⟨#[100, 105, 118, 117]⟩ from rfl] at hc
  have ha0 := ha.1
  have hb0 := hb.1
  subst h0
  go_enter Tryz.func56, Tryz.ntmps56
  go_wp2_with fail
  refine (functions_any _).mono ?_; rintro e w' ⟨rfl, rfl⟩
  go_wp2_with fail
  go_ret
  exact ⟨rfl, (Kp.rfl W).new _⟩
theorem rdo_10_0 (a b : Int) (ha : U64 a) (hb : U64 b) (h0 : b = 0) (W : World) : Calls Tryz.prog 56 #[.int .i64 10, .int .u64 a, .int .u64 b] W fun e W' => e = .returned (.int .u64 (0)) ∧ Kp W W' := by
  have hc := ftab_cell W 10 (by decide)
  rw [show str (ftab.getD 10 []) = .string ⟨#[100, 105, 118, 115]⟩ from rfl] at hc
  have ha0 := ha.1
  have hb0 := hb.1
  subst h0
  go_enter Tryz.func56, Tryz.ntmps56
  go_wp2_with fail
  refine (functions_any _).mono ?_; rintro e w' ⟨rfl, rfl⟩
  go_wp2_with fail
  go_ret
  exact ⟨rfl, (Kp.rfl W).new _⟩
theorem rdo_9_n (a b : Int) (ha : U64 a) (hb : U64 b) (h0 : b ≠ 0) (W : World) : Calls Tryz.prog 56 #[.int .i64 9, .int .u64 a, .int .u64 b] W fun e W' => e = .returned (.int .u64 (IntKind.u64.wrap (a.tdiv b))) ∧ Kp W W' := by
  have hc := ftab_cell W 9 (by decide)
  rw [show str (ftab.getD 9 []) = .string ⟨#[100, 105, 118, 117]⟩ from rfl] at hc
  have ha0 := ha.1
  have hb0 := hb.1
  have hz : (b == 0) = false := by simpa using h0
  have hn : (b != 0) = true := by simpa using h0
  have hp : 0 < b := by unfold U64 at hb; omega
  clear h0
  go_enter Tryz.func56, Tryz.ntmps56
  go_wp2_with fail
  refine (functions_any _).mono ?_; rintro e w' ⟨rfl, rfl⟩
  go_wp2_with fail
  go_ret
  exact ⟨rfl, (Kp.rfl W).new _⟩
theorem rdo_14 (a b : Int) (ha : U64 a) (hb : U64 b) (W : World) : Calls Tryz.prog 56 #[.int .i64 14, .int .u64 a, .int .u64 b] W fun e W' => e = .returned (.int .u64 (oneB (a == b))) ∧ Kp W W' := by
  have hc := ftab_cell W 14 (by decide)
  rw [show str (ftab.getD 14 []) = .string ⟨#[101, 113]⟩ from rfl] at hc
  have ha0 := ha.1
  have hb0 := hb.1
  go_enter Tryz.func56, Tryz.ntmps56
  go_wp2_with fail
  refine (functions_any _).mono ?_; rintro e w' ⟨rfl, rfl⟩
  go_wp2_with fail
  refine (rone13_any _ _).mono ?_; rintro e w' ⟨rfl, rfl⟩
  go_wp2_with fail
  go_ret
  exact ⟨rfl, (Kp.rfl W).new _⟩
theorem rdo_15 (a b : Int) (ha : U64 a) (hb : U64 b) (W : World) : Calls Tryz.prog 56 #[.int .i64 15, .int .u64 a, .int .u64 b] W fun e W' => e = .returned (.int .u64 (oneB (decide (a < b)))) ∧ Kp W W' := by
  have hc := ftab_cell W 15 (by decide)
  rw [show str (ftab.getD 15 []) = .string ⟨#[108, 116, 117]⟩ from rfl] at hc
  have ha0 := ha.1
  have hb0 := hb.1
  go_enter Tryz.func56, Tryz.ntmps56
  go_wp2_with fail
  refine (functions_any _).mono ?_; rintro e w' ⟨rfl, rfl⟩
  go_wp2_with fail
  refine (rone13_any _ _).mono ?_; rintro e w' ⟨rfl, rfl⟩
  go_wp2_with fail
  go_ret
  exact ⟨rfl, (Kp.rfl W).new _⟩
end Go.Proofs.YtbpcidpladnhfaaGreatDoor

/- Walks of layer 13: each function of two words, of the code and of the document's own answers. -/
namespace Go.Proofs.YtbpcidpladnhfaaGreatDoor
open Go Go.RowKit
open Cq (U64 I64 isW nb zx sx neg mhi mlo shi)
set_option maxRecDepth 100000
set_option linter.unusedVariables false
theorem and_63 {x : Int} (h : U64 x) : bits .and .u64 x 63 = x % 64 := by
  obtain ⟨n, rfl⟩ : ∃ n : Nat, x = n := ⟨x.toNat, by have := h.1; omega⟩
  rw [u64_and n 63 h.1 h.2 (by decide) (by decide)]
  have : (n : Int).toNat &&& (63 : Int).toNat = n % 64 := Nat.and_two_pow_sub_one_eq_mod n 6
  rw [this]
  rfl
theorem rdo_11 (a b : Int) (ha : U64 a) (hb : U64 b) (W : World) : Calls Tryz.prog 56 #[.int .i64 11, .int .u64 a, .int .u64 b] W fun e W' => e = .returned (.int .u64 (IntKind.u64.wrap (a * 2 ^ (b % 64).toNat))) ∧ Kp W W' := by
  have hc := ftab_cell W 11 (by decide)
  rw [show str (ftab.getD 11 []) = .string ⟨#[115, 104, 108]⟩ from rfl] at hc
  have ha0 := ha.1
  have hb0 := hb.1
  go_enter Tryz.func56, Tryz.ntmps56
  go_wp2_with fail
  refine (functions_any _).mono ?_; rintro e w' ⟨rfl, rfl⟩
  go_wp2_with fail
  go_ret
  exact ⟨rfl, (Kp.rfl W).new _⟩
theorem rdo_12 (a b : Int) (ha : U64 a) (hb : U64 b) (W : World) : Calls Tryz.prog 56 #[.int .i64 12, .int .u64 a, .int .u64 b] W fun e W' => e = .returned (.int .u64 (a / 2 ^ (b % 64).toNat)) ∧ Kp W W' := by
  have hc := ftab_cell W 12 (by decide)
  rw [show str (ftab.getD 12 []) = .string ⟨#[115, 104, 114]⟩ from rfl] at hc
  have ha0 := ha.1
  have hb0 := hb.1
  go_enter Tryz.func56, Tryz.ntmps56
  go_wp2_with fail
  refine (functions_any _).mono ?_; rintro e w' ⟨rfl, rfl⟩
  go_wp2_with fail
  go_ret
  exact ⟨rfl, (Kp.rfl W).new _⟩
theorem sar_step {a : Int} (ha : U64 a) (j : Nat) : IntKind.u64.wrap (IntKind.u64.wrap ((IntKind.u64.wrap (wrap64 a / 2 ^ j)).tdiv 2) + IntKind.u64.wrap (oneB (ngB (IntKind.u64.wrap (wrap64 a / 2 ^ j))) * 9223372036854775808)) = IntKind.u64.wrap (wrap64 a / 2 ^ (j + 1)) := by
  have hs : -9223372036854775808 ≤ wrap64 a ∧ wrap64 a < 9223372036854775808 := by unfold wrap64; omega
  have e : wrap64 a / 2 ^ (j + 1) = wrap64 a / 2 ^ j / 2 := by rw [Int.pow_succ, Int.ediv_ediv_of_nonneg (Int.le_of_lt (Int.pow_pos (by decide)))]
  have hm : -9223372036854775808 ≤ wrap64 a / 2 ^ j ∧ wrap64 a / 2 ^ j < 9223372036854775808 := by
    have p : (0 : Int) < 2 ^ j := Int.pow_pos (by decide)
    generalize (2 : Int) ^ j = t at p ⊢
    constructor
    · rw [Int.le_ediv_iff_mul_le p]
      omega
    · rw [Int.ediv_lt_iff_lt_mul p]
      omega
  rw [e]
  generalize wrap64 a / 2 ^ j = m at hm ⊢
  unfold ngB oneB
  rw [Int.tdiv_eq_ediv_of_nonneg (by rw [IntKind.wrap_u64]; omega)]
  simp only [IntKind.wrap_u64]
  by_cases h : 9223372036854775808 ≤ m % 18446744073709551616
  · simp only [h, decide_true, if_true]
    omega
  · simp only [h, decide_false, Bool.false_eq_true, if_false]
    omega
theorem sar_0 {a : Int} (ha : U64 a) : IntKind.u64.wrap (wrap64 a / 2 ^ 0) = a := by
  rw [IntKind.wrap_u64]
  unfold U64 at ha
  unfold wrap64
  simp only [Int.pow_zero, Int.ediv_one]
  omega
theorem lts_1 {a b : Int} (ha : U64 a) (hb : U64 b) (h : ngB a = ngB b) : decide (wrap64 a < wrap64 b) = decide (a < b) := by
  unfold ngB at h
  unfold U64 at ha hb
  unfold wrap64
  simp only [decide_eq_decide] at h ⊢
  omega
theorem lts_2 {a b : Int} (ha : U64 a) (hb : U64 b) (h : ngB a ≠ ngB b) : decide (wrap64 a < wrap64 b) = ngB a := by
  unfold ngB at *
  unfold U64 at ha hb
  unfold wrap64
  by_cases h1 : 9223372036854775808 ≤ a <;> by_cases h2 : 9223372036854775808 ≤ b <;> simp [h1, h2] at h ⊢ <;> omega
theorem szB_bd {a : Int} (ha : U64 a) : 0 ≤ szB a ∧ szB a ≤ 9223372036854775808 := by
  unfold szB ngB
  unfold U64 at ha
  by_cases h : 9223372036854775808 ≤ a
  · simp only [h, decide_true, if_true, IntKind.wrap_u64]
    omega
  · simp only [h, decide_false, Bool.false_eq_true, if_false]
    omega
theorem szB_pos {a : Int} (ha : U64 a) (h0 : a ≠ 0) : ¬ szB a = 0 := by
  unfold szB ngB
  unfold U64 at ha
  by_cases h : 9223372036854775808 ≤ a
  · simp only [h, decide_true, if_true, IntKind.wrap_u64]
    omega
  · simp only [h, decide_false, Bool.false_eq_true, if_false]
    omega
theorem s_of {a : Int} (ha : U64 a) : wrap64 a = if ngB a then - szB a else szB a := by
  unfold szB ngB
  unfold U64 at ha
  unfold wrap64
  by_cases h : 9223372036854775808 ≤ a
  · simp only [h, decide_true, if_true, IntKind.wrap_u64]
    omega
  · simp only [h, decide_false, Bool.false_eq_true, if_false]
    omega
theorem divs_math {a b : Int} (ha : U64 a) (hb : U64 b) (h0 : b ≠ 0) : IntKind.u64.wrap (wrap64 ((wrap64 a).tdiv (wrap64 b))) = if ngB a != ngB b then IntKind.u64.wrap (-IntKind.u64.wrap ((szB a).tdiv (szB b))) else IntKind.u64.wrap ((szB a).tdiv (szB b)) := by
  have h1 := szB_bd ha
  have h2 := szB_bd hb
  have h3 := szB_pos hb h0
  rw [s_of ha, s_of hb]
  generalize szB a = A at *
  generalize szB b = B at *
  have hq : 0 ≤ A.tdiv B ∧ A.tdiv B ≤ 9223372036854775808 := by
    rw [Int.tdiv_eq_ediv_of_nonneg h1.1]
    exact ⟨Int.ediv_nonneg h1.1 h2.1, Int.le_trans (Int.ediv_le_self _ h1.1) h1.2⟩
  cases ngB a <;> cases ngB b
  · simp only [Bool.false_eq_true, if_false, bne_self_eq_false]
    generalize A.tdiv B = q at hq
    simp only [IntKind.wrap_u64]
    unfold wrap64
    omega
  · simp only [Bool.false_eq_true, if_false, if_true, Int.tdiv_neg, show (false != true) = true from rfl]
    generalize A.tdiv B = q at hq
    simp only [IntKind.wrap_u64]
    unfold wrap64
    omega
  · simp only [Bool.false_eq_true, if_false, if_true, Int.neg_tdiv, show (true != false) = true from rfl]
    generalize A.tdiv B = q at hq
    simp only [IntKind.wrap_u64]
    unfold wrap64
    omega
  · simp only [Bool.false_eq_true, if_false, if_true, Int.neg_tdiv, Int.tdiv_neg, Int.neg_neg, bne_self_eq_false]
    generalize A.tdiv B = q at hq
    simp only [IntKind.wrap_u64]
    unfold wrap64
    omega
theorem rdo_16_tt (a b : Int) (ha : U64 a) (hb : U64 b) (ga : ngB a = true) (gb : ngB b = true) (W : World) : Calls Tryz.prog 56 #[.int .i64 16, .int .u64 a, .int .u64 b] W fun e W' => e = .returned (.int .u64 (oneB (decide (a < b)))) ∧ Kp W W' := by
  have hc := ftab_cell W 16 (by decide)
  rw [show str (ftab.getD 16 []) = .string ⟨#[108, 116, 115]⟩ from rfl] at hc
  have ha0 := ha.1
  have hb0 := hb.1
  have HA := Lib.hid ga
  have HB := Lib.hid gb
  clear ga gb
  go_enter Tryz.func56, Tryz.ntmps56
  go_wp2_with fail
  refine (functions_any _).mono ?_; rintro e w' ⟨rfl, rfl⟩
  go_wp2_with fail
  refine (rng_any a _).mono ?_; rintro e w' ⟨rfl, rfl⟩
  rw [HA.out]
  go_wp2_with fail
  refine (rng_any b _).mono ?_; rintro e w' ⟨rfl, rfl⟩
  rw [HB.out]
  go_wp2_with fail
  refine (rone13_any _ _).mono ?_; rintro e w' ⟨rfl, rfl⟩
  go_wp2_with fail
  go_ret
  exact ⟨rfl, (Kp.rfl W).new _⟩
theorem rdo_10_tt (a b : Int) (ha : U64 a) (hb : U64 b) (h0 : b ≠ 0) (ga : ngB a = true) (gb : ngB b = true) (W : World) : Calls Tryz.prog 56 #[.int .i64 10, .int .u64 a, .int .u64 b] W fun e W' => e = .returned (.int .u64 (IntKind.u64.wrap ((szB a).tdiv (szB b)))) ∧ Kp W W' := by
  have hc := ftab_cell W 10 (by decide)
  rw [show str (ftab.getD 10 []) = .string ⟨#[100, 105, 118, 115]⟩ from rfl] at hc
  have ha0 := ha.1
  have hb0 := hb.1
  have HA := Lib.hid ga
  have HB := Lib.hid gb
  have h3 := szB_pos hb h0
  obtain ⟨A, hA⟩ : ∃ A, A = szB a := ⟨_, rfl⟩
  obtain ⟨B, hB⟩ : ∃ B, B = szB b := ⟨_, rfl⟩
  rw [← hB] at h3
  rw [← hA, ← hB]
  have HSA := Lib.hid hA.symm
  have HSB := Lib.hid hB.symm
  have hz : (b == 0) = false := by simpa using h0
  clear ga gb hA hB h0
  go_enter Tryz.func56, Tryz.ntmps56
  go_wp2_with fail
  refine (functions_any _).mono ?_; rintro e w' ⟨rfl, rfl⟩
  go_wp2_with fail
  refine (rsz_any a _).mono ?_; rintro e w' ⟨rfl, rfl⟩
  rw [HSA.out]
  go_wp2_with fail
  refine (rsz_any b _).mono ?_; rintro e w' ⟨rfl, rfl⟩
  rw [HSB.out]
  go_wp2_with fail
  refine (rng_any a _).mono ?_; rintro e w' ⟨rfl, rfl⟩
  rw [HA.out]
  go_wp2_with fail
  refine (rng_any b _).mono ?_; rintro e w' ⟨rfl, rfl⟩
  rw [HB.out]
  go_wp2_with fail
  go_ret
  exact ⟨rfl, (Kp.rfl W).new _⟩
theorem rdo_16_tf (a b : Int) (ha : U64 a) (hb : U64 b) (ga : ngB a = true) (gb : ngB b = false) (W : World) : Calls Tryz.prog 56 #[.int .i64 16, .int .u64 a, .int .u64 b] W fun e W' => e = .returned (.int .u64 (oneB true)) ∧ Kp W W' := by
  have hc := ftab_cell W 16 (by decide)
  rw [show str (ftab.getD 16 []) = .string ⟨#[108, 116, 115]⟩ from rfl] at hc
  have ha0 := ha.1
  have hb0 := hb.1
  have HA := Lib.hid ga
  have HB := Lib.hid gb
  clear ga gb
  go_enter Tryz.func56, Tryz.ntmps56
  go_wp2_with fail
  refine (functions_any _).mono ?_; rintro e w' ⟨rfl, rfl⟩
  go_wp2_with fail
  refine (rng_any a _).mono ?_; rintro e w' ⟨rfl, rfl⟩
  rw [HA.out]
  go_wp2_with fail
  refine (rng_any b _).mono ?_; rintro e w' ⟨rfl, rfl⟩
  rw [HB.out]
  go_wp2_with fail
  refine (rng_any a _).mono ?_; rintro e w' ⟨rfl, rfl⟩
  rw [HA.out]
  go_wp2_with fail
  refine (rone13_any _ _).mono ?_; rintro e w' ⟨rfl, rfl⟩
  go_wp2_with fail
  go_ret
  exact ⟨rfl, (Kp.rfl W).new _⟩
theorem rdo_10_tf (a b : Int) (ha : U64 a) (hb : U64 b) (h0 : b ≠ 0) (ga : ngB a = true) (gb : ngB b = false) (W : World) : Calls Tryz.prog 56 #[.int .i64 10, .int .u64 a, .int .u64 b] W fun e W' => e = .returned (.int .u64 (IntKind.u64.wrap (-IntKind.u64.wrap ((szB a).tdiv (szB b))))) ∧ Kp W W' := by
  have hc := ftab_cell W 10 (by decide)
  rw [show str (ftab.getD 10 []) = .string ⟨#[100, 105, 118, 115]⟩ from rfl] at hc
  have ha0 := ha.1
  have hb0 := hb.1
  have HA := Lib.hid ga
  have HB := Lib.hid gb
  have h3 := szB_pos hb h0
  obtain ⟨A, hA⟩ : ∃ A, A = szB a := ⟨_, rfl⟩
  obtain ⟨B, hB⟩ : ∃ B, B = szB b := ⟨_, rfl⟩
  rw [← hB] at h3
  rw [← hA, ← hB]
  have HSA := Lib.hid hA.symm
  have HSB := Lib.hid hB.symm
  have hz : (b == 0) = false := by simpa using h0
  clear ga gb hA hB h0
  go_enter Tryz.func56, Tryz.ntmps56
  go_wp2_with fail
  refine (functions_any _).mono ?_; rintro e w' ⟨rfl, rfl⟩
  go_wp2_with fail
  refine (rsz_any a _).mono ?_; rintro e w' ⟨rfl, rfl⟩
  rw [HSA.out]
  go_wp2_with fail
  refine (rsz_any b _).mono ?_; rintro e w' ⟨rfl, rfl⟩
  rw [HSB.out]
  go_wp2_with fail
  refine (rng_any a _).mono ?_; rintro e w' ⟨rfl, rfl⟩
  rw [HA.out]
  go_wp2_with fail
  refine (rng_any b _).mono ?_; rintro e w' ⟨rfl, rfl⟩
  rw [HB.out]
  go_wp2_with fail
  go_ret
  exact ⟨rfl, (Kp.rfl W).new _⟩
theorem rdo_16_ft (a b : Int) (ha : U64 a) (hb : U64 b) (ga : ngB a = false) (gb : ngB b = true) (W : World) : Calls Tryz.prog 56 #[.int .i64 16, .int .u64 a, .int .u64 b] W fun e W' => e = .returned (.int .u64 (oneB false)) ∧ Kp W W' := by
  have hc := ftab_cell W 16 (by decide)
  rw [show str (ftab.getD 16 []) = .string ⟨#[108, 116, 115]⟩ from rfl] at hc
  have ha0 := ha.1
  have hb0 := hb.1
  have HA := Lib.hid ga
  have HB := Lib.hid gb
  clear ga gb
  go_enter Tryz.func56, Tryz.ntmps56
  go_wp2_with fail
  refine (functions_any _).mono ?_; rintro e w' ⟨rfl, rfl⟩
  go_wp2_with fail
  refine (rng_any a _).mono ?_; rintro e w' ⟨rfl, rfl⟩
  rw [HA.out]
  go_wp2_with fail
  refine (rng_any b _).mono ?_; rintro e w' ⟨rfl, rfl⟩
  rw [HB.out]
  go_wp2_with fail
  refine (rng_any a _).mono ?_; rintro e w' ⟨rfl, rfl⟩
  rw [HA.out]
  go_wp2_with fail
  refine (rone13_any _ _).mono ?_; rintro e w' ⟨rfl, rfl⟩
  go_wp2_with fail
  go_ret
  exact ⟨rfl, (Kp.rfl W).new _⟩
theorem rdo_10_ft (a b : Int) (ha : U64 a) (hb : U64 b) (h0 : b ≠ 0) (ga : ngB a = false) (gb : ngB b = true) (W : World) : Calls Tryz.prog 56 #[.int .i64 10, .int .u64 a, .int .u64 b] W fun e W' => e = .returned (.int .u64 (IntKind.u64.wrap (-IntKind.u64.wrap ((szB a).tdiv (szB b))))) ∧ Kp W W' := by
  have hc := ftab_cell W 10 (by decide)
  rw [show str (ftab.getD 10 []) = .string ⟨#[100, 105, 118, 115]⟩ from rfl] at hc
  have ha0 := ha.1
  have hb0 := hb.1
  have HA := Lib.hid ga
  have HB := Lib.hid gb
  have h3 := szB_pos hb h0
  obtain ⟨A, hA⟩ : ∃ A, A = szB a := ⟨_, rfl⟩
  obtain ⟨B, hB⟩ : ∃ B, B = szB b := ⟨_, rfl⟩
  rw [← hB] at h3
  rw [← hA, ← hB]
  have HSA := Lib.hid hA.symm
  have HSB := Lib.hid hB.symm
  have hz : (b == 0) = false := by simpa using h0
  clear ga gb hA hB h0
  go_enter Tryz.func56, Tryz.ntmps56
  go_wp2_with fail
  refine (functions_any _).mono ?_; rintro e w' ⟨rfl, rfl⟩
  go_wp2_with fail
  refine (rsz_any a _).mono ?_; rintro e w' ⟨rfl, rfl⟩
  rw [HSA.out]
  go_wp2_with fail
  refine (rsz_any b _).mono ?_; rintro e w' ⟨rfl, rfl⟩
  rw [HSB.out]
  go_wp2_with fail
  refine (rng_any a _).mono ?_; rintro e w' ⟨rfl, rfl⟩
  rw [HA.out]
  go_wp2_with fail
  refine (rng_any b _).mono ?_; rintro e w' ⟨rfl, rfl⟩
  rw [HB.out]
  go_wp2_with fail
  go_ret
  exact ⟨rfl, (Kp.rfl W).new _⟩
theorem rdo_16_ff (a b : Int) (ha : U64 a) (hb : U64 b) (ga : ngB a = false) (gb : ngB b = false) (W : World) : Calls Tryz.prog 56 #[.int .i64 16, .int .u64 a, .int .u64 b] W fun e W' => e = .returned (.int .u64 (oneB (decide (a < b)))) ∧ Kp W W' := by
  have hc := ftab_cell W 16 (by decide)
  rw [show str (ftab.getD 16 []) = .string ⟨#[108, 116, 115]⟩ from rfl] at hc
  have ha0 := ha.1
  have hb0 := hb.1
  have HA := Lib.hid ga
  have HB := Lib.hid gb
  clear ga gb
  go_enter Tryz.func56, Tryz.ntmps56
  go_wp2_with fail
  refine (functions_any _).mono ?_; rintro e w' ⟨rfl, rfl⟩
  go_wp2_with fail
  refine (rng_any a _).mono ?_; rintro e w' ⟨rfl, rfl⟩
  rw [HA.out]
  go_wp2_with fail
  refine (rng_any b _).mono ?_; rintro e w' ⟨rfl, rfl⟩
  rw [HB.out]
  go_wp2_with fail
  refine (rone13_any _ _).mono ?_; rintro e w' ⟨rfl, rfl⟩
  go_wp2_with fail
  go_ret
  exact ⟨rfl, (Kp.rfl W).new _⟩
theorem rdo_10_ff (a b : Int) (ha : U64 a) (hb : U64 b) (h0 : b ≠ 0) (ga : ngB a = false) (gb : ngB b = false) (W : World) : Calls Tryz.prog 56 #[.int .i64 10, .int .u64 a, .int .u64 b] W fun e W' => e = .returned (.int .u64 (IntKind.u64.wrap ((szB a).tdiv (szB b)))) ∧ Kp W W' := by
  have hc := ftab_cell W 10 (by decide)
  rw [show str (ftab.getD 10 []) = .string ⟨#[100, 105, 118, 115]⟩ from rfl] at hc
  have ha0 := ha.1
  have hb0 := hb.1
  have HA := Lib.hid ga
  have HB := Lib.hid gb
  have h3 := szB_pos hb h0
  obtain ⟨A, hA⟩ : ∃ A, A = szB a := ⟨_, rfl⟩
  obtain ⟨B, hB⟩ : ∃ B, B = szB b := ⟨_, rfl⟩
  rw [← hB] at h3
  rw [← hA, ← hB]
  have HSA := Lib.hid hA.symm
  have HSB := Lib.hid hB.symm
  have hz : (b == 0) = false := by simpa using h0
  clear ga gb hA hB h0
  go_enter Tryz.func56, Tryz.ntmps56
  go_wp2_with fail
  refine (functions_any _).mono ?_; rintro e w' ⟨rfl, rfl⟩
  go_wp2_with fail
  refine (rsz_any a _).mono ?_; rintro e w' ⟨rfl, rfl⟩
  rw [HSA.out]
  go_wp2_with fail
  refine (rsz_any b _).mono ?_; rintro e w' ⟨rfl, rfl⟩
  rw [HSB.out]
  go_wp2_with fail
  refine (rng_any a _).mono ?_; rintro e w' ⟨rfl, rfl⟩
  rw [HA.out]
  go_wp2_with fail
  refine (rng_any b _).mono ?_; rintro e w' ⟨rfl, rfl⟩
  rw [HB.out]
  go_wp2_with fail
  go_ret
  exact ⟨rfl, (Kp.rfl W).new _⟩
theorem rdo_13 (a b : Int) (ha : U64 a) (hb : U64 b) (W : World) : Calls Tryz.prog 56 #[.int .i64 13, .int .u64 a, .int .u64 b] W fun e W' => e = .returned (.int .u64 (IntKind.u64.wrap (wrap64 a / 2 ^ (b % 64).toNat))) ∧ Kp W W' := by
  have hc := ftab_cell W 13 (by decide)
  rw [show str (ftab.getD 13 []) = .string ⟨#[115, 97, 114]⟩ from rfl] at hc
  have ha0 := ha.1
  have hb0 := hb.1
  go_enter Tryz.func56, Tryz.ntmps56
  go_wp2_with fail
  refine (functions_any _).mono ?_; rintro e w' ⟨rfl, rfl⟩
  go_wp2_with fail
  go_loop [1, 13] (fun x i => ∃ j : Nat, (j : Int) ≤ b % 64 ∧ i = .int .u64 j ∧ x = .int .u64 (IntKind.u64.wrap (wrap64 a / 2 ^ j))) (fun _ i => (b % 64 - intOf i).toNat)
  case atStart => exact ⟨0, by omega, rfl, by rw [sar_0 ha]⟩
  case round =>
    obtain ⟨j, hj, rfl, rfl⟩ := hrel
    have HS := Lib.hid (sar_step ha j)
    have ux : U64 (IntKind.u64.wrap (wrap64 a / 2 ^ j)) := by rw [IntKind.wrap_u64]; unfold U64; omega
    by_cases hl : (j : Int) < b % 64
    · have hj2 : IntKind.u64.wrap ((j : Int) + 1) = (j + 1 : Nat) := by rw [IntKind.wrap_u64]; omega
      generalize IntKind.u64.wrap (wrap64 a / 2 ^ j) = x at HS ux ⊢
      go_wp2_with fail
      refine (rng_any _ _).mono ?_; rintro e w' ⟨rfl, rfl⟩
      go_wp2_with fail
      refine (rone13_any _ _).mono ?_; rintro e w' ⟨rfl, rfl⟩
      go_wp2_with fail
      go_round
      case rel => exact ⟨j + 1, by omega, rfl, congrArg (Value.int .u64) HS.out⟩
      case measure => simp [intOf]; omega
    · have hl' := Int.not_lt.mp hl
      have hjj : (b % 64).toNat = j := by omega
      clear hl
      go_wp2_with fail
      go_ret
      exact ⟨rfl, (Kp.rfl W).new _⟩
end Go.Proofs.YtbpcidpladnhfaaGreatDoor
