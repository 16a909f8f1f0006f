/- Walks of layer 19: thirteen bits put together, of the code. -/
import Derived.Test.YtlhinabodofjeaaLh
namespace Lg
open Go
open Cq
/-- the thirteen bits of elements of n bits, q + 1 ones, turned by t -/
def code (n q t : Nat) : Nat := (if n = 64 then 4096 else 64 - 2 * n) + 64 * t + q
theorem xor2 : bits .xor .u32 IntKind.u32.max 3 = 4294967292 := by decide +kernel
theorem fld2 : field 4294967292 0 6 = 60 := by decide +kernel
theorem or2 : ∀ q : Nat, q < 1 → bits .or .u32 (q : Int) 60 = ((60 + q : Nat) : Int) := by decide +kernel
theorem with2 : ∀ q : Nat, q < 1 → ∀ t : Nat, t < 2 → withF ((60 + q : Nat) : Int) 6 6 (t : Int) = (code 2 q t : Int) := by decide +kernel
theorem xor4 : bits .xor .u32 IntKind.u32.max 7 = 4294967288 := by decide +kernel
theorem fld4 : field 4294967288 0 6 = 56 := by decide +kernel
theorem or4 : ∀ q : Nat, q < 3 → bits .or .u32 (q : Int) 56 = ((56 + q : Nat) : Int) := by decide +kernel
theorem with4 : ∀ q : Nat, q < 3 → ∀ t : Nat, t < 4 → withF ((56 + q : Nat) : Int) 6 6 (t : Int) = (code 4 q t : Int) := by decide +kernel
theorem xor8 : bits .xor .u32 IntKind.u32.max 15 = 4294967280 := by decide +kernel
theorem fld8 : field 4294967280 0 6 = 48 := by decide +kernel
theorem or8 : ∀ q : Nat, q < 7 → bits .or .u32 (q : Int) 48 = ((48 + q : Nat) : Int) := by decide +kernel
theorem with8 : ∀ q : Nat, q < 7 → ∀ t : Nat, t < 8 → withF ((48 + q : Nat) : Int) 6 6 (t : Int) = (code 8 q t : Int) := by decide +kernel
theorem xor16 : bits .xor .u32 IntKind.u32.max 31 = 4294967264 := by decide +kernel
theorem fld16 : field 4294967264 0 6 = 32 := by decide +kernel
theorem or16 : ∀ q : Nat, q < 15 → bits .or .u32 (q : Int) 32 = ((32 + q : Nat) : Int) := by decide +kernel
theorem with16 : ∀ q : Nat, q < 15 → ∀ t : Nat, t < 16 → withF ((32 + q : Nat) : Int) 6 6 (t : Int) = (code 16 q t : Int) := by decide +kernel
theorem xor32 : bits .xor .u32 IntKind.u32.max 63 = 4294967232 := by decide +kernel
theorem fld32 : field 4294967232 0 6 = 0 := by decide +kernel
theorem or32 : ∀ q : Nat, q < 31 → bits .or .u32 (q : Int) 0 = ((0 + q : Nat) : Int) := by decide +kernel
theorem with32 : ∀ q : Nat, q < 31 → ∀ t : Nat, t < 32 → withF ((0 + q : Nat) : Int) 6 6 (t : Int) = (code 32 q t : Int) := by decide +kernel
theorem top64 : ∀ q : Nat, q < 63 → withF (q : Int) 12 1 1 = 4096 + (q : Int) := by decide +kernel
theorem with64 : ∀ q : Nat, q < 63 → ∀ t : Nat, t < 64 → withF (4096 + (q : Int)) 6 6 (t : Int) = (code 64 q t : Int) := by decide +kernel
end Lg
namespace Go.Proofs.Ytlhinabodofjeaa
open Go.RowKit
open Cq (U32 U64 I64 inF field withF onesF fieldN withN ones fitsU)
open Lg

theorem joined2 (q t : Nat) (hq : q < 1) (ht : t < 2) (W : World) : Calls Try.prog 20 #[.int .i64 2, .int .i64 ((q : Int) + 1), .int .i64 t] W
    fun e W' => e = .returned (.int .u32 (code 2 q t : Int)) ∧ W = W' := by
  have F0 := Lib.hid xor2
  have F1 := Lib.hid fld2
  have F2 := Lib.hid (or2 q hq)
  have F3 := Lib.hid (with2 q hq t ht)
  have hq0 : (0 : Int) ≤ q := by omega
  have hq1 : (q : Int) < 1 := by omega
  have ht0 : (0 : Int) ≤ t := by omega
  have ht1 : (t : Int) < 2 := by omega
  clear hq ht
  go_enter Try.func20, Try.ntmps20
  go_wp2_with fail
  rw [F0.out]
  refine (field_any _ _ _ (by unfold U32; omega) (by unfold I64; omega) (by unfold I64; omega) _).mono ?_; rintro e w' ⟨rfl, rfl⟩
  rw [F1.out]
  go_wp2_with fail
  rw [F2.out]
  refine (with_any _ _ _ _ (by unfold U32; omega) (by unfold U32; omega) (by unfold I64; omega) (by unfold I64; omega) _).mono ?_; rintro e w' ⟨rfl, rfl⟩
  rw [F3.out]
  go_wp2_with fail
  go_ret
  exact ⟨rfl, rfl⟩
theorem joined4 (q t : Nat) (hq : q < 3) (ht : t < 4) (W : World) : Calls Try.prog 20 #[.int .i64 4, .int .i64 ((q : Int) + 1), .int .i64 t] W
    fun e W' => e = .returned (.int .u32 (code 4 q t : Int)) ∧ W = W' := by
  have F0 := Lib.hid xor4
  have F1 := Lib.hid fld4
  have F2 := Lib.hid (or4 q hq)
  have F3 := Lib.hid (with4 q hq t ht)
  have hq0 : (0 : Int) ≤ q := by omega
  have hq1 : (q : Int) < 3 := by omega
  have ht0 : (0 : Int) ≤ t := by omega
  have ht1 : (t : Int) < 4 := by omega
  clear hq ht
  go_enter Try.func20, Try.ntmps20
  go_wp2_with fail
  rw [F0.out]
  refine (field_any _ _ _ (by unfold U32; omega) (by unfold I64; omega) (by unfold I64; omega) _).mono ?_; rintro e w' ⟨rfl, rfl⟩
  rw [F1.out]
  go_wp2_with fail
  rw [F2.out]
  refine (with_any _ _ _ _ (by unfold U32; omega) (by unfold U32; omega) (by unfold I64; omega) (by unfold I64; omega) _).mono ?_; rintro e w' ⟨rfl, rfl⟩
  rw [F3.out]
  go_wp2_with fail
  go_ret
  exact ⟨rfl, rfl⟩
theorem joined8 (q t : Nat) (hq : q < 7) (ht : t < 8) (W : World) : Calls Try.prog 20 #[.int .i64 8, .int .i64 ((q : Int) + 1), .int .i64 t] W
    fun e W' => e = .returned (.int .u32 (code 8 q t : Int)) ∧ W = W' := by
  have F0 := Lib.hid xor8
  have F1 := Lib.hid fld8
  have F2 := Lib.hid (or8 q hq)
  have F3 := Lib.hid (with8 q hq t ht)
  have hq0 : (0 : Int) ≤ q := by omega
  have hq1 : (q : Int) < 7 := by omega
  have ht0 : (0 : Int) ≤ t := by omega
  have ht1 : (t : Int) < 8 := by omega
  clear hq ht
  go_enter Try.func20, Try.ntmps20
  go_wp2_with fail
  rw [F0.out]
  refine (field_any _ _ _ (by unfold U32; omega) (by unfold I64; omega) (by unfold I64; omega) _).mono ?_; rintro e w' ⟨rfl, rfl⟩
  rw [F1.out]
  go_wp2_with fail
  rw [F2.out]
  refine (with_any _ _ _ _ (by unfold U32; omega) (by unfold U32; omega) (by unfold I64; omega) (by unfold I64; omega) _).mono ?_; rintro e w' ⟨rfl, rfl⟩
  rw [F3.out]
  go_wp2_with fail
  go_ret
  exact ⟨rfl, rfl⟩
theorem joined16 (q t : Nat) (hq : q < 15) (ht : t < 16) (W : World) : Calls Try.prog 20 #[.int .i64 16, .int .i64 ((q : Int) + 1), .int .i64 t] W
    fun e W' => e = .returned (.int .u32 (code 16 q t : Int)) ∧ W = W' := by
  have F0 := Lib.hid xor16
  have F1 := Lib.hid fld16
  have F2 := Lib.hid (or16 q hq)
  have F3 := Lib.hid (with16 q hq t ht)
  have hq0 : (0 : Int) ≤ q := by omega
  have hq1 : (q : Int) < 15 := by omega
  have ht0 : (0 : Int) ≤ t := by omega
  have ht1 : (t : Int) < 16 := by omega
  clear hq ht
  go_enter Try.func20, Try.ntmps20
  go_wp2_with fail
  rw [F0.out]
  refine (field_any _ _ _ (by unfold U32; omega) (by unfold I64; omega) (by unfold I64; omega) _).mono ?_; rintro e w' ⟨rfl, rfl⟩
  rw [F1.out]
  go_wp2_with fail
  rw [F2.out]
  refine (with_any _ _ _ _ (by unfold U32; omega) (by unfold U32; omega) (by unfold I64; omega) (by unfold I64; omega) _).mono ?_; rintro e w' ⟨rfl, rfl⟩
  rw [F3.out]
  go_wp2_with fail
  go_ret
  exact ⟨rfl, rfl⟩
theorem joined32 (q t : Nat) (hq : q < 31) (ht : t < 32) (W : World) : Calls Try.prog 20 #[.int .i64 32, .int .i64 ((q : Int) + 1), .int .i64 t] W
    fun e W' => e = .returned (.int .u32 (code 32 q t : Int)) ∧ W = W' := by
  have F0 := Lib.hid xor32
  have F1 := Lib.hid fld32
  have F2 := Lib.hid (or32 q hq)
  have F3 := Lib.hid (with32 q hq t ht)
  have hq0 : (0 : Int) ≤ q := by omega
  have hq1 : (q : Int) < 31 := by omega
  have ht0 : (0 : Int) ≤ t := by omega
  have ht1 : (t : Int) < 32 := by omega
  clear hq ht
  go_enter Try.func20, Try.ntmps20
  go_wp2_with fail
  rw [F0.out]
  refine (field_any _ _ _ (by unfold U32; omega) (by unfold I64; omega) (by unfold I64; omega) _).mono ?_; rintro e w' ⟨rfl, rfl⟩
  rw [F1.out]
  go_wp2_with fail
  rw [F2.out]
  refine (with_any _ _ _ _ (by unfold U32; omega) (by unfold U32; omega) (by unfold I64; omega) (by unfold I64; omega) _).mono ?_; rintro e w' ⟨rfl, rfl⟩
  rw [F3.out]
  go_wp2_with fail
  go_ret
  exact ⟨rfl, rfl⟩
theorem joined64 (q t : Nat) (hq : q < 63) (ht : t < 64) (W : World) : Calls Try.prog 20 #[.int .i64 64, .int .i64 ((q : Int) + 1), .int .i64 t] W
    fun e W' => e = .returned (.int .u32 (code 64 q t : Int)) ∧ W = W' := by
  have F2 := Lib.hid (top64 q hq)
  have F3 := Lib.hid (with64 q hq t ht)
  have hq0 : (0 : Int) ≤ q := by omega
  have hq1 : (q : Int) < 63 := by omega
  have ht0 : (0 : Int) ≤ t := by omega
  have ht1 : (t : Int) < 64 := by omega
  clear hq ht
  go_enter Try.func20, Try.ntmps20
  go_wp2_with fail
  refine (with_any _ _ _ _ (by unfold U32; omega) (by unfold U32; omega) (by unfold I64; omega) (by unfold I64; omega) _).mono ?_; rintro e w' ⟨rfl, rfl⟩
  rw [F2.out]
  go_wp2_with fail
  refine (with_any _ _ _ _ (by unfold U32; omega) (by unfold U32; omega) (by unfold I64; omega) (by unfold I64; omega) _).mono ?_; rintro e w' ⟨rfl, rfl⟩
  rw [F3.out]
  go_wp2_with fail
  go_ret
  exact ⟨rfl, rfl⟩
theorem joined_any (n q t : Nat) (hs : isSz (n : Int) = true) (hq : q + 1 < n) (ht : t < n) (W : World) : Calls Try.prog 20 #[.int .i64 n, .int .i64 ((q : Int) + 1), .int .i64 t] W
    fun e W' => e = .returned (.int .u32 (code n q t : Int)) ∧ W = W' := by
  rcases isSz_cases hs with h | h | h | h | h | h
  · obtain rfl : n = 2 := by omega
    exact joined2 q t (by omega) ht W
  · obtain rfl : n = 4 := by omega
    exact joined4 q t (by omega) ht W
  · obtain rfl : n = 8 := by omega
    exact joined8 q t (by omega) ht W
  · obtain rfl : n = 16 := by omega
    exact joined16 q t (by omega) ht W
  · obtain rfl : n = 32 := by omega
    exact joined32 q t (by omega) ht W
  · obtain rfl : n = 64 := by omega
    exact joined64 q t (by omega) ht W
end Go.Proofs.Ytlhinabodofjeaa
