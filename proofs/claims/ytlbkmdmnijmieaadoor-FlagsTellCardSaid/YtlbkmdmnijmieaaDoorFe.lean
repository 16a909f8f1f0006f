/- Walks of layer 1: how many bits are 1; parity. -/
import Derived.Test.YtlbkmdmnijmieaaDoorBitw
import Derived.Test.YtlbkmdmnijmieaaDoorBitp
namespace Go.Proofs.YtlbkmdmnijmieaaDoor
open Go.RowKit
open Cq (U64 I64 isW nb zx mask neg sx oneI bit turn ones popTo)

theorem ones_any (v : Int) (hv : U64 v) (W : World) : Calls Tryd.prog 26 #[.int .u64 v] W fun e W' => e = .returned (.int .i64 (ones v : Int)) ∧ W = W' := by
  have hl := Cq.ones_le v
  go_enter Tryd.func26, Tryd.ntmps26
  go_wp2_with fail
  go_loop [0, 3] (fun x n => ∃ (y : Int) (k : Nat), U64 y ∧ x = .int .u64 y ∧ n = .int .i64 k ∧ k + ones y = ones v) (fun x _ => ones (intOf x))
  case atStart => exact ⟨v, 0, hv, rfl, rfl, by omega⟩
  case round =>
    obtain ⟨y, k, hy, rfl, rfl, hk⟩ := hrel
    have hyl := Cq.ones_le y
    have hy0 := hy.1
    have HK := Lib.hid hk
    have hkb : k ≤ 64 := by omega
    clear hk hyl
    by_cases h0 : y = 0
    · subst h0
      have H0 := Lib.hid Cq.ones_zero
      go_wp2_with fail
      go_ret
      exact ⟨by have : k = ones v := by have := HK.out; have := H0.out; omega
                subst this; rfl, rfl⟩
    · have hpos : 0 < y := by omega
      have hne : (y == 0) = false := by simpa using h0
      have hne' : (y != 0) = true := by simpa using h0
      have HS := Lib.hid (Cq.ones_less' hy hpos)
      clear h0
      go_wp2_with fail
      go_round
      case rel => exact ⟨_, k + 1, Cq.bits_u64 _ _ _, rfl, by go_num, by have := HS.out; have := HK.out; omega⟩
      case measure =>
        have := HS.out
        show ones (bits .and .u64 y (IntKind.u64.wrap (y - 1))) < ones y
        omega
theorem rones_any (v : Int) (hv : U64 v) (W : World) : Calls Tryd.prog 28 #[.int .u64 v] W fun e W' => e = .returned (.int .i64 (ones v : Int)) ∧ W = W' := by
  go_enter Tryd.func28, Tryd.ntmps28
  go_wp2_with fail
  go_loop [3, 4] (fun n i => ∃ k : Nat, k ≤ 64 ∧ i = .int .i64 k ∧ n = .int .i64 (popTo v.toNat k : Int)) (fun _ i => 64 - (intOf i).toNat)
  case atStart => exact ⟨0, by omega, rfl, rfl⟩
  case round =>
    obtain ⟨k, hk, rfl, rfl⟩ := hrel
    have hp := Cq.popTo_le v.toNat k
    by_cases hlt : k < 64
    · have HR := Lib.hid (Cq.popTo_round hv k)
      have hb := Cq.bit_01 v k
      go_wp2_with fail
      refine (bit_any v _ (by omega) hv _).mono ?_; rintro e w' ⟨rfl, rfl⟩
      go_wp2_with fail
      go_round
      case rel => exact ⟨k + 1, by omega, by go_num, by rw [HR.out]⟩
      case measure => simp [intOf]; omega
    · have : k = 64 := by omega
      subst this
      go_wp2_with fail
      go_ret
      exact ⟨rfl, rfl⟩
def even (v : Int) : Bool := ((ones (v % 256) : Int) % 2 == 0)
theorem zx_one (v : Int) : zx v 1 = v % 256 := by
  unfold zx; rw [show nb 1 = 8 from rfl]; rfl
theorem even_any (v : Int) (_hv : U64 v) (W : World) : Calls Tryd.prog 17 #[.int .u64 v] W fun e W' => e = .returned (.bool (even v)) ∧ W = W' := by
  have hz : U64 (zx v 1) := Cq.zx_u64 1
  have hl := Cq.ones_le (zx v 1)
  have e : even v = ((ones (zx v 1) : Int) % 2 == 0) := by rw [zx_one]; rfl
  rw [e]
  clear e
  go_enter Tryd.func17, Tryd.ntmps17
  go_wp2_with fail
  refine (zx_any _ _ _).mono ?_; rintro e w' ⟨rfl, rfl⟩
  go_wp2_with fail
  refine (ones_any _ hz _).mono ?_; rintro e w' ⟨rfl, rfl⟩
  go_wp2_with fail
  go_ret
  exact ⟨rfl, rfl⟩
theorem reven_any (v : Int) (hv : U64 v) (W : World) : Calls Tryd.prog 18 #[.int .u64 v] W fun e W' => e = .returned (.bool (even v)) ∧ W = W' := by
  have hz : U64 (v % 256) := by unfold U64; omega
  have hl := Cq.ones_le (v % 256)
  have hv0 := hv.1
  unfold even
  go_enter Tryd.func18, Tryd.ntmps18
  go_wp2_with fail
  refine (rones_any _ hz _).mono ?_; rintro e w' ⟨rfl, rfl⟩
  go_wp2_with fail
  go_ret
  exact ⟨rfl, rfl⟩
end Go.Proofs.YtlbkmdmnijmieaaDoor
