/- Walks of layer 1: how many bits are 1; parity; the statement on turns. -/
import Derived.Test.YtkjbhhbgfhicgaaBitz
import Derived.Test.YtkjbhhbgfhicgaaBitp
namespace Go.Proofs.Ytkjbhhbgfhicgaa
open Go.RowKit
open Cq (U64 I64 isW nb zx mask neg sx oneI bit turn ones popTo)

theorem ones_any (v : Int) (hv : U64 v) (W : World) : Calls Try.prog 48 #[.int .u64 v] W fun e W' => e = .returned (.int .i64 (ones v : Int)) ∧ W = W' := by
  have hl := Cq.ones_le v
  go_enter Try.func48, Try.ntmps48
  go_wp2_with fail
  go_loop [0, 3] (fun x n => ∃ (y : Int) (k : Nat), U64 y ∧ x = .int .u64 y ∧ n = .int .i64 k ∧ k + ones y = ones v) (fun x _ => ones (intOf x))
  case atStart => exact ⟨v, 0, hv, rfl, rfl, by omega⟩
  case round =>
    obtain ⟨y, k, hy, rfl, rfl, hk⟩ := hrel
    have hyl := Cq.ones_le y
    have hy0 := hy.1
    have HK := Lib.hid hk
    have hkb : k ≤ 64 := by omega
    clear hk hyl
    by_cases h0 : y = 0
    · subst h0
      have H0 := Lib.hid Cq.ones_zero
      go_wp2_with fail
      go_ret
      exact ⟨by have : k = ones v := by have := HK.out; have := H0.out; omega
                subst this; rfl, rfl⟩
    · have hpos : 0 < y := by omega
      have hne : (y == 0) = false := by simpa using h0
      have hne' : (y != 0) = true := by simpa using h0
      have HS := Lib.hid (Cq.ones_less' hy hpos)
      clear h0
      go_wp2_with fail
      go_round
      case rel => exact ⟨_, k + 1, Cq.bits_u64 _ _ _, rfl, by go_num, by have := HS.out; have := HK.out; omega⟩
      case measure =>
        have := HS.out
        show ones (bits .and .u64 y (IntKind.u64.wrap (y - 1))) < ones y
        omega
theorem rones_any (v : Int) (hv : U64 v) (W : World) : Calls Try.prog 49 #[.int .u64 v] W fun e W' => e = .returned (.int .i64 (ones v : Int)) ∧ W = W' := by
  go_enter Try.func49, Try.ntmps49
  go_wp2_with fail
  go_loop [3, 4] (fun n i => ∃ k : Nat, k ≤ 64 ∧ i = .int .i64 k ∧ n = .int .i64 (popTo v.toNat k : Int)) (fun _ i => 64 - (intOf i).toNat)
  case atStart => exact ⟨0, by omega, rfl, rfl⟩
  case round =>
    obtain ⟨k, hk, rfl, rfl⟩ := hrel
    have hp := Cq.popTo_le v.toNat k
    by_cases hlt : k < 64
    · have HR := Lib.hid (Cq.popTo_round hv k)
      have hb := Cq.bit_01 v k
      go_wp2_with fail
      refine (bit_any v _ (by omega) hv _).mono ?_; rintro e w' ⟨rfl, rfl⟩
      go_wp2_with fail
      go_round
      case rel => exact ⟨k + 1, by omega, by go_num, by rw [HR.out]⟩
      case measure => simp [intOf]; omega
    · have : k = 64 := by omega
      subst this
      go_wp2_with fail
      go_ret
      exact ⟨rfl, rfl⟩
def even (v : Int) : Bool := ((ones (v % 256) : Int) % 2 == 0)
theorem zx_one (v : Int) : zx v 1 = v % 256 := by
  unfold zx; rw [show nb 1 = 8 from rfl]; rfl
theorem even_any (v : Int) (_hv : U64 v) (W : World) : Calls Try.prog 30 #[.int .u64 v] W fun e W' => e = .returned (.bool (even v)) ∧ W = W' := by
  have hz : U64 (zx v 1) := Cq.zx_u64 1
  have hl := Cq.ones_le (zx v 1)
  have e : even v = ((ones (zx v 1) : Int) % 2 == 0) := by rw [zx_one]; rfl
  rw [e]
  clear e
  go_enter Try.func30, Try.ntmps30
  go_wp2_with fail
  refine (zx_any _ _ _).mono ?_; rintro e w' ⟨rfl, rfl⟩
  go_wp2_with fail
  refine (ones_any _ hz _).mono ?_; rintro e w' ⟨rfl, rfl⟩
  go_wp2_with fail
  go_ret
  exact ⟨rfl, rfl⟩
theorem reven_any (v : Int) (hv : U64 v) (W : World) : Calls Try.prog 31 #[.int .u64 v] W fun e W' => e = .returned (.bool (even v)) ∧ W = W' := by
  have hz : U64 (v % 256) := by unfold U64; omega
  have hl := Cq.ones_le (v % 256)
  have hv0 := hv.1
  unfold even
  go_enter Try.func31, Try.ntmps31
  go_wp2_with fail
  refine (rones_any _ hz _).mono ?_; rintro e w' ⟨rfl, rfl⟩
  go_wp2_with fail
  go_ret
  exact ⟨rfl, rfl⟩
theorem law_turns (v k w : Int) (hv : U64 v) (hk : I64 k) (W : World) : Calls Try.prog 6 #[.int .u64 v, .int .i64 k, .int .i64 w] W fun e W' => e = .returned (.bool true) ∧ Grown W W' := by
  have ht : turn (turn v (k.tmod 64) w) (wrap64 (-k.tmod 64)) w = zx v w := by
    refine Cq.turn_back hv _ _ w ?_
    unfold wrap64
    by_cases h : k.tmod 64 < 0
    · have := Cq.tmod_neg (by decide) h; omega
    · have := Cq.tmod_pos (k := k) (n := 64) (by decide) (by omega); omega
  have HT := Lib.hid ht; clear ht
  have hk' := hk
  unfold I64 at hk'
  go_enter Try.func6, Try.ntmps6
  go_wp2_with fail
  refine (turn_any _ _ _ hv _).mono ?_; rintro e w' ⟨rfl, rfl⟩
  go_wp2_with fail
  refine (even_any _ hv _).mono ?_; rintro e w' ⟨rfl, rfl⟩
  go_wp2_with fail
  refine (reven_any _ hv _).mono ?_; rintro e w' ⟨rfl, rfl⟩
  go_wp2_with fail
  refine (rturn_any _ _ _ hv hk _).mono ?_; rintro e w' ⟨rfl, hd⟩
  have HD := Lib.hid hd; clear hd
  go_wp2_with fail
  refine (turn_any _ _ _ hv _).mono ?_; rintro e w' ⟨rfl, rfl⟩
  go_wp2_with fail
  refine (turn_any _ _ _ (Cq.turn_u64 _ _ _) _).mono ?_; rintro e w' ⟨rfl, rfl⟩
  rw [HT.out]
  go_wp2_with fail
  refine (zx_any _ _ _).mono ?_; rintro e w' ⟨rfl, rfl⟩
  go_wp2_with fail
  refine (awake_any _).mono ?_; rintro e w' ⟨rfl, rfl⟩
  go_wp2_with fail
  go_ret
  exact ⟨rfl, Drawn.grown HD.out⟩
end Go.Proofs.Ytkjbhhbgfhicgaa
