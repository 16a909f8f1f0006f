/- Walks of layer 19: the word of thirteen bits. -/
import Derived.Test.YtlhinabodofjeaaLc
import Derived.Test.YtlhinabodofjeaaLm
import Derived.Test.YtlhinabodofjeaaLw
import Derived.Below
namespace Go.Proofs.Ytlhinabodofjeaa
open Go.RowKit
open Cq (U32 U64 I64 inF field withF onesF fieldN withN ones fitsU)
open Lg

theorem sizeIn_any (s : Nat) (hs : s < 64) (W : World) : Calls Try.prog 17 #[.int .i64 s] W fun e W' => e = .returned (.int .i64 (szN s : Int)) ∧ W = W' := by
  have hs0 : (0 : Int) ≤ s := by omega
  have hs1 : (s : Int) < 64 := by omega
  go_enter Try.func17, Try.ntmps17
  go_wp2_with fail
  go_loop [3] (fun i => ∃ k : Nat, k ≤ 5 ∧ i = .int .i64 ((2 ^ (5 - k) : Nat) : Int) ∧ Hid (szK s k = 0)) (fun i => (intOf i).toNat)
  case atStart => exact ⟨0, by omega, rfl, rfl⟩
  case round =>
    obtain ⟨k, hk, rfl, hz⟩ := hrel
    rcases (show k = 0 ∨ k = 1 ∨ k = 2 ∨ k = 3 ∨ k = 4 ∨ k = 5 by omega) with rfl | rfl | rfl | rfl | rfl | rfl
    · have H := and32 s hs
      clear hk
      show Code.wp _ _ _ { tmps := #[.int .i64 s, _, _, .int .i64 32, _, _, _, _, _, _, _, _, _], defers := [] } W
      by_cases c : s / 32 % 2 = 0
      · have F := Lib.hid (szN_found (k := 0) (by omega) hz.out c)
        rw [decide_eq_true c] at H
        go_wp2_with fail
        go_ret
        exact ⟨by rw [F.out]; rfl, rfl⟩
      · have F := Lib.hid (szK_not (k := 0) hz.out c)
        rw [decide_eq_false c] at H
        go_wp2_with fail
        go_round
        case rel => exact ⟨1, by omega, rfl, F⟩
        case measure => decide
    · have H := and16 s hs
      clear hk
      show Code.wp _ _ _ { tmps := #[.int .i64 s, _, _, .int .i64 16, _, _, _, _, _, _, _, _, _], defers := [] } W
      by_cases c : s / 16 % 2 = 0
      · have F := Lib.hid (szN_found (k := 1) (by omega) hz.out c)
        rw [decide_eq_true c] at H
        go_wp2_with fail
        go_ret
        exact ⟨by rw [F.out]; rfl, rfl⟩
      · have F := Lib.hid (szK_not (k := 1) hz.out c)
        rw [decide_eq_false c] at H
        go_wp2_with fail
        go_round
        case rel => exact ⟨2, by omega, rfl, F⟩
        case measure => decide
    · have H := and8 s hs
      clear hk
      show Code.wp _ _ _ { tmps := #[.int .i64 s, _, _, .int .i64 8, _, _, _, _, _, _, _, _, _], defers := [] } W
      by_cases c : s / 8 % 2 = 0
      · have F := Lib.hid (szN_found (k := 2) (by omega) hz.out c)
        rw [decide_eq_true c] at H
        go_wp2_with fail
        go_ret
        exact ⟨by rw [F.out]; rfl, rfl⟩
      · have F := Lib.hid (szK_not (k := 2) hz.out c)
        rw [decide_eq_false c] at H
        go_wp2_with fail
        go_round
        case rel => exact ⟨3, by omega, rfl, F⟩
        case measure => decide
    · have H := and4 s hs
      clear hk
      show Code.wp _ _ _ { tmps := #[.int .i64 s, _, _, .int .i64 4, _, _, _, _, _, _, _, _, _], defers := [] } W
      by_cases c : s / 4 % 2 = 0
      · have F := Lib.hid (szN_found (k := 3) (by omega) hz.out c)
        rw [decide_eq_true c] at H
        go_wp2_with fail
        go_ret
        exact ⟨by rw [F.out]; rfl, rfl⟩
      · have F := Lib.hid (szK_not (k := 3) hz.out c)
        rw [decide_eq_false c] at H
        go_wp2_with fail
        go_round
        case rel => exact ⟨4, by omega, rfl, F⟩
        case measure => decide
    · have H := and2 s hs
      clear hk
      show Code.wp _ _ _ { tmps := #[.int .i64 s, _, _, .int .i64 2, _, _, _, _, _, _, _, _, _], defers := [] } W
      by_cases c : s / 2 % 2 = 0
      · have F := Lib.hid (szN_found (k := 4) (by omega) hz.out c)
        rw [decide_eq_true c] at H
        go_wp2_with fail
        go_ret
        exact ⟨by rw [F.out]; rfl, rfl⟩
      · have F := Lib.hid (szK_not (k := 4) hz.out c)
        rw [decide_eq_false c] at H
        go_wp2_with fail
        go_round
        case rel => exact ⟨5, by omega, rfl, F⟩
        case measure => decide
    · clear hk
      show Code.wp _ _ _ { tmps := #[.int .i64 s, _, _, .int .i64 1, _, _, _, _, _, _, _, _, _], defers := [] } W
      go_wp2_with fail
      go_ret
      exact ⟨by rw [show szN s = 0 from hz.out]; rfl, rfl⟩
end Go.Proofs.Ytlhinabodofjeaa
