/- Walk of layer 1: Turn. -/
import Derived.Test.YtbpcidpladnhfaaDoorBitw
import Derived.Test.YtbpcidpladnhfaaDoorBitv
namespace Go.Proofs.YtbpcidpladnhfaaDoor
open Go.RowKit
open Cq (U64 I64 isW nb zx mask neg sx oneI bit turn rot)

theorem turn_any (v k w : Int) (hv : U64 v) (W : World) : Calls Tryd.prog 57 #[.int .u64 v, .int .i64 k, .int .i64 w] W
    fun e W' => e = .returned (.int .u64 (turn v k w)) ∧ W = W' := by
  cases h : isW w
  · rw [Cq.turn_not h]
    have HZ : ∀ x, zx x w = 0 := by intro x; unfold zx; rw [Cq.nb_not h]; simp
    have Hz := Lib.hid HZ; clear HZ
    go_enter Tryd.func57, Tryd.ntmps57
    go_wp2_with fail
    refine (size_any _ _).mono ?_; rintro e w' ⟨rfl, rfl⟩
    go_wp2_with fail
    refine (zx_any _ _ _).mono ?_; rintro e w' ⟨rfl, rfl⟩
    rw [Hz.out]
    have hL := (Cq.bits_u64 .and (IntKind.u64.wrap k) (IntKind.u64.wrap (sz w - 1))).bd.1
    go_wp2_with fail
    refine (zx_any _ _ _).mono ?_; rintro e w' ⟨rfl, rfl⟩
    rw [Hz.out]
    go_wp2_with fail
    go_ret
    exact ⟨rfl, rfl⟩
  · have ⟨hn, h8, h64⟩ := Cq.nb_is h
    have hf := Cq.nb_five w
    have hm0 : 0 ≤ k % (nb w : Int) := Int.emod_nonneg _ (by omega)
    have hm1 : k % (nb w : Int) < nb w := Int.emod_lt_of_pos _ (by omega)
    have HSZ : sz w = nb w := by
      unfold sz; rcases Cq.isW_cases h with rfl | rfl | rfl | rfl <;> rfl
    have Hsz := Lib.hid HSZ
    have HL := Lib.hid (Cq.low_mask k (nb w) (by omega))
    have hm : (k % (nb w : Int)).toNat < nb w := by omega
    have HT := Lib.hid (Cq.turn_is (v := v) (k := k) h)
    have HC := Lib.hid (Cq.code_turn hv w h (k % (nb w : Int)).toNat hm)
    have HN := Lib.hid hn
    clear hf hm0 hm1 HSZ hn
    go_enter Tryd.func57, Tryd.ntmps57
    go_wp2_with fail
    refine (size_any _ _).mono ?_; rintro e w' ⟨rfl, rfl⟩
    rw [Hsz.out]
    go_wp2_with fail
    rw [HL.out]
    generalize (k % (nb w : Int)).toNat = m at *
    refine (zx_any _ _ _).mono ?_; rintro e w' ⟨rfl, rfl⟩
    go_wp2_with fail
    refine (zx_any _ _ _).mono ?_; rintro e w' ⟨rfl, rfl⟩
    rw [HC.out]
    go_wp2_with fail
    go_ret
    exact ⟨by rw [HT.out]; rfl, rfl⟩
end Go.Proofs.YtbpcidpladnhfaaDoor
