/- Walks of the statements of layer 1 on widths, sums and differences. -/
import Derived.Test.YtkjbhhbgfhicgaaBity
namespace Go.Proofs.Ytkjbhhbgfhicgaa
open Go.RowKit
open Cq (U64 I64 isW nb zx mask neg sx oneI bit sumV sumC sumO lessV lessC lessO turn rot rotTo)

theorem law_widths (v w : Int) (h0 : U64 v) (W : World) : Calls Try.prog 3 #[.int .u64 v, .int .i64 w] W fun e W' => e = .returned (.bool true) ∧ Grown W W' := by
  have hm : U64 18446744073709551615 := ⟨by decide, by decide⟩
  have HM : Hid (zx 18446744073709551615 w = mask w) := by
    have e := Cq.and_mask 18446744073709551615 w
    show zx 18446744073709551615 w = mask w
    rw [← e]
    apply Cq.eq_of_B (Cq.bits_u64 _ _ _) (Cq.mask_u64 w)
    rw [Cq.B_and, Cq.B_ones, BitVec.allOnes_and]
  have H1 := Lib.hid (Cq.zx_sx v w)
  have H2 := Lib.hid (Cq.sx_zx v w)
  go_enter Try.func3, Try.ntmps3
  go_wp2_with fail
  refine (is_any _ _).mono ?_; rintro e w' ⟨rfl, rfl⟩
  go_wp2_with fail
  refine (ris_any _ _).mono ?_; rintro e w' ⟨rfl, rfl⟩
  go_wp2_with fail
  refine (mask_any _ _).mono ?_; rintro e w' ⟨rfl, rfl⟩
  go_wp2_with fail
  refine (rzx_any _ _ hm _).mono ?_; rintro e w' ⟨rfl, rfl⟩
  rw [HM.out]
  go_wp2_with fail
  refine (zx_any _ _ _).mono ?_; rintro e w' ⟨rfl, rfl⟩
  go_wp2_with fail
  refine (rzx_any _ _ h0 _).mono ?_; rintro e w' ⟨rfl, rfl⟩
  go_wp2_with fail
  refine (sx_any _ _ h0 _).mono ?_; rintro e w' ⟨rfl, rfl⟩
  go_wp2_with fail
  refine (rsx_any _ _ h0 _).mono ?_; rintro e w' ⟨rfl, rfl⟩
  go_wp2_with fail
  refine (neg_any _ _ h0 _).mono ?_; rintro e w' ⟨rfl, rfl⟩
  go_wp2_with fail
  refine (rneg_any _ _ h0 _).mono ?_; rintro e w' ⟨rfl, rfl⟩
  go_wp2_with fail
  refine (sx_any _ _ h0 _).mono ?_; rintro e w' ⟨rfl, rfl⟩
  go_wp2_with fail
  refine (zx_any _ _ _).mono ?_; rintro e w' ⟨rfl, rfl⟩
  rw [H1.out]
  go_wp2_with fail
  refine (zx_any _ _ _).mono ?_; rintro e w' ⟨rfl, rfl⟩
  go_wp2_with fail
  refine (zx_any _ _ _).mono ?_; rintro e w' ⟨rfl, rfl⟩
  go_wp2_with fail
  refine (sx_any _ _ (Cq.zx_u64 w) _).mono ?_; rintro e w' ⟨rfl, rfl⟩
  rw [H2.out]
  go_wp2_with fail
  refine (sx_any _ _ h0 _).mono ?_; rintro e w' ⟨rfl, rfl⟩
  go_wp2_with fail
  refine (awake_any _).mono ?_; rintro e w' ⟨rfl, rfl⟩
  go_wp2_with fail
  go_ret
  exact ⟨rfl, Grown.refl _⟩

theorem law_sums (a b : Int) (c : Bool) (w : Int) (ha : U64 a) (hb : U64 b) (W : World) : Calls Try.prog 4 #[.int .u64 a, .int .u64 b, .bool c, .int .i64 w] W fun e W' => e = .returned (.bool true) ∧ Grown W W' := by
  go_enter Try.func4, Try.ntmps4
  go_wp2_with fail
  refine (sum_any _ _ _ _ _).mono ?_; rintro e w' ⟨rfl, rfl⟩
  go_wp2_with fail
  refine (rsum_any _ _ _ _ ha hb _).mono ?_; rintro e w' ⟨rfl, rfl⟩
  go_wp2_with fail
  refine (less_any _ _ _ _ _).mono ?_; rintro e w' ⟨rfl, rfl⟩
  go_wp2_with fail
  refine (rless_any _ _ _ _ ha hb _).mono ?_; rintro e w' ⟨rfl, rfl⟩
  go_wp2_with fail
  refine (awake_any _).mono ?_; rintro e w' ⟨rfl, rfl⟩
  go_wp2_with fail
  go_ret
  exact ⟨rfl, Grown.refl _⟩

theorem law_back (a b w : Int) (ha : U64 a) (hb : U64 b) (W : World) : Calls Try.prog 5 #[.int .u64 a, .int .u64 b, .int .i64 w] W fun e W' => e = .returned (.bool true) ∧ Grown W W' := by
  have H1 := Lib.hid (Cq.back a b w)
  have H2 := Lib.hid (Cq.back_carry a b w ha hb).symm
  go_enter Try.func5, Try.ntmps5
  go_wp2_with fail
  refine (sum_any _ _ _ _ _).mono ?_; rintro e w' ⟨rfl, rfl⟩
  go_wp2_with fail
  refine (less_any _ _ _ _ _).mono ?_; rintro e w' ⟨rfl, rfl⟩
  rw [H1.out, H2.out]
  go_wp2_with fail
  refine (zx_any _ _ _).mono ?_; rintro e w' ⟨rfl, rfl⟩
  go_wp2_with fail
  refine (awake_any _).mono ?_; rintro e w' ⟨rfl, rfl⟩
  go_wp2_with fail
  go_ret
  exact ⟨rfl, Grown.refl _⟩
end Go.Proofs.Ytkjbhhbgfhicgaa
