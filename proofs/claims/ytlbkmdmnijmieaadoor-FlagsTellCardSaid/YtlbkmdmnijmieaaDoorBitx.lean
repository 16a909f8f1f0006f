/- Walks of layer 1: sums and differences of the code and of the document's own answers. -/
import Derived.Test.YtlbkmdmnijmieaaDoorBitw
namespace Go.Proofs.YtlbkmdmnijmieaaDoor
open Go.RowKit
open Cq (U64 I64 isW nb zx mask neg sx oneI bit sumV sumC sumO lessV lessC lessO)

theorem sum_any (a b : Int) (c : Bool) (w : Int) (W : World) : Calls Tryd.prog 29 #[.int .u64 a, .int .u64 b, .bool c, .int .i64 w] W
    fun e W' => e = .returned (.tuple #[.int .u64 (sumV a b c w), .bool (sumC a b c w), .bool (sumO a b c w)]) ∧ W = W' := by
  have H1 := Lib.hid (Cq.code_sumV a b c w)
  have H2 := Lib.hid (Cq.code_sumC (Cq.code_sumB a b c) w)
  have H3 := Lib.hid (Cq.code_sumO (Cq.code_sumB a b c) w)
  go_enter Tryd.func29, Tryd.ntmps29
  go_wp2_with fail
  refine (one_any _ _).mono ?_; rintro e w' ⟨rfl, rfl⟩
  go_wp2_with fail
  refine (zx_any _ _ _).mono ?_; rintro e w' ⟨rfl, rfl⟩
  go_wp2_with fail
  refine (neg_any _ _ (Cq.bits_u64 _ _ _) _).mono ?_; rintro e w' ⟨rfl, rfl⟩
  go_wp2_with fail
  refine (neg_any _ _ (Cq.bits_u64 _ _ _) _).mono ?_; rintro e w' ⟨rfl, rfl⟩
  go_wp2_with fail
  go_ret3
  exact ⟨by rw [H1.out, H2.out, H3.out]; rfl, rfl⟩
theorem less_any (a b : Int) (c : Bool) (w : Int) (W : World) : Calls Tryd.prog 30 #[.int .u64 a, .int .u64 b, .bool c, .int .i64 w] W
    fun e W' => e = .returned (.tuple #[.int .u64 (lessV a b c w), .bool (lessC a b c w), .bool (lessO a b c w)]) ∧ W = W' := by
  have H1 := Lib.hid (Cq.code_lessV a b c w)
  have H2 := Lib.hid (Cq.code_lessC' (Cq.code_lessB a b c) w)
  have H3 := Lib.hid (Cq.code_lessO (Cq.code_lessB a b c) w)
  go_enter Tryd.func30, Tryd.ntmps30
  go_wp2_with fail
  refine (one_any _ _).mono ?_; rintro e w' ⟨rfl, rfl⟩
  go_wp2_with fail
  refine (zx_any _ _ _).mono ?_; rintro e w' ⟨rfl, rfl⟩
  go_wp2_with fail
  refine (neg_any _ _ (Cq.bits_u64 _ _ _) _).mono ?_; rintro e w' ⟨rfl, rfl⟩
  go_wp2_with fail
  refine (neg_any _ _ (Cq.bits_u64 _ _ _) _).mono ?_; rintro e w' ⟨rfl, rfl⟩
  go_wp2_with fail
  go_ret3
  exact ⟨by rw [H1.out, H2.out, H3.out]; rfl, rfl⟩
end Go.Proofs.YtlbkmdmnijmieaaDoor
