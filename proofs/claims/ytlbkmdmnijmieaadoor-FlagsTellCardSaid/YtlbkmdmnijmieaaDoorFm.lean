/- Walks of layer 1: products, of the code and of the document's own answers. -/
import Derived.Test.YtlbkmdmnijmieaaDoorBitw
import Derived.Test.YtlbkmdmnijmieaaDoorBitr
namespace Go.Proofs.YtlbkmdmnijmieaaDoor
open Go.RowKit
open Cq (U64 I64 isW nb zx mask neg sx oneI bit mhi mlo shi cLow cMid cCross)

theorem mulU_any (a b : Int) (ha : U64 a) (hb : U64 b) (W : World) : Calls Tryd.prog 35 #[.int .u64 a, .int .u64 b] W
    fun e W' => e = .returned (.tuple #[.int .u64 (mhi (a * b)), .int .u64 (mlo (a * b))]) ∧ W = W' := by
  have H1 := Lib.hid (Cq.code_mul ha hb).1
  have H2 := Lib.hid (Cq.code_mulLo ha hb)
  unfold cCross cMid cLow at H1 H2
  have ha0 := ha.1
  have hb0 := hb.1
  go_enter Tryd.func35, Tryd.ntmps35
  go_wp2_with fail
  refine (zx_any _ _ _).mono ?_; rintro e w' ⟨rfl, rfl⟩
  go_wp2_with fail
  refine (zx_any _ _ _).mono ?_; rintro e w' ⟨rfl, rfl⟩
  go_wp2_with fail
  refine (zx_any _ _ _).mono ?_; rintro e w' ⟨rfl, rfl⟩
  go_wp2_with fail
  refine (zx_any _ _ _).mono ?_; rintro e w' ⟨rfl, rfl⟩
  go_wp2_with fail
  go_ret2
  exact ⟨by rw [H1.out, H2.out]; rfl, rfl⟩
theorem mulS_any (a b : Int) (ha : U64 a) (hb : U64 b) (W : World) : Calls Tryd.prog 36 #[.int .u64 a, .int .u64 b] W
    fun e W' => e = .returned (.tuple #[.int .u64 (shi a b), .int .u64 (mlo (a * b))]) ∧ W = W' := by
  have HC := Lib.hid (Cq.code_mulS a b)
  cases na : neg a 8 <;> cases nb' : neg b 8
  all_goals
    have HA := Lib.hid na
    have HB := Lib.hid nb'
    clear na nb'
    go_enter Tryd.func36, Tryd.ntmps36
    go_wp2_with fail
    refine (mulU_any _ _ ha hb _).mono ?_; rintro e w' ⟨rfl, rfl⟩
    go_wp2_with fail
    refine (neg_any _ _ ha _).mono ?_; rintro e w' ⟨rfl, rfl⟩
    rw [HA.out]
    go_wp2_with fail
    refine (neg_any _ _ hb _).mono ?_; rintro e w' ⟨rfl, rfl⟩
    rw [HB.out]
    go_wp2_with fail
    go_ret2
  · exact ⟨by rw [HC.out.1 HA.out HB.out ha hb]; rfl, rfl⟩
  · exact ⟨by rw [HC.out.2.2.1 HA.out HB.out]; rfl, rfl⟩
  · exact ⟨by rw [HC.out.2.1 HA.out HB.out]; rfl, rfl⟩
  · exact ⟨by rw [HC.out.2.2.2 HA.out HB.out]; rfl, rfl⟩
end Go.Proofs.YtlbkmdmnijmieaaDoor
