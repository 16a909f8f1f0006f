/- Walks of layer 1: products, of the code and of the document's own answers. -/
import Derived.Test.YtebbokaocobmgaaGreatDoorBitw
import Derived.Test.YtebbokaocobmgaaGreatDoorBitr
namespace Go.Proofs.YtebbokaocobmgaaGreatDoor
open Go.RowKit
open Cq (U64 I64 isW nb zx mask neg sx oneI bit mhi mlo shi cLow cMid cCross)

theorem mulU_any (a b : Int) (ha : U64 a) (hb : U64 b) (W : World) : Calls Tryz.prog 21 #[.int .u64 a, .int .u64 b] W
    fun e W' => e = .returned (.tuple #[.int .u64 (mhi (a * b)), .int .u64 (mlo (a * b))]) ∧ W = W' := by
  have H1 := Lib.hid (Cq.code_mul ha hb).1
  have H2 := Lib.hid (Cq.code_mulLo ha hb)
  unfold cCross cMid cLow at H1 H2
  have ha0 := ha.1
  have hb0 := hb.1
  go_enter Tryz.func21, Tryz.ntmps21
  go_wp2_with fail
  refine (zx_any _ _ _).mono ?_; rintro e w' ⟨rfl, rfl⟩
  go_wp2_with fail
  refine (zx_any _ _ _).mono ?_; rintro e w' ⟨rfl, rfl⟩
  go_wp2_with fail
  refine (zx_any _ _ _).mono ?_; rintro e w' ⟨rfl, rfl⟩
  go_wp2_with fail
  refine (zx_any _ _ _).mono ?_; rintro e w' ⟨rfl, rfl⟩
  go_wp2_with fail
  go_ret2
  exact ⟨by rw [H1.out, H2.out]; rfl, rfl⟩
theorem mulS_any (a b : Int) (ha : U64 a) (hb : U64 b) (W : World) : Calls Tryz.prog 22 #[.int .u64 a, .int .u64 b] W
    fun e W' => e = .returned (.tuple #[.int .u64 (shi a b), .int .u64 (mlo (a * b))]) ∧ W = W' := by
  have HC := Lib.hid (Cq.code_mulS a b)
  cases na : neg a 8 <;> cases nb' : neg b 8
  all_goals
    have HA := Lib.hid na
    have HB := Lib.hid nb'
    clear na nb'
    go_enter Tryz.func22, Tryz.ntmps22
    go_wp2_with fail
    refine (mulU_any _ _ ha hb _).mono ?_; rintro e w' ⟨rfl, rfl⟩
    go_wp2_with fail
    refine (neg_any _ _ ha _).mono ?_; rintro e w' ⟨rfl, rfl⟩
    rw [HA.out]
    go_wp2_with fail
    refine (neg_any _ _ hb _).mono ?_; rintro e w' ⟨rfl, rfl⟩
    rw [HB.out]
    go_wp2_with fail
    go_ret2
  · exact ⟨by rw [HC.out.1 HA.out HB.out ha hb]; rfl, rfl⟩
  · exact ⟨by rw [HC.out.2.2.1 HA.out HB.out]; rfl, rfl⟩
  · exact ⟨by rw [HC.out.2.1 HA.out HB.out]; rfl, rfl⟩
  · exact ⟨by rw [HC.out.2.2.2 HA.out HB.out]; rfl, rfl⟩
theorem rmulU_any (a b : Int) (ha : U64 a) (hb : U64 b) (W : World) : Calls Tryz.prog 10 #[.int .u64 a, .int .u64 b] W
    fun e W' => e = .returned (.tuple #[.int .u64 (mhi (a * b)), .int .u64 (mlo (a * b))]) ∧ W = W' := by
  go_enter Tryz.func10, Tryz.ntmps10
  go_wp2_with fail
  go_loop [6, 7, 8] (fun h l i => ∃ k : Nat, k ≤ 64 ∧ i = .int .i64 ((k : Int) - 1) ∧ h = .int .u64 (mhi (a * (b / 2 ^ k))) ∧ l = .int .u64 (mlo (a * (b / 2 ^ k)))) (fun _ _ i => (intOf i + 1).toNat)
  case atStart =>
    have e : a * (b / 2 ^ 64) = 0 := by
      have : b / 2 ^ 64 = 0 := by have := hb.1; have := hb.2; omega
      rw [this, Int.mul_zero]
    exact ⟨64, by omega, by rfl, by rw [e]; rfl, by rw [e]; rfl⟩
  case round =>
    obtain ⟨k, hk, rfl, rfl, rfl⟩ := hrel
    by_cases hlt : k = 0
    · subst hlt
      go_wp2_with fail
      go_ret2
      exact ⟨by simp, rfl⟩
    · obtain ⟨j, rfl⟩ : ∃ j, k = j + 1 := ⟨k - 1, by omega⟩
      have HT := Lib.hid (Cq.mul_turn ha hb j)
      have ul := Cq.mlo_u64 (a * (b / 2 ^ (j + 1)))
      have hbit := Cq.bit_01 b j
      have hj : j ≤ 63 := by omega
      rw [show ((j + 1 : Nat) : Int) - 1 = j from by omega]
      clear hk hlt
      generalize mhi (a * (b / 2 ^ (j + 1))) = h at *
      generalize mlo (a * (b / 2 ^ (j + 1))) = l at *
      by_cases hz : bit b j = 0
      · have HZ := Lib.hid hz; clear hz
        go_wp2_with fail
        refine (bit_any l _ (by omega) ul _).mono ?_; rintro e w' ⟨rfl, rfl⟩
        go_wp2_with fail
        refine (bit_any b _ (by omega) hb _).mono ?_; rintro e w' ⟨rfl, rfl⟩
        rw [HZ.out]
        go_wp2_with fail
        go_round
        case rel => exact ⟨j, by omega, rfl, congrArg (Value.int .u64) (HT.out.1 HZ.out).1, congrArg (Value.int .u64) (HT.out.1 HZ.out).2⟩
        case measure => simp [intOf]
      · have HZ : Hid (bit b j = 1) := Lib.hid (by omega)
        clear hz
        by_cases hc : IntKind.u64.wrap (IntKind.u64.wrap (l * 2) + a) < a
        · go_wp2_with fail
          refine (bit_any l _ (by omega) ul _).mono ?_; rintro e w' ⟨rfl, rfl⟩
          go_wp2_with fail
          refine (bit_any b _ (by omega) hb _).mono ?_; rintro e w' ⟨rfl, rfl⟩
          rw [HZ.out]
          go_wp2_with fail
          go_round
          case rel => exact ⟨j, by omega, rfl, congrArg (Value.int .u64) ((HT.out.2 HZ.out).2.1 hc), congrArg (Value.int .u64) (HT.out.2 HZ.out).1⟩
          case measure => simp [intOf]
        · have hc' := Int.not_lt.mp hc
          clear hc
          go_wp2_with fail
          refine (bit_any l _ (by omega) ul _).mono ?_; rintro e w' ⟨rfl, rfl⟩
          go_wp2_with fail
          refine (bit_any b _ (by omega) hb _).mono ?_; rintro e w' ⟨rfl, rfl⟩
          rw [HZ.out]
          go_wp2_with fail
          go_round
          case rel => exact ⟨j, by omega, rfl, congrArg (Value.int .u64) ((HT.out.2 HZ.out).2.2 hc'), congrArg (Value.int .u64) (HT.out.2 HZ.out).1⟩
          case measure => simp [intOf]
theorem rmulS_any (a b : Int) (ha : U64 a) (hb : U64 b) (W : World) : Calls Tryz.prog 11 #[.int .u64 a, .int .u64 b] W
    fun e W' => e = .returned (.tuple #[.int .u64 (shi a b), .int .u64 (mlo (a * b))]) ∧ W = W' := by
  cases na : neg a 8 <;> cases nb' : neg b 8
  · have HA := Lib.hid na
    have HB := Lib.hid nb'
    have HE := Lib.hid (Cq.mulS_pos na nb' ha hb)
    clear na nb'
    go_enter Tryz.func11, Tryz.ntmps11
    go_wp2_with fail
    refine (rneg_any _ _ ha _).mono ?_; rintro e w' ⟨rfl, rfl⟩
    rw [HA.out]
    go_wp2_with fail
    refine (rneg_any _ _ hb _).mono ?_; rintro e w' ⟨rfl, rfl⟩
    rw [HB.out]
    go_wp2_with fail
    refine (rneg_any _ _ ha _).mono ?_; rintro e w' ⟨rfl, rfl⟩
    rw [HA.out]
    go_wp2_with fail
    refine (rneg_any _ _ hb _).mono ?_; rintro e w' ⟨rfl, rfl⟩
    rw [HB.out]
    go_wp2_with fail
    refine (rmulU_any _ _ ha hb _).mono ?_; rintro e w' ⟨rfl, rfl⟩
    go_wp2_with fail
    go_ret2
    exact ⟨by rw [HE.out]; rfl, rfl⟩
  · have HA := Lib.hid na
    have HB := Lib.hid nb'
    have HE := Lib.hid (Cq.mulS_right na nb' ha hb)
    clear na nb'
    go_enter Tryz.func11, Tryz.ntmps11
    go_wp2_with fail
    refine (rneg_any _ _ ha _).mono ?_; rintro e w' ⟨rfl, rfl⟩
    rw [HA.out]
    go_wp2_with fail
    refine (rneg_any _ _ hb _).mono ?_; rintro e w' ⟨rfl, rfl⟩
    rw [HB.out]
    go_wp2_with fail
    refine (rneg_any _ _ ha _).mono ?_; rintro e w' ⟨rfl, rfl⟩
    rw [HA.out]
    go_wp2_with fail
    refine (rneg_any _ _ hb _).mono ?_; rintro e w' ⟨rfl, rfl⟩
    rw [HB.out]
    go_wp2_with fail
    refine (rmulU_any _ _ ha (Cq.u64_wrap _) _).mono ?_; rintro e w' ⟨rfl, rfl⟩
    go_wp2_with fail
    · have ht : (IntKind.u64.wrap (-mlo (a * IntKind.u64.wrap (-b))) == 0) = true := by assumption
      rw [HE.out.1] at ht
      go_ret2
      exact ⟨by rw [HE.out.1, HE.out.2.1 (by simpa using ht)]; rfl, rfl⟩
    · have ht : (IntKind.u64.wrap (-mlo (a * IntKind.u64.wrap (-b))) == 0) = false := by assumption
      rw [HE.out.1] at ht
      go_ret2
      exact ⟨by rw [HE.out.1, HE.out.2.2 (by simpa using ht)]; rfl, rfl⟩
  · have HA := Lib.hid na
    have HB := Lib.hid nb'
    have HE := Lib.hid (Cq.mulS_left na nb' ha hb)
    clear na nb'
    go_enter Tryz.func11, Tryz.ntmps11
    go_wp2_with fail
    refine (rneg_any _ _ ha _).mono ?_; rintro e w' ⟨rfl, rfl⟩
    rw [HA.out]
    go_wp2_with fail
    refine (rneg_any _ _ hb _).mono ?_; rintro e w' ⟨rfl, rfl⟩
    rw [HB.out]
    go_wp2_with fail
    refine (rneg_any _ _ ha _).mono ?_; rintro e w' ⟨rfl, rfl⟩
    rw [HA.out]
    go_wp2_with fail
    refine (rneg_any _ _ hb _).mono ?_; rintro e w' ⟨rfl, rfl⟩
    rw [HB.out]
    go_wp2_with fail
    refine (rmulU_any _ _ (Cq.u64_wrap _) hb _).mono ?_; rintro e w' ⟨rfl, rfl⟩
    go_wp2_with fail
    · have ht : (IntKind.u64.wrap (-mlo (IntKind.u64.wrap (-a) * b)) == 0) = true := by assumption
      rw [HE.out.1] at ht
      go_ret2
      exact ⟨by rw [HE.out.1, HE.out.2.1 (by simpa using ht)]; rfl, rfl⟩
    · have ht : (IntKind.u64.wrap (-mlo (IntKind.u64.wrap (-a) * b)) == 0) = false := by assumption
      rw [HE.out.1] at ht
      go_ret2
      exact ⟨by rw [HE.out.1, HE.out.2.2 (by simpa using ht)]; rfl, rfl⟩
  · have HA := Lib.hid na
    have HB := Lib.hid nb'
    have HE := Lib.hid (Cq.mulS_both na nb' ha hb)
    clear na nb'
    go_enter Tryz.func11, Tryz.ntmps11
    go_wp2_with fail
    refine (rneg_any _ _ ha _).mono ?_; rintro e w' ⟨rfl, rfl⟩
    rw [HA.out]
    go_wp2_with fail
    refine (rneg_any _ _ hb _).mono ?_; rintro e w' ⟨rfl, rfl⟩
    rw [HB.out]
    go_wp2_with fail
    refine (rneg_any _ _ ha _).mono ?_; rintro e w' ⟨rfl, rfl⟩
    rw [HA.out]
    go_wp2_with fail
    refine (rneg_any _ _ hb _).mono ?_; rintro e w' ⟨rfl, rfl⟩
    rw [HB.out]
    go_wp2_with fail
    refine (rmulU_any _ _ (Cq.u64_wrap _) (Cq.u64_wrap _) _).mono ?_; rintro e w' ⟨rfl, rfl⟩
    go_wp2_with fail
    go_ret2
    exact ⟨by rw [HE.out.1, HE.out.2]; rfl, rfl⟩
end Go.Proofs.YtebbokaocobmgaaGreatDoor
