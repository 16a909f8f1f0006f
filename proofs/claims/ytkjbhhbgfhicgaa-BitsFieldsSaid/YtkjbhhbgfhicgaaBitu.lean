/- Walks of layer 1: fields of a word, of the code and of the document's own answers; the statement on fields. -/
import Derived.Test.YtkjbhhbgfhicgaaBits
import Derived.Test.YtkjbhhbgfhicgaaBitt
namespace Go.Proofs.Ytkjbhhbgfhicgaa
open Go.RowKit
open Cq (U32 I64 inF field withF onesF fieldN withN)

theorem fieldOf_any (a n : Int) (ha : I64 a) (hn : I64 n) (W : World) : Calls Try.prog 79 #[.int .i64 a, .int .i64 n] W
    fun e W' => e = .returned (.int .u32 (onesF a n)) ∧ W = W' := by
  unfold I64 at ha hn
  cases g : inF a n
  · have hc := Cq.inF_not g
    rw [show onesF a n = 0 by unfold onesF; rw [g]; rfl]
    clear g
    by_cases h1 : a < 0
    · clear hc
      go_enter Try.func79, Try.ntmps79
      go_wp2
      go_ret
      exact ⟨rfl, rfl⟩
    · have h1' := Int.not_lt.mp h1
      clear h1
      by_cases h2 : 31 < a
      · clear hc
        go_enter Try.func79, Try.ntmps79
        go_wp2
        go_ret
        exact ⟨rfl, rfl⟩
      · have h2' := Int.not_lt.mp h2
        clear h2
        by_cases h3 : n < 1
        · clear hc
          go_enter Try.func79, Try.ntmps79
          go_wp2
          go_ret
          exact ⟨rfl, rfl⟩
        · have h3' := Int.not_lt.mp h3
          clear h3
          have h4 : 32 - a < n := by omega
          clear hc
          go_enter Try.func79, Try.ntmps79
          go_wp2
          go_ret
          exact ⟨rfl, rfl⟩
  · have ⟨h1, h2, h3, h4⟩ := Cq.inF_is g
    obtain ⟨k, rfl⟩ := Int.eq_ofNat_of_zero_le (show 0 ≤ n by omega)
    have hk : k ≤ 32 := by omega
    have HO := Lib.hid (Cq.ones_shift k hk)
    rw [show onesF a k = 2 ^ k - 1 by unfold onesF; rw [g]; rfl]
    clear g
    go_enter Try.func79, Try.ntmps79
    go_wp2
    go_ret
    exact ⟨by rw [HO.out]; rfl, rfl⟩
theorem field_any (v a n : Int) (hv : U32 v) (ha : I64 a) (hn : I64 n) (W : World) : Calls Try.prog 38 #[.int .u32 v, .int .i64 a, .int .i64 n] W
    fun e W' => e = .returned (.int .u32 (field v a n)) ∧ W = W' := by
  cases g : inF a n
  · rw [show field v a n = 0 by unfold field; rw [g]; rfl]
    have HO : Hid (onesF a n = 0) := by show onesF a n = 0; unfold onesF; rw [g]; rfl
    have HZ := Lib.hid Cq.and_zero32
    go_enter Try.func38, Try.ntmps38
    go_wp2_with fail
    refine (fieldOf_any _ _ ha hn _).mono ?_; rintro e w' ⟨rfl, rfl⟩
    rw [HO.out]
    go_wp2_with fail
    go_ret
    exact ⟨by rw [HZ.out]; rfl, rfl⟩
  · have ⟨h1, h2, h3, h4⟩ := Cq.inF_is g
    obtain ⟨k, rfl⟩ := Int.eq_ofNat_of_zero_le (show 0 ≤ n by omega)
    obtain ⟨j, rfl⟩ := Int.eq_ofNat_of_zero_le h1
    rw [show field v j k = (fieldN v.toNat j k : Int) by unfold field; rw [g]; rfl]
    have HO : Hid (onesF j k = 2 ^ k - 1) := by show onesF j k = _; unfold onesF; rw [g]; rfl
    have HZ := Lib.hid (Cq.code_field hv j k (by omega))
    have hj : j ≤ 31 := by omega
    go_enter Try.func38, Try.ntmps38
    go_wp2_with fail
    refine (fieldOf_any _ _ ha hn _).mono ?_; rintro e w' ⟨rfl, rfl⟩
    rw [HO.out]
    go_wp2_with fail
    go_ret
    exact ⟨by rw [HZ.out]; rfl, rfl⟩
theorem with_any (v a n f : Int) (hv : U32 v) (hf : U32 f) (ha : I64 a) (hn : I64 n) (W : World) : Calls Try.prog 37 #[.int .u32 v, .int .i64 a, .int .i64 n, .int .u32 f] W
    fun e W' => e = .returned (.int .u32 (withF v a n f)) ∧ W = W' := by
  cases g : inF a n
  · rw [show withF v a n f = v by unfold withF; rw [g]; rfl]
    have HO : Hid (onesF a n = 0) := by show onesF a n = 0; unfold onesF; rw [g]; rfl
    have HZ := Lib.hid Cq.and_zero32
    have HA := Lib.hid (Cq.andNot_zero32 hv)
    have HR := Lib.hid (Cq.or_zero32 hv)
    go_enter Try.func37, Try.ntmps37
    go_wp2_with fail
    refine (fieldOf_any _ _ ha hn _).mono ?_; rintro e w' ⟨rfl, rfl⟩
    rw [HO.out]
    go_wp2_with fail
    go_ret
    exact ⟨by rw [HZ.out, HA.out, Int.zero_mul, Int.zero_emod, HR.out]; rfl, rfl⟩
  · have ⟨h1, h2, h3, h4⟩ := Cq.inF_is g
    obtain ⟨k, rfl⟩ := Int.eq_ofNat_of_zero_le (show 0 ≤ n by omega)
    obtain ⟨j, rfl⟩ := Int.eq_ofNat_of_zero_le h1
    rw [show withF v j k f = (withN v.toNat j k f.toNat : Int) by unfold withF; rw [g]; rfl]
    have HO : Hid (onesF j k = 2 ^ k - 1) := by show onesF j k = _; unfold onesF; rw [g]; rfl
    have hz := Cq.code_with hv hf j k (by omega)
    rw [Cq.wrap32u, Cq.wrap32u] at hz
    have HZ := Lib.hid hz
    clear hz
    have hj : j ≤ 31 := by omega
    go_enter Try.func37, Try.ntmps37
    go_wp2_with fail
    refine (fieldOf_any _ _ ha hn _).mono ?_; rintro e w' ⟨rfl, rfl⟩
    rw [HO.out]
    go_wp2_with fail
    go_ret
    exact ⟨by rw [HZ.out]; rfl, rfl⟩
theorem within_any (a n : Int) (ha : I64 a) (hn : I64 n) (W : World) : Calls Try.prog 80 #[.int .i64 a, .int .i64 n] W
    fun e W' => e = .returned (.bool (inF a n)) ∧ W = W' := by
  unfold I64 at ha hn
  cases g : inF a n
  · have hc := Cq.inF_not g
    clear g
    by_cases h1 : a < 0
    · clear hc
      go_enter Try.func80, Try.ntmps80
      go_wp2
      go_ret
      exact ⟨by simp, rfl⟩
    · have h1' := Int.not_lt.mp h1
      clear h1
      by_cases h2 : 31 < a
      · clear hc
        go_enter Try.func80, Try.ntmps80
        go_wp2
        go_ret
        exact ⟨by simp, rfl⟩
      · have h2' := Int.not_lt.mp h2
        clear h2
        by_cases h3 : n < 1
        · clear hc
          go_enter Try.func80, Try.ntmps80
          go_wp2
          go_ret
          exact ⟨by simp, rfl⟩
        · have h3' := Int.not_lt.mp h3
          clear h3
          have h4 : 32 - a < n := by omega
          clear hc
          go_enter Try.func80, Try.ntmps80
          go_wp2
          go_ret
          exact ⟨by simp; exact h4, rfl⟩
  · have ⟨h1, h2, h3, h4⟩ := Cq.inF_is g
    clear g
    go_enter Try.func80, Try.ntmps80
    go_wp2
    go_ret
    exact ⟨by simp, rfl⟩
theorem rfield_any (v a n : Int) (hv : U32 v) (ha : I64 a) (hn : I64 n) (W : World) : Calls Try.prog 39 #[.int .u32 v, .int .i64 a, .int .i64 n] W
    fun e W' => e = .returned (.int .u32 (field v a n)) ∧ W = W' := by
  cases g : inF a n
  · rw [show field v a n = 0 by unfold field; rw [g]; rfl]
    go_enter Try.func39, Try.ntmps39
    go_wp2_with fail
    go_loop [7, 8] (fun r i => r = .int .u32 0 ∧ i = .int .i64 0) (fun _ _ => 0)
    case atStart => exact ⟨rfl, rfl⟩
    case round =>
      obtain ⟨rfl, rfl⟩ := hrel
      go_wp2_with fail
      refine (within_any _ _ ha hn _).mono ?_; rintro e w' ⟨rfl, rfl⟩
      rw [g]
      go_wp2_with fail
      go_ret
      exact ⟨rfl, rfl⟩
  · have ⟨h1, h2, h3, h4⟩ := Cq.inF_is g
    obtain ⟨k, rfl⟩ := Int.eq_ofNat_of_zero_le (show 0 ≤ n by omega)
    obtain ⟨j, rfl⟩ := Int.eq_ofNat_of_zero_le h1
    rw [show field v j k = (fieldN v.toNat j k : Int) by unfold field; rw [g]; rfl, Cq.field_end hv.1]
    have hj : j ≤ 31 := by omega
    have hjk : j + k ≤ 32 := by omega
    have hv0 := hv.1
    clear h1 h2 h3 h4
    go_enter Try.func39, Try.ntmps39
    go_wp2_with fail
    go_loop [7, 8] (fun r i => ∃ m : Nat, m ≤ k ∧ i = .int .i64 m ∧ r = .int .u32 (v / 2 ^ j % 2 ^ m)) (fun _ i => k - (intOf i).toNat)
    case atStart => exact ⟨0, by omega, rfl, by simp⟩
    case round =>
      obtain ⟨m, hm, rfl, rfl⟩ := hrel
      by_cases hlt : m < k
      · have hr := Cq.field_round hv j m (by omega)
        rw [Cq.wrap32u, Cq.wrap32u] at hr
        have HR := Lib.hid hr; clear hr
        have HQ := Lib.hid (Cq.rem_two hv0 (j + m))
        go_wp2_with fail
        refine (within_any _ _ ha hn _).mono ?_; rintro e w' ⟨rfl, rfl⟩
        rw [g]
        go_wp2_with fail
        go_round
        case rel => exact ⟨m + 1, by omega, by go_num, by rw [← HR.out, ← HQ.out]⟩
        case measure => simp [intOf]; omega
      · have : m = k := by omega
        subst this
        go_wp2_with fail
        refine (within_any _ _ ha hn _).mono ?_; rintro e w' ⟨rfl, rfl⟩
        rw [g]
        go_wp2_with fail
        go_ret
        exact ⟨rfl, rfl⟩
theorem rwith_any (v a n f : Int) (hv : U32 v) (hf : U32 f) (ha : I64 a) (hn : I64 n) (W : World) : Calls Try.prog 40 #[.int .u32 v, .int .i64 a, .int .i64 n, .int .u32 f] W
    fun e W' => e = .returned (.int .u32 (withF v a n f)) ∧ W = W' := by
  have us := Cq.withF_u32 hv a n f
  have hb : ∀ i, Cq.putBit v a n f i = (withF v a n f) / 2 ^ i % 2 := Cq.putBit_is hv hf a n
  have HB := Lib.hid hb
  have HE := Lib.hid (Cq.with_end us)
  clear hb
  generalize withF v a n f = s at *
  go_enter Try.func40, Try.ntmps40
  go_wp2_with fail
  go_loop [9, 10, 11] (fun r i _ => ∃ m : Nat, m ≤ 32 ∧ i = .int .i64 m ∧ r = .int .u32 (s % 2 ^ m)) (fun _ i _ => 32 - (intOf i).toNat)
  case atStart => exact ⟨0, by omega, rfl, by simp⟩
  case round =>
    obtain ⟨m, hm, rfl, rfl⟩ := hrel
    have hv0 := hv.1
    have hf0 := hf.1
    by_cases hlt : m < 32
    · have hr := Cq.with_round us m hlt
      rw [Cq.wrap32u, Cq.wrap32u] at hr
      have HR := Lib.hid hr; clear hr
      have hbm := HB.out m
      have HV := Lib.hid (Cq.rem_two hv0 m)
      have hna := ha
      have hnn := hn
      unfold I64 at hna hnn
      unfold Cq.putBit at hbm
      cases g : inF a n
      · rw [g, Bool.false_and, Bool.false_and, if_neg (by decide)] at hbm
        have HM := Lib.hid hbm
        clear hbm
        go_wp2_with fail
        refine (within_any _ _ ha hn _).mono ?_; rintro e w' ⟨rfl, rfl⟩
        rw [g]
        go_wp2_with fail
        go_round
        case rel => exact ⟨m + 1, by omega, by go_num, by rw [← HR.out, ← HM.out, ← HV.out]⟩
        case measure => simp [intOf]; omega
      · have ⟨h1, h2, h3, h4⟩ := Cq.inF_is g
        rw [g, Bool.true_and] at hbm
        by_cases p1 : a ≤ m
        · by_cases p2 : (m : Int) - a < n
          · obtain ⟨j, rfl⟩ := Int.eq_ofNat_of_zero_le h1
            rw [if_pos (by simp [p1, p2]), Int.toNat_natCast] at hbm
            have HF := Lib.hid (Cq.rem_two hf0 (m - j))
            have HM := Lib.hid hbm
            clear hbm
            have hmj : m - j ≤ 31 := by omega
            go_wp2_with fail
            refine (within_any _ _ ha hn _).mono ?_; rintro e w' ⟨rfl, rfl⟩
            rw [g]
            go_wp2_with fail
            go_round
            case rel => exact ⟨m + 1, by omega, by go_num, by rw [← HR.out, ← HM.out, ← HF.out]⟩
            case measure => simp [intOf]; omega
          · rw [if_neg (by simp; omega)] at hbm
            have HM := Lib.hid hbm
            clear hbm
            have p2' := Int.not_lt.mp p2
            clear p2
            go_wp2_with fail
            refine (within_any _ _ ha hn _).mono ?_; rintro e w' ⟨rfl, rfl⟩
            rw [g]
            go_wp2_with fail
            go_round
            case rel => exact ⟨m + 1, by omega, by go_num, by rw [← HR.out, ← HM.out, ← HV.out]⟩
            case measure => simp [intOf]; omega
        · rw [if_neg (by simp; omega)] at hbm
          have HM := Lib.hid hbm
          clear hbm
          have p1' := Int.not_le.mp p1
          clear p1
          go_wp2_with fail
          refine (within_any _ _ ha hn _).mono ?_; rintro e w' ⟨rfl, rfl⟩
          rw [g]
          go_wp2_with fail
          go_round
          case rel => exact ⟨m + 1, by omega, by go_num, by rw [← HR.out, ← HM.out, ← HV.out]⟩
          case measure => simp [intOf]; omega
    · have : m = 32 := by omega
      subst this
      go_wp2_with fail
      go_ret
      exact ⟨by rw [HE.out]; rfl, rfl⟩
theorem law_fields (v a n f : Int) (hv : U32 v) (hf : U32 f) (ha : I64 a) (hn : I64 n) (W : World) : Calls Try.prog 8 #[.int .u32 v, .int .i64 a, .int .i64 n, .int .u32 f] W
    fun e W' => e = .returned (.bool true) ∧ Grown W W' := by
  have H1 := Lib.hid (Cq.with_back hv a n f)
  have ux := Cq.withF_u32 hv a n f
  have uf := Cq.field_u32 hv a n
  go_enter Try.func8, Try.ntmps8
  go_wp2_with fail
  refine (with_any _ _ _ _ hv hf ha hn _).mono ?_; rintro e w' ⟨rfl, rfl⟩
  go_wp2_with fail
  refine (field_any _ _ _ hv ha hn _).mono ?_; rintro e w' ⟨rfl, rfl⟩
  go_wp2_with fail
  refine (rfield_any _ _ _ hv ha hn _).mono ?_; rintro e w' ⟨rfl, rfl⟩
  go_wp2_with fail
  refine (rwith_any _ _ _ _ hv hf ha hn _).mono ?_; rintro e w' ⟨rfl, rfl⟩
  go_wp2_with fail
  refine (field_any _ _ _ ux ha hn _).mono ?_; rintro e w' ⟨rfl, rfl⟩
  go_wp2_with fail
  refine (rfield_any _ _ _ ux ha hn _).mono ?_; rintro e w' ⟨rfl, rfl⟩
  go_wp2_with fail
  refine (field_any _ _ _ hv ha hn _).mono ?_; rintro e w' ⟨rfl, rfl⟩
  go_wp2_with fail
  refine (with_any _ _ _ _ ux uf ha hn _).mono ?_; rintro e w' ⟨rfl, rfl⟩
  rw [H1.out]
  go_wp2_with fail
  refine (awake_any _).mono ?_; rintro e w' ⟨rfl, rfl⟩
  go_wp2_with fail
  go_ret
  exact ⟨rfl, Grown.refl _⟩
end Go.Proofs.Ytkjbhhbgfhicgaa
