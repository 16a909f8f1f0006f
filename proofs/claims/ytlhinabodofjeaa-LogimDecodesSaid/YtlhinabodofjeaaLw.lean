/- Walks of layer 1: fields of a word, ones, so many bits (cut out of stage 1's texts). -/
import Derived.Test.YtlhinabodofjeaaRows
import Derived.Test.YtlhinabodofjeaaBitt
import Derived.Test.YtlhinabodofjeaaBitv
import Derived.Test.YtlhinabodofjeaaBitp
import Derived.WalkKit
import Derived.WalkLawsBesides
import Derived.WalkSpells
import Derived.LoopTactic
import Derived.Lib.Hide
import Derived.Deep.QuietTactic
import Derived.BigQuiet
namespace Go.Proofs.Ytlhinabodofjeaa
open Go.RowKit
open Cq (U32 U64 I64 inF field withF onesF fieldN withN ones fitsU)

theorem fieldOf_any (a n : Int) (ha : I64 a) (hn : I64 n) (W : World) : Calls Try.prog 22 #[.int .i64 a, .int .i64 n] W
    fun e W' => e = .returned (.int .u32 (onesF a n)) ∧ W = W' := by
  unfold I64 at ha hn
  cases g : inF a n
  · have hc := Cq.inF_not g
    rw [show onesF a n = 0 by unfold onesF; rw [g]; rfl]
    clear g
    by_cases h1 : a < 0
    · clear hc
      go_enter Try.func22, Try.ntmps22
      go_wp2
      go_ret
      exact ⟨rfl, rfl⟩
    · have h1' := Int.not_lt.mp h1
      clear h1
      by_cases h2 : 31 < a
      · clear hc
        go_enter Try.func22, Try.ntmps22
        go_wp2
        go_ret
        exact ⟨rfl, rfl⟩
      · have h2' := Int.not_lt.mp h2
        clear h2
        by_cases h3 : n < 1
        · clear hc
          go_enter Try.func22, Try.ntmps22
          go_wp2
          go_ret
          exact ⟨rfl, rfl⟩
        · have h3' := Int.not_lt.mp h3
          clear h3
          have h4 : 32 - a < n := by omega
          clear hc
          go_enter Try.func22, Try.ntmps22
          go_wp2
          go_ret
          exact ⟨rfl, rfl⟩
  · have ⟨h1, h2, h3, h4⟩ := Cq.inF_is g
    obtain ⟨k, rfl⟩ := Int.eq_ofNat_of_zero_le (show 0 ≤ n by omega)
    have hk : k ≤ 32 := by omega
    have HO := Lib.hid (Cq.ones_shift k hk)
    rw [show onesF a k = 2 ^ k - 1 by unfold onesF; rw [g]; rfl]
    clear g
    go_enter Try.func22, Try.ntmps22
    go_wp2
    go_ret
    exact ⟨by rw [HO.out]; rfl, rfl⟩
theorem field_any (v a n : Int) (hv : U32 v) (ha : I64 a) (hn : I64 n) (W : World) : Calls Try.prog 16 #[.int .u32 v, .int .i64 a, .int .i64 n] W
    fun e W' => e = .returned (.int .u32 (field v a n)) ∧ W = W' := by
  cases g : inF a n
  · rw [show field v a n = 0 by unfold field; rw [g]; rfl]
    have HO : Hid (onesF a n = 0) := by show onesF a n = 0; unfold onesF; rw [g]; rfl
    have HZ := Lib.hid Cq.and_zero32
    go_enter Try.func16, Try.ntmps16
    go_wp2_with fail
    refine (fieldOf_any _ _ ha hn _).mono ?_; rintro e w' ⟨rfl, rfl⟩
    rw [HO.out]
    go_wp2_with fail
    go_ret
    exact ⟨by rw [HZ.out]; rfl, rfl⟩
  · have ⟨h1, h2, h3, h4⟩ := Cq.inF_is g
    obtain ⟨k, rfl⟩ := Int.eq_ofNat_of_zero_le (show 0 ≤ n by omega)
    obtain ⟨j, rfl⟩ := Int.eq_ofNat_of_zero_le h1
    rw [show field v j k = (fieldN v.toNat j k : Int) by unfold field; rw [g]; rfl]
    have HO : Hid (onesF j k = 2 ^ k - 1) := by show onesF j k = _; unfold onesF; rw [g]; rfl
    have HZ := Lib.hid (Cq.code_field hv j k (by omega))
    have hj : j ≤ 31 := by omega
    go_enter Try.func16, Try.ntmps16
    go_wp2_with fail
    refine (fieldOf_any _ _ ha hn _).mono ?_; rintro e w' ⟨rfl, rfl⟩
    rw [HO.out]
    go_wp2_with fail
    go_ret
    exact ⟨by rw [HZ.out]; rfl, rfl⟩
theorem with_any (v a n f : Int) (hv : U32 v) (hf : U32 f) (ha : I64 a) (hn : I64 n) (W : World) : Calls Try.prog 23 #[.int .u32 v, .int .i64 a, .int .i64 n, .int .u32 f] W
    fun e W' => e = .returned (.int .u32 (withF v a n f)) ∧ W = W' := by
  cases g : inF a n
  · rw [show withF v a n f = v by unfold withF; rw [g]; rfl]
    have HO : Hid (onesF a n = 0) := by show onesF a n = 0; unfold onesF; rw [g]; rfl
    have HZ := Lib.hid Cq.and_zero32
    have HA := Lib.hid (Cq.andNot_zero32 hv)
    have HR := Lib.hid (Cq.or_zero32 hv)
    go_enter Try.func23, Try.ntmps23
    go_wp2_with fail
    refine (fieldOf_any _ _ ha hn _).mono ?_; rintro e w' ⟨rfl, rfl⟩
    rw [HO.out]
    go_wp2_with fail
    go_ret
    exact ⟨by rw [HZ.out, HA.out, Int.zero_mul, Int.zero_emod, HR.out]; rfl, rfl⟩
  · have ⟨h1, h2, h3, h4⟩ := Cq.inF_is g
    obtain ⟨k, rfl⟩ := Int.eq_ofNat_of_zero_le (show 0 ≤ n by omega)
    obtain ⟨j, rfl⟩ := Int.eq_ofNat_of_zero_le h1
    rw [show withF v j k f = (withN v.toNat j k f.toNat : Int) by unfold withF; rw [g]; rfl]
    have HO : Hid (onesF j k = 2 ^ k - 1) := by show onesF j k = _; unfold onesF; rw [g]; rfl
    have hz := Cq.code_with hv hf j k (by omega)
    rw [Cq.wrap32u, Cq.wrap32u] at hz
    have HZ := Lib.hid hz
    clear hz
    have hj : j ≤ 31 := by omega
    go_enter Try.func23, Try.ntmps23
    go_wp2_with fail
    refine (fieldOf_any _ _ ha hn _).mono ?_; rintro e w' ⟨rfl, rfl⟩
    rw [HO.out]
    go_wp2_with fail
    go_ret
    exact ⟨by rw [HZ.out]; rfl, rfl⟩
theorem ones_any (v : Int) (hv : U64 v) (W : World) : Calls Try.prog 19 #[.int .u64 v] W fun e W' => e = .returned (.int .i64 (ones v : Int)) ∧ W = W' := by
  have hl := Cq.ones_le v
  go_enter Try.func19, Try.ntmps19
  go_wp2_with fail
  go_loop [0, 3] (fun x n => ∃ (y : Int) (k : Nat), U64 y ∧ x = .int .u64 y ∧ n = .int .i64 k ∧ k + ones y = ones v) (fun x _ => ones (intOf x))
  case atStart => exact ⟨v, 0, hv, rfl, rfl, by omega⟩
  case round =>
    obtain ⟨y, k, hy, rfl, rfl, hk⟩ := hrel
    have hyl := Cq.ones_le y
    have hy0 := hy.1
    have HK := Lib.hid hk
    have hkb : k ≤ 64 := by omega
    clear hk hyl
    by_cases h0 : y = 0
    · subst h0
      have H0 := Lib.hid Cq.ones_zero
      go_wp2_with fail
      go_ret
      exact ⟨by have : k = ones v := by have := HK.out; have := H0.out; omega
                subst this; rfl, rfl⟩
    · have hpos : 0 < y := by omega
      have hne : (y == 0) = false := by simpa using h0
      have hne' : (y != 0) = true := by simpa using h0
      have HS := Lib.hid (Cq.ones_less' hy hpos)
      clear h0
      go_wp2_with fail
      go_round
      case rel => exact ⟨_, k + 1, Cq.bits_u64 _ _ _, rfl, by go_num, by have := HS.out; have := HK.out; omega⟩
      case measure =>
        have := HS.out
        show ones (bits .and .u64 y (IntKind.u64.wrap (y - 1))) < ones y
        omega
theorem fitsU_any (v n : Int) (hv : U64 v) (hn : I64 n) (W : World) : Calls Try.prog 15 #[.int .u64 v, .int .i64 n] W
    fun e W' => e = .returned (.bool (fitsU v n)) ∧ W = W' := by
  unfold I64 at hn
  by_cases h1 : n < 1
  · rw [show fitsU v n = false by unfold fitsU; rw [decide_eq_false (by omega)]; rfl]
    go_enter Try.func15, Try.ntmps15
    go_wp2
    go_ret
    exact ⟨by simp, rfl⟩
  · by_cases h2 : 64 < n
    · rw [show fitsU v n = false by unfold fitsU; rw [decide_eq_false (by omega)]; rfl]
      have h1' := Int.not_lt.mp h1
      clear h1
      go_enter Try.func15, Try.ntmps15
      go_wp2
      go_ret
      exact ⟨by simp, rfl⟩
    · obtain ⟨k, rfl⟩ : ∃ k : Nat, n = (k : Int) := ⟨n.toNat, by omega⟩
      have hk : k ≤ 64 := by omega
      have hv0 := hv.1
      have HF : Hid (fitsU v k = (v / 2 ^ k == 0)) := by
        show fitsU v k = _
        unfold fitsU; rw [decide_eq_true (by omega), Bool.true_and]; rfl
      have h1' := Int.not_lt.mp h1
      have h2' := Int.not_lt.mp h2
      clear h1 h2 hn
      go_enter Try.func15, Try.ntmps15
      go_wp2
      go_ret
      exact ⟨by rw [HF.out]; simp, rfl⟩
end Go.Proofs.Ytlhinabodofjeaa
