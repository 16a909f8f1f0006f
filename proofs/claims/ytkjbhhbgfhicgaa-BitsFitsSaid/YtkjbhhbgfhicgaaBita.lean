/- Walks of layer 1: whether a number has so many bits; how often 2 is doubled; which bits any of several words has. -/
import Derived.Test.YtkjbhhbgfhicgaaBitu
import Derived.Test.YtkjbhhbgfhicgaaBitv
namespace Go.Proofs.Ytkjbhhbgfhicgaa
open Go.RowKit
open Cq (U64 I64 fits fitsU logF orTo inTo bit)

theorem fits_any (v n : Int) (hv : I64 v) (hn : I64 n) (W : World) : Calls Try.prog 44 #[.int .i64 v, .int .i64 n] W
    fun e W' => e = .returned (.bool (fits v n)) ∧ W = W' := by
  unfold I64 at hn
  by_cases h1 : n < 1
  · rw [show fits v n = false by unfold fits; rw [decide_eq_false (by omega)]; rfl]
    go_enter Try.func44, Try.ntmps44
    go_wp2
    go_ret
    exact ⟨rfl, rfl⟩
  · by_cases h2 : 64 < n
    · rw [show fits v n = false by unfold fits; rw [decide_eq_false (by omega)]; rfl]
      have h1' := Int.not_lt.mp h1
      clear h1
      go_enter Try.func44, Try.ntmps44
      go_wp2
      go_ret
      exact ⟨rfl, rfl⟩
    · obtain ⟨k, rfl⟩ : ∃ k : Nat, n = (k : Int) + 1 := ⟨(n - 1).toNat, by omega⟩
      have hk : k ≤ 63 := by omega
      have HF : Hid (fits v (k + 1) = (v / 2 ^ k == 0 || v / 2 ^ k == -1)) := by
        show fits v (k + 1) = _
        rw [Cq.fits_code hv]; unfold fits; rw [decide_eq_true (by omega), Bool.true_and, show ((k : Int) + 1 - 1).toNat = k from by omega]
      have h1' := Int.not_lt.mp h1
      have h2' := Int.not_lt.mp h2
      clear h1 h2 hn
      by_cases hz : v / 2 ^ k = 0
      · have hz1 : (v / 2 ^ k == 0) = true := by simpa using hz
        go_enter Try.func44, Try.ntmps44
        go_wp2
        go_ret
        exact ⟨by rw [HF.out, hz1]; rfl, rfl⟩
      · have hz1 : (v / 2 ^ k == 0) = false := by simpa using hz
        clear hz
        go_enter Try.func44, Try.ntmps44
        go_wp2
        go_ret
        exact ⟨by rw [HF.out, hz1]; rfl, rfl⟩
theorem rfits_any (v n : Int) (hv : I64 v) (hn : I64 n) (W : World) : Calls Try.prog 45 #[.int .i64 v, .int .i64 n] W
    fun e W' => e = .returned (.bool (fits v n)) ∧ W = W' := by
  unfold I64 at hn
  by_cases h1 : n < 1
  · rw [show fits v n = false by unfold fits; rw [decide_eq_false (by omega)]; rfl]
    go_enter Try.func45, Try.ntmps45
    go_wp2
    go_ret
    exact ⟨rfl, rfl⟩
  · by_cases h2 : 64 < n
    · rw [show fits v n = false by unfold fits; rw [decide_eq_false (by omega)]; rfl]
      have h1' := Int.not_lt.mp h1
      clear h1
      go_enter Try.func45, Try.ntmps45
      go_wp2
      go_ret
      exact ⟨rfl, rfl⟩
    · obtain ⟨j, rfl⟩ : ∃ j : Nat, n = (j : Int) + 1 := ⟨(n - 1).toNat, by omega⟩
      have hj : j ≤ 63 := by omega
      have HF : Hid (fits v (j + 1) = decide (v / 2 ^ j = v / 9223372036854775808)) := by
        show fits v (j + 1) = _
        unfold fits; rw [decide_eq_true (by omega), Bool.true_and, show ((j : Int) + 1 - 1).toNat = j from by omega]
      have h1' := Int.not_lt.mp h1
      have h2' := Int.not_lt.mp h2
      clear h1 h2 hn
      have uv := Cq.u64_wrap v
      have hbw : ∀ i : Nat, i < 64 → bit (IntKind.u64.wrap v) (i : Int) = v / 2 ^ i % 2 := Cq.bit_wrap v
      have HW := Lib.hid hbw; clear hbw
      have h63 := HW.out 63 (by omega)
      have H63 := Lib.hid h63; clear h63
      go_enter Try.func45, Try.ntmps45
      go_wp2_with fail
      go_loop [5] (fun i => ∃ k : Nat, j ≤ k ∧ k ≤ 64 ∧ i = .int .i64 k ∧ fits v (j + 1) = decide (v / 2 ^ k = v / 9223372036854775808)) (fun i => 64 - (intOf i).toNat)
      case atStart => exact ⟨j, by omega, by omega, rfl, HF.out⟩
      case round =>
        obtain ⟨k, hk1, hk2, rfl, hr⟩ := hrel
        have HR := Lib.hid hr; clear hr
        by_cases hlt : k < 64
        · have hki := HW.out k hlt
          have HK := Lib.hid hki; clear hki
          by_cases hb : v / 2 ^ k % 2 = v / 2 ^ 63 % 2
          · have HS := Lib.hid (Cq.fits_same hv k hb)
            have HB := Lib.hid hb
            clear hb
            go_wp2_with fail
            refine (bit_any _ _ (by omega) uv _).mono ?_; rintro e w' ⟨rfl, rfl⟩
            go_wp2_with fail
            refine (bit_any _ _ (by omega) uv _).mono ?_; rintro e w' ⟨rfl, rfl⟩
            rw [HK.out, show ((63 : Int)) = ((63 : Nat) : Int) from rfl, H63.out, HB.out]
            go_wp2_with fail
            go_round
            case rel => exact ⟨k + 1, by omega, by omega, by go_num, by rw [HR.out, HS.out]⟩
            case measure => simp [intOf]; omega
          · have HS := Lib.hid (Cq.fits_other k hb)
            have hb' : (v / 2 ^ k % 2 != v / 2 ^ 63 % 2) = true := by simpa using hb
            have HB := Lib.hid hb
            clear hb
            go_wp2_with fail
            refine (bit_any _ _ (by omega) uv _).mono ?_; rintro e w' ⟨rfl, rfl⟩
            go_wp2_with fail
            refine (bit_any _ _ (by omega) uv _).mono ?_; rintro e w' ⟨rfl, rfl⟩
            rw [HK.out, show ((63 : Int)) = ((63 : Nat) : Int) from rfl, H63.out]
            generalize v / 2 ^ k % 2 = p at *
            generalize v / 2 ^ 63 % 2 = q at *
            have hne : (p == q) = false := by simpa using HB.out
            go_wp2_with fail
            go_ret
            exact ⟨by rw [HR.out, HS.out]; rfl, rfl⟩
        · have : k = 64 := by omega
          subst this
          have HE := Lib.hid (Cq.fits_end hv)
          go_wp2_with fail
          go_ret
          exact ⟨by rw [HR.out, HE.out]; rfl, rfl⟩
theorem fitsU_any (v n : Int) (hv : U64 v) (hn : I64 n) (W : World) : Calls Try.prog 46 #[.int .u64 v, .int .i64 n] W
    fun e W' => e = .returned (.bool (fitsU v n)) ∧ W = W' := by
  unfold I64 at hn
  by_cases h1 : n < 1
  · rw [show fitsU v n = false by unfold fitsU; rw [decide_eq_false (by omega)]; rfl]
    go_enter Try.func46, Try.ntmps46
    go_wp2
    go_ret
    exact ⟨by simp, rfl⟩
  · by_cases h2 : 64 < n
    · rw [show fitsU v n = false by unfold fitsU; rw [decide_eq_false (by omega)]; rfl]
      have h1' := Int.not_lt.mp h1
      clear h1
      go_enter Try.func46, Try.ntmps46
      go_wp2
      go_ret
      exact ⟨by simp, rfl⟩
    · obtain ⟨k, rfl⟩ : ∃ k : Nat, n = (k : Int) := ⟨n.toNat, by omega⟩
      have hk : k ≤ 64 := by omega
      have hv0 := hv.1
      have HF : Hid (fitsU v k = (v / 2 ^ k == 0)) := by
        show fitsU v k = _
        unfold fitsU; rw [decide_eq_true (by omega), Bool.true_and]; rfl
      have h1' := Int.not_lt.mp h1
      have h2' := Int.not_lt.mp h2
      clear h1 h2 hn
      go_enter Try.func46, Try.ntmps46
      go_wp2
      go_ret
      exact ⟨by rw [HF.out]; simp, rfl⟩
theorem rfitsU_any (v n : Int) (hv : U64 v) (hn : I64 n) (W : World) : Calls Try.prog 47 #[.int .u64 v, .int .i64 n] W
    fun e W' => e = .returned (.bool (fitsU v n)) ∧ W = W' := by
  unfold I64 at hn
  by_cases h1 : n < 1
  · rw [show fitsU v n = false by unfold fitsU; rw [decide_eq_false (by omega)]; rfl]
    go_enter Try.func47, Try.ntmps47
    go_wp2_with fail
    go_loop [5] (fun i => i = .int .i64 n) (fun _ => 0)
    case atStart => rfl
    case round =>
      subst hrel
      go_wp2_with fail
      go_ret
      exact ⟨by simp, rfl⟩
  · obtain ⟨j, rfl⟩ : ∃ k : Nat, n = (k : Int) := ⟨n.toNat, by omega⟩
    have hj1 : 1 ≤ (j : Int) := Int.not_lt.mp h1
    clear h1
    by_cases h2 : 64 < (j : Int)
    · rw [show fitsU v j = false by unfold fitsU; rw [decide_eq_false (by omega)]; rfl]
      go_enter Try.func47, Try.ntmps47
      go_wp2_with fail
      go_loop [5] (fun i => i = .int .i64 j) (fun _ => 0)
      case atStart => rfl
      case round =>
        subst hrel
        go_wp2_with fail
        go_ret
        exact ⟨by simp; exact h2, rfl⟩
    · have h2' := Int.not_lt.mp h2
      clear h2
      have HF : Hid (fitsU v j = decide (v / 2 ^ j = 0)) := by
        show fitsU v j = _
        unfold fitsU; rw [decide_eq_true (by omega), Bool.true_and, Int.toNat_natCast]
      go_enter Try.func47, Try.ntmps47
      go_wp2_with fail
      go_loop [5] (fun i => ∃ k : Nat, j ≤ k ∧ k ≤ 64 ∧ i = .int .i64 k ∧ fitsU v j = decide (v / 2 ^ k = 0)) (fun i => 64 - (intOf i).toNat)
      case atStart => exact ⟨j, by omega, by omega, rfl, HF.out⟩
      case round =>
        obtain ⟨k, hk1, hk2, rfl, hr⟩ := hrel
        have HR := Lib.hid hr; clear hr
        by_cases hlt : k < 64
        · have hb := Cq.bit_01 v k
          by_cases hz : bit v k = 0
          · have HS := Lib.hid (Cq.fitsU_same k hz)
            have HZ := Lib.hid hz
            clear hz
            go_wp2_with fail
            refine (bit_any _ _ (by omega) hv _).mono ?_; rintro e w' ⟨rfl, rfl⟩
            rw [HZ.out]
            go_wp2_with fail
            go_round
            case rel => exact ⟨k + 1, by omega, by omega, by go_num, by rw [HR.out, HS.out]⟩
            case measure => simp [intOf]; omega
          · have hz1 : bit v k = 1 := by omega
            have HS := Lib.hid (Cq.fitsU_other k hz1)
            have HZ := Lib.hid hz1
            clear hz hz1
            go_wp2_with fail
            refine (bit_any _ _ (by omega) hv _).mono ?_; rintro e w' ⟨rfl, rfl⟩
            rw [HZ.out]
            go_wp2_with fail
            go_ret
            exact ⟨by rw [HR.out, HS.out]; rfl, rfl⟩
        · have : k = 64 := by omega
          subst this
          have HE := Lib.hid (Cq.fitsU_end hv)
          go_wp2_with fail
          go_ret
          exact ⟨by rw [HR.out, HE.out]; simp, rfl⟩
theorem log_any (n : Int) (hn : I64 n) (W : World) : Calls Try.prog 43 #[.int .i64 n] W
    fun e W' => e = .returned (.int .i64 (logF n 63 0 : Int)) ∧ W = W' := by
  unfold I64 at hn
  go_enter Try.func43, Try.ntmps43
  go_wp2_with fail
  go_loop [3] (fun i => ∃ k : Nat, k ≤ 63 ∧ i = .int .i64 k ∧ logF n 63 0 = logF n (63 - k) k) (fun i => 63 - (intOf i).toNat)
  case atStart => exact ⟨0, by omega, rfl, rfl⟩
  case round =>
    obtain ⟨k, hk, rfl, hr⟩ := hrel
    have HR := Lib.hid hr; clear hr
    by_cases h1 : 1 < n
    · have ht := Cq.log_test h1 k
      by_cases hz : (n - 1) / 2 ^ k = 0
      · have HN := Lib.hid (Cq.logF_no k (ht.mp hz))
        have hz1 : ((n - 1) / 2 ^ k == 0) = true := by simpa using hz
        have HT := Lib.hid hz
        clear ht hz
        go_wp2_with fail
        go_ret
        exact ⟨by rw [HR.out, HN.out]; rfl, rfl⟩
      · have hlt : (2 : Int) ^ k < n := by
          by_cases g : (2 : Int) ^ k < n
          · exact g
          · exact absurd (ht.mpr g) hz
        have hk63 : k < 63 := by
          by_cases g : k = 63
          · subst g
            have e : (2 : Int) ^ 63 = 9223372036854775808 := by decide
            omega
          · omega
        have HN := Lib.hid (Cq.logF_yes k hk63 hlt)
        have hz1 : ((n - 1) / 2 ^ k == 0) = false := by simpa using hz
        have HT := Lib.hid hz
        clear ht hz hlt
        go_wp2_with fail
        go_round
        case rel => exact ⟨k + 1, by omega, by go_num, by rw [HR.out, HN.out]⟩
        case measure => simp [intOf]; omega
    · have hlo := Int.not_lt.mp h1
      have hp : (0 : Int) < 2 ^ k := Int.pow_pos (by decide)
      have HN : Hid (logF n (63 - k) k = k) := Cq.logF_no k (by omega)
      clear hp
      clear h1
      go_wp2_with fail
      go_ret
      exact ⟨by rw [HR.out, HN.out]; rfl, rfl⟩
theorem rlog_any (n : Int) (_hn : I64 n) (W : World) : Calls Try.prog 50 #[.int .i64 n] W
    fun e W' => e = .returned (.int .i64 (logF n 63 0 : Int)) ∧ W = W' := by
  unfold I64 at _hn
  go_enter Try.func50, Try.ntmps50
  go_wp2_with fail
  go_loop [3] (fun i => ∃ k : Nat, k ≤ 63 ∧ i = .int .i64 k ∧ logF n 63 0 = logF n (63 - k) k) (fun i => 63 - (intOf i).toNat)
  case atStart => exact ⟨0, by omega, rfl, rfl⟩
  case round =>
    obtain ⟨k, hk, rfl, hr⟩ := hrel
    have HR := Lib.hid hr; clear hr
    by_cases h63 : k < 63
    · have hp : (0 : Int) < 2 ^ k ∧ (2 : Int) ^ k ≤ 4611686018427387904 := by
        refine ⟨Int.pow_pos (by decide), ?_⟩
        have := Nat.pow_le_pow_right (n := 2) (by decide) (show k ≤ 62 by omega)
        have e : ((2 ^ k : Nat) : Int) = (2 : Int) ^ k := by simp
        have e2 : (2 : Nat) ^ 62 = 4611686018427387904 := by decide
        omega
      by_cases hlt : (2 : Int) ^ k < n
      · have HN := Lib.hid (Cq.logF_yes k h63 hlt)
        go_wp2_with fail
        go_round
        case rel => exact ⟨k + 1, by omega, by go_num, by rw [HR.out, HN.out]⟩
        case measure => simp [intOf]; omega
      · have HN := Lib.hid (Cq.logF_no k hlt)
        have hge := Int.not_lt.mp hlt
        clear hlt
        go_wp2_with fail
        go_ret
        exact ⟨by rw [HR.out, HN.out]; rfl, rfl⟩
    · have : k = 63 := by omega
      subst this
      go_wp2_with fail
      go_ret
      exact ⟨by rw [HR.out]; rfl, rfl⟩
/-- the first n cells of a row hold these words -/
def Words (W : World) (b off n : Nat) (z : List Int) : Prop := ∀ i, i < n → W.cell? ⟨b, off + i, none⟩ = some (.int .u64 (z.getD i 0))
theorem any_none (a : Option Addr) (cap : Nat) (W : World) : Calls Try.prog 41 #[.slice a 0 cap] W
    fun e W' => e = .returned (.int .u64 0) ∧ W = W' := by
  go_enter Try.func41, Try.ntmps41
  go_wp2_with fail
  go_loop [3, 5, 8] (fun r _ i => r = .int .u64 0 ∧ i = .int .i64 0) (fun _ _ _ => 0)
  case atStart => exact ⟨rfl, rfl⟩
  case round =>
    obtain ⟨rfl, rfl⟩ := hrel
    go_wp2_with fail
    go_ret
    exact ⟨rfl, rfl⟩
theorem any_row (b off len cap : Nat) (z : List Int) (W : World) (hc : Words W b off len z) (hl : len ≤ 9) : Calls Try.prog 41 #[.slice (some ⟨b, off, none⟩) len cap] W
    fun e W' => e = .returned (.int .u64 (orTo z len)) ∧ W = W' := by
  go_enter Try.func41, Try.ntmps41
  go_wp2_with fail
  go_loop [3, 5, 8] (fun r _ i => ∃ k : Nat, k ≤ len ∧ i = .int .i64 k ∧ r = .int .u64 (orTo z k)) (fun _ _ i => len - (intOf i).toNat)
  case atStart => exact ⟨0, by omega, rfl, rfl⟩
  case round =>
    obtain ⟨k, hk, rfl, rfl⟩ := hrel
    by_cases hlt : k < len
    · have hcell := hc k hlt
      go_wp2_with fail
      go_round
      case rel => exact ⟨k + 1, by omega, by go_num, rfl⟩
      case measure => simp [intOf]; omega
    · have : k = len := by omega
      subst this
      go_wp2_with fail
      go_ret
      exact ⟨rfl, rfl⟩
end Go.Proofs.Ytkjbhhbgfhicgaa
