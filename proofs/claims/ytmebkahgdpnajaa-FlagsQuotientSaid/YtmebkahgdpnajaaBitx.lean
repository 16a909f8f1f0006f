/- Walks of layer 1: sums and differences of the code and of the document's own answers. -/
import Derived.Test.YtmebkahgdpnajaaBitw
namespace Go.Proofs.Ytmebkahgdpnajaa
open Go.RowKit
open Cq (U64 I64 isW nb zx mask neg sx oneI bit sumV sumC sumO lessV lessC lessO)

theorem sum_any (a b : Int) (c : Bool) (w : Int) (W : World) : Calls Try.prog 24 #[.int .u64 a, .int .u64 b, .bool c, .int .i64 w] W
    fun e W' => e = .returned (.tuple #[.int .u64 (sumV a b c w), .bool (sumC a b c w), .bool (sumO a b c w)]) ∧ W = W' := by
  have H1 := Lib.hid (Cq.code_sumV a b c w)
  have H2 := Lib.hid (Cq.code_sumC (Cq.code_sumB a b c) w)
  have H3 := Lib.hid (Cq.code_sumO (Cq.code_sumB a b c) w)
  go_enter Try.func24, Try.ntmps24
  go_wp2_with fail
  refine (one_any _ _).mono ?_; rintro e w' ⟨rfl, rfl⟩
  go_wp2_with fail
  refine (zx_any _ _ _).mono ?_; rintro e w' ⟨rfl, rfl⟩
  go_wp2_with fail
  refine (neg_any _ _ (Cq.bits_u64 _ _ _) _).mono ?_; rintro e w' ⟨rfl, rfl⟩
  go_wp2_with fail
  refine (neg_any _ _ (Cq.bits_u64 _ _ _) _).mono ?_; rintro e w' ⟨rfl, rfl⟩
  go_wp2_with fail
  go_ret3
  exact ⟨by rw [H1.out, H2.out, H3.out]; rfl, rfl⟩
theorem less_any (a b : Int) (c : Bool) (w : Int) (W : World) : Calls Try.prog 25 #[.int .u64 a, .int .u64 b, .bool c, .int .i64 w] W
    fun e W' => e = .returned (.tuple #[.int .u64 (lessV a b c w), .bool (lessC a b c w), .bool (lessO a b c w)]) ∧ W = W' := by
  have H1 := Lib.hid (Cq.code_lessV a b c w)
  have H2 := Lib.hid (Cq.code_lessC' (Cq.code_lessB a b c) w)
  have H3 := Lib.hid (Cq.code_lessO (Cq.code_lessB a b c) w)
  go_enter Try.func25, Try.ntmps25
  go_wp2_with fail
  refine (one_any _ _).mono ?_; rintro e w' ⟨rfl, rfl⟩
  go_wp2_with fail
  refine (zx_any _ _ _).mono ?_; rintro e w' ⟨rfl, rfl⟩
  go_wp2_with fail
  refine (neg_any _ _ (Cq.bits_u64 _ _ _) _).mono ?_; rintro e w' ⟨rfl, rfl⟩
  go_wp2_with fail
  refine (neg_any _ _ (Cq.bits_u64 _ _ _) _).mono ?_; rintro e w' ⟨rfl, rfl⟩
  go_wp2_with fail
  go_ret3
  exact ⟨by rw [H1.out, H2.out, H3.out]; rfl, rfl⟩

def car (a b : Int) (c : Bool) (k : Nat) : Int := oneI (BitVec.carry k (Cq.B a) (Cq.B b) c)
theorem car_01 (a b : Int) (c : Bool) (k : Nat) : 0 ≤ car a b c k ∧ car a b c k ≤ 1 := by
  have := Cq.oneI_01 (BitVec.carry k (Cq.B a) (Cq.B b) c); unfold car; omega
theorem car_v {a b : Int} {c : Bool} (ha : U64 a) (hb : U64 b) (k : Nat) (hk : k < 64) :
    IntKind.u64.wrap ((a + b + oneI c) % 2 ^ k + IntKind.u64.wrap ((bit a ↑k + bit b ↑k + car a b c k) % 2 * 2 ^ k)) = (a + b + oneI c) % 2 ^ (k + 1)
    ∧ (bit a ↑k + bit b ↑k + car a b c k) / 2 = car a b c (k + 1) := by
  have ⟨e1, e2⟩ := Cq.column a b ha.1 hb.1 c k hk
  refine ⟨?_, e2⟩
  have ⟨p, q⟩ := Cq.pow_le (k + 1) (by omega)
  have ⟨p', q'⟩ := Cq.pow_le k (by omega)
  have r1 := Int.emod_nonneg (a + b + oneI c) (b := 2 ^ (k + 1)) (by omega)
  have r2 := Int.emod_lt_of_pos (a + b + oneI c) p
  have r3 := Int.emod_nonneg (a + b + oneI c) (b := 2 ^ k) (by omega)
  have e1' : (a + b + oneI c) % 2 ^ k + (bit a ↑k + bit b ↑k + car a b c k) % 2 * 2 ^ k = (a + b + oneI c) % 2 ^ (k + 1) := e1
  have hb : 0 ≤ (bit a ↑k + bit b ↑k + car a b c k) % 2 * 2 ^ k := Int.mul_nonneg (by omega) (by omega)
  rw [Cq.wrap_of_u64 (n := (bit a ↑k + bit b ↑k + car a b c k) % 2 * 2 ^ k) ⟨hb, by omega⟩, e1']
  exact Cq.wrap_of_u64 ⟨r1, by omega⟩
theorem car_c (a b : Int) (c : Bool) (w : Int) (h : isW w = true) : (car a b c (nb w) == 1) = sumC a b c w := by
  unfold car sumC; rw [h]; cases BitVec.carry (nb w) (Cq.B a) (Cq.B b) c <;> rfl
theorem car_o (a b : Int) (c : Bool) (w : Int) (h : isW w = true) : (car a b c (nb w) != car a b c (nb w - 1)) = sumO a b c w := by
  unfold car sumO; rw [h]
  cases BitVec.carry (nb w) (Cq.B a) (Cq.B b) c <;> cases BitVec.carry (nb w - 1) (Cq.B a) (Cq.B b) c <;> rfl
theorem rsum_any (a b : Int) (c : Bool) (w : Int) (ha : U64 a) (hb : U64 b) (W : World) : Calls Try.prog 29 #[.int .u64 a, .int .u64 b, .bool c, .int .i64 w] W
    fun e W' => e = .returned (.tuple #[.int .u64 (sumV a b c w), .bool (sumC a b c w), .bool (sumO a b c w)]) ∧ W = W' := by
  cases h : isW w
  · rw [show sumV a b c w = 0 by unfold sumV; rw [Cq.nb_not h]; simp]
    rw [show sumC a b c w = false by unfold sumC; rw [h]; rfl]
    rw [show sumO a b c w = false by unfold sumO; rw [h]; rfl]
    go_enter Try.func29, Try.ntmps29
    go_wp2_with fail
    refine (ris_any _ _).mono ?_; rintro e w' ⟨rfl, rfl⟩
    rw [h]
    go_wp2_with fail
    go_ret3
    exact ⟨rfl, rfl⟩
  · have ⟨hn, h8, h64⟩ := Cq.nb_is h
    have hw : 1 ≤ w ∧ w ≤ 8 := by omega
    have HN := Lib.hid hn
    have HC := Lib.hid (car_c a b c w h)
    have HO := Lib.hid (car_o a b c w h)
    clear hn
    go_enter Try.func29, Try.ntmps29
    go_wp2_with fail
    refine (ris_any _ _).mono ?_; rintro e w' ⟨rfl, rfl⟩
    rw [h]
    go_wp2_with fail
    refine (rone_any _ _).mono ?_; rintro e w' ⟨rfl, rfl⟩
    go_wp2_with fail
    go_loop [11, 12, 13, 14, 15] (fun r cc l i _ => ∃ k : Nat, k ≤ nb w ∧ i = .int .i64 k ∧ r = .int .u64 ((a + b + oneI c) % 2 ^ k) ∧ cc = .int .u64 (car a b c k) ∧ l = .int .u64 (car a b c (k - 1))) (fun _ _ _ i _ => nb w - (intOf i).toNat)
    case atStart => exact ⟨0, by omega, rfl, by simp, congrArg (Value.int .u64) (Cq.carry_zero a b c).symm, congrArg (Value.int .u64) (Cq.carry_zero a b c).symm⟩
    case round =>
      obtain ⟨k, hk, rfl, rfl, rfl, rfl⟩ := hrel
      by_cases hlt : k < nb w
      · have hlt' : (k : Int) < 8 * w := by have := HN.out; omega
        have hc := car_01 a b c k
        have hx := Cq.bit_01 a k
        have hy := Cq.bit_01 b k
        go_wp2_with fail
        refine (bit_any a k (by omega) ha _).mono ?_; rintro e w' ⟨rfl, rfl⟩
        go_wp2_with fail
        refine (bit_any b k (by omega) hb _).mono ?_; rintro e w' ⟨rfl, rfl⟩
        go_wp2_with fail
        have hv := car_v (c := c) ha hb k (by omega)
        go_round
        case rel => exact ⟨k + 1, by omega, by go_num, congrArg (Value.int .u64) hv.1, congrArg (Value.int .u64) hv.2, rfl⟩
        case measure => simp [intOf]; omega
      · have hlt' : 8 * w ≤ (k : Int) := by have := HN.out; omega
        go_wp2_with fail
        go_ret3
        have : k = nb w := by omega
        subst this
        exact ⟨by rw [HC.out, HO.out]; rfl, rfl⟩
theorem rless_any (a b : Int) (c : Bool) (w : Int) (ha : U64 a) (hb : U64 b) (W : World) : Calls Try.prog 31 #[.int .u64 a, .int .u64 b, .bool c, .int .i64 w] W
    fun e W' => e = .returned (.tuple #[.int .u64 (lessV a b c w), .bool (lessC a b c w), .bool (lessO a b c w)]) ∧ W = W' := by
  have hb' : U64 (18446744073709551615 - b) := by unfold U64 at *; omega
  have e1 := Lib.hid (Cq.wrap_of_u64 hb')
  have e2 := Lib.hid (Cq.lessC_sumC a b c w)
  go_enter Try.func31, Try.ntmps31
  go_wp2_with fail
  rw [e1.out]
  refine (rsum_any _ _ _ _ ha hb' _).mono ?_; rintro e w' ⟨rfl, rfl⟩
  go_wp2_with fail
  refine (ris_any _ _).mono ?_; rintro e w' ⟨rfl, rfl⟩
  cases h : isW w
  · go_wp2_with fail
    go_ret3
    exact ⟨by rw [e2.out, h]; rfl, rfl⟩
  · go_wp2_with fail
    go_ret3
    exact ⟨by rw [e2.out, h]; rfl, rfl⟩
end Go.Proofs.Ytmebkahgdpnajaa
