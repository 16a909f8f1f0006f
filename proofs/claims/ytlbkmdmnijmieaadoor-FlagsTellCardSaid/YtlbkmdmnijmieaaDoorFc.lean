/- Plain mathematics of layer 8: quotients, with and without signs. -/
import Derived.Test.YtlbkmdmnijmieaaDoorFb
namespace Cq
open Go

theorem isQ_isW {w : Int} (h : isQ w = true) : isW w = true := by rcases isQ_cases h with rfl | rfl | rfl <;> decide
theorem isQ_isW2 {w : Int} (h : isQ w = true) : isW (2 * w) = true := by rcases isQ_cases h with rfl | rfl | rfl <;> decide
theorem isQ_nb2 {w : Int} (h : isQ w = true) : nb (2 * w) = 2 * nb w := by rcases isQ_cases h with rfl | rfl | rfl <;> decide
theorem fitsU_is {w : Int} (x : Int) (h : isQ w = true) (hx : 0 ≤ x) : fitsU x (8 * w) = decide (x ≤ zx 18446744073709551615 w) := by
  unfold fitsU zx
  rcases isQ_cases h with rfl | rfl | rfl <;> simp [nb] <;> omega
theorem quo_zx {w : Int} (x : Int) (hx : 0 ≤ x) (h : isQ w = true) (hm : x ≤ zx 18446744073709551615 w) : zx x w = x := by
  unfold zx at *
  rcases isQ_cases h with rfl | rfl | rfl <;> simp [nb] at * <;> omega
theorem rem_zx {w : Int} (x d : Int) (hd : zx d w ≠ 0) : zx (x % zx d w) w = x % zx d w := by
  have h1 := zx_lt d w
  have h2 := Int.emod_nonneg x hd
  have h3 := Int.emod_lt_of_pos x (b := zx d w) (by omega)
  exact Int.emod_eq_of_lt h2 (by omega)

/-- the size of a number of n bits with a sign -/
def qA (x : Int) (n : Bool) (k : Nat) : Int := if n then 2 ^ k - x else x
def qS (x : Int) (n : Bool) : Int := if n then -x else x
theorem tdiv_sign (A E : Int) (n m : Bool) (hA : 0 ≤ A) : (qS A n).tdiv (qS E m) = qS (A / E) (n != m) := by
  unfold qS
  cases n <;> cases m <;> simp [Int.neg_tdiv, Int.tdiv_neg, Int.tdiv_eq_ediv_of_nonneg hA]
theorem tmod_sign (A E : Int) (n m : Bool) (hA : 0 ≤ A) : (qS A n).tmod (qS E m) = qS (A % E) n := by
  unfold qS
  cases n <;> cases m <;> simp [Int.neg_tmod, Int.tmod_neg, Int.tmod_eq_emod_of_nonneg hA]
theorem sg_size (x w : Int) : sg x w = qS (qA (zx x w) (neg x w) (nb w)) (neg x w) := by
  unfold sg qS qA; cases neg x w <;> simp <;> omega
theorem qA_bd {w : Int} (x : Int) (h : isW w = true) : 0 ≤ qA (zx x w) (neg x w) (nb w) ∧ qA (zx x w) (neg x w) (nb w) ≤ 2 ^ (nb w - 1) ∧ (zx x w ≠ 0 → 0 < qA (zx x w) (neg x w) (nb w)) := by
  have h1 := sg_bd x h
  have h2 := zx_lt x w
  rw [sg_size] at h1
  unfold qS qA at *
  generalize neg x w = n at *
  cases n <;> simp at * <;> omega
theorem qA_zx {w : Int} (x : Int) (h : isW w = true) (hn : neg x w = true) : zx (IntKind.u64.wrap (0 - zx x w)) w = 2 ^ nb w - zx x w := by
  rw [zx_wrap]
  rw [neg_ge x h] at hn
  have h2 := zx_lt x w
  have hn' := of_decide_eq_true hn
  generalize zx x w = z at *
  unfold zx
  rcases isW_cases h with rfl | rfl | rfl | rfl <;> simp [nb] at * <;> omega
/-- does the quotient fit? -/
def qOk (q : Int) (m : Bool) (w : Int) : Bool := decide (q ≤ zx 18446744073709551615 w / 2 + (if m then 1 else 0))
theorem fits_is {w : Int} (q : Int) (m : Bool) (h : isQ w = true) (hq : 0 ≤ q ∧ q ≤ 9223372036854775808) : fits (IntKind.i64.wrap (qS q m)) (8 * w) = qOk q m w := by
  rw [IntKind.wrap_i64]
  unfold fits qOk qS zx
  rcases isQ_cases h with rfl | rfl | rfl <;> cases m <;> simp [nb] <;> omega
theorem sx_range {w : Int} (t : Int) (h : isQ w = true) (ht : -(2 ^ (nb w - 1)) ≤ t ∧ t < 2 ^ (nb w - 1)) : sx (zx t w) w = IntKind.u64.wrap t := by
  rw [sx_zx]
  unfold sx
  rw [neg_ge _ (isQ_isW h), IntKind.wrap_u64]
  unfold zx
  rcases isQ_cases h with rfl | rfl | rfl <;> simp [nb] at * <;> split <;> omega
theorem sx_wrap {w : Int} (d : Int) (h : isW w = true) : sx d w = IntKind.u64.wrap (sg d w) := by
  have h1 := sg_bd d h
  unfold sx sg at *
  rw [neg_ge d h] at *
  have h2 := zx_lt d w
  generalize zx d w = z at *
  rw [IntKind.wrap_u64]
  rcases isW_cases h with rfl | rfl | rfl | rfl <;> simp [nb] at * <;> split <;> rename_i g <;> simp [g] at * <;> omega
theorem qOk_range {w : Int} (q : Int) (m : Bool) (h : isQ w = true) (hq : 0 ≤ q) (ho : qOk q m w = true) : -(2 ^ (nb w - 1)) ≤ qS q m ∧ qS q m < 2 ^ (nb w - 1) := by
  unfold qOk zx at ho
  unfold qS
  rcases isQ_cases h with rfl | rfl | rfl <;> cases m <;> simp [nb] at * <;> omega
theorem wrap_mul (a b : Int) : IntKind.u64.wrap (IntKind.u64.wrap a * IntKind.u64.wrap b) = IntKind.u64.wrap (a * b) := by
  rw [IntKind.wrap_u64, IntKind.wrap_u64, IntKind.wrap_u64, IntKind.wrap_u64, ← Int.mul_emod]
theorem wrap_add (a b : Int) : IntKind.u64.wrap (IntKind.u64.wrap a + IntKind.u64.wrap b) = IntKind.u64.wrap (a + b) := by
  rw [IntKind.wrap_u64, IntKind.wrap_u64, IntKind.wrap_u64, IntKind.wrap_u64, ← Int.add_emod]
/-- the quotient times the divisor, and the rest, is the number again -/
theorem quo_back {w : Int} (N d : Int) (h : isQ w = true) (hd : zx d w ≠ 0) (ho : qOk (qA (zx N (2 * w)) (neg N (2 * w)) (nb (2 * w)) / qA (zx d w) (neg d w) (nb w)) (neg N (2 * w) != neg d w) w = true) :
    zx (IntKind.u64.wrap (IntKind.u64.wrap (sx (zx ((sg N (2 * w)).tdiv (sg d w)) w) w * sx d w) + sx (zx ((sg N (2 * w)).tmod (sg d w)) w) w)) (2 * w) = zx N (2 * w) := by
  have hA := qA_bd N (isQ_isW2 h)
  have hE := qA_bd d (isQ_isW h)
  have hq : 0 ≤ qA (zx N (2 * w)) (neg N (2 * w)) (nb (2 * w)) / qA (zx d w) (neg d w) (nb w) := Int.ediv_nonneg hA.1 hE.1
  have hE0 := hE.2.2 hd
  have t1 : (sg N (2 * w)).tdiv (sg d w) = qS (qA (zx N (2 * w)) (neg N (2 * w)) (nb (2 * w)) / qA (zx d w) (neg d w) (nb w)) (neg N (2 * w) != neg d w) := by
    rw [sg_size, sg_size]; exact tdiv_sign _ _ _ _ hA.1
  have t2 : (sg N (2 * w)).tmod (sg d w) = qS (qA (zx N (2 * w)) (neg N (2 * w)) (nb (2 * w)) % qA (zx d w) (neg d w) (nb w)) (neg N (2 * w)) := by
    rw [sg_size, sg_size]; exact tmod_sign _ _ _ _ hA.1
  have r1 := qOk_range _ _ h hq ho
  have r2 : -(2 ^ (nb w - 1)) ≤ (sg N (2 * w)).tmod (sg d w) ∧ (sg N (2 * w)).tmod (sg d w) < 2 ^ (nb w - 1) := by
    rw [t2]
    have m1 := Int.emod_nonneg (qA (zx N (2 * w)) (neg N (2 * w)) (nb (2 * w))) (b := qA (zx d w) (neg d w) (nb w)) (by omega)
    have m2 := Int.emod_lt_of_pos (qA (zx N (2 * w)) (neg N (2 * w)) (nb (2 * w))) hE0
    have m3 := hE.2.1
    unfold qS
    split <;> omega
  rw [← t1] at r1
  rw [sx_range _ h r1, sx_range _ h r2, sx_wrap d (isQ_isW h), wrap_mul, wrap_add, zx_wrap]
  have e : (sg N (2 * w)).tdiv (sg d w) * sg d w + (sg N (2 * w)).tmod (sg d w) = sg N (2 * w) := by
    rw [Int.mul_comm]; exact Int.mul_tdiv_add_tmod _ _
  rw [e, zx_sg]
theorem zx_i64 (x w : Int) : zx (IntKind.u64.wrap (IntKind.i64.wrap x)) w = zx x w := by
  rw [zx_wrap, IntKind.wrap_i64]
  unfold zx
  obtain ⟨k, hk⟩ := pow_dvd64 (nb w) (nb_le w)
  have e : (x + 9223372036854775808) % 18446744073709551616 - 9223372036854775808 = x + 2 ^ nb w * (k * (-((x + 9223372036854775808) / 18446744073709551616))) := by
    rw [← Int.mul_assoc, ← hk]; omega
  rw [e, Int.add_mul_emod_self_left]
theorem i64_wrap (x : Int) : I64 (IntKind.i64.wrap x) := by rw [IntKind.wrap_i64]; unfold I64; omega
end Cq
