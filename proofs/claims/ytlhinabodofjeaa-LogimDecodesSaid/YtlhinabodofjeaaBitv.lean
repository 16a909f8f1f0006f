/- Plain mathematics of layer 1: whether a number has so many bits; how often 2 is doubled; which bits any of several words has. -/
import Derived.Test.YtlhinabodofjeaaBitt
namespace Cq
open Go

/-- a signed number of n bits -/
def fits (v n : Int) : Bool := decide (1 ≤ n ∧ n ≤ 64) && decide (v / 2 ^ (n - 1).toNat = v / 9223372036854775808)
theorem top_is {v : Int} (h : I64 v) : v / 9223372036854775808 = 0 ∧ 0 ≤ v ∨ v / 9223372036854775808 = -1 ∧ v < 0 := by
  unfold I64 at h; omega
theorem fits_code {v : Int} (h : I64 v) (k : Nat) : (v / 2 ^ k == 0 || v / 2 ^ k == -1) = decide (v / 2 ^ k = v / 9223372036854775808) := by
  have p : (0 : Int) < 2 ^ k := Int.pow_pos (by decide)
  rcases top_is h with ⟨e, g⟩ | ⟨e, g⟩
  · have := Int.ediv_nonneg g (Int.le_of_lt p)
    rw [e, Bool.eq_iff_iff]; simp; omega
  · have := Int.ediv_neg_of_neg_of_pos g p
    rw [e, Bool.eq_iff_iff]; simp; omega
theorem half_step (v : Int) (i : Nat) : v / 2 ^ i = 2 * (v / 2 ^ (i + 1)) + v / 2 ^ i % 2 := by
  have h1 : v / 2 ^ (i + 1) = v / 2 ^ i / 2 := by
    rw [Int.pow_succ, Int.ediv_ediv_of_nonneg (Int.le_of_lt (Int.pow_pos (by decide)))]
  rw [h1]; omega
theorem bit_wrap (v : Int) (i : Nat) (hi : i < 64) : bit (IntKind.u64.wrap v) (i : Int) = v / 2 ^ i % 2 := by
  unfold bit
  rw [IntKind.wrap_u64, Int.toNat_natCast]
  have e : (18446744073709551616 : Int) = 2 ^ i * (2 ^ (63 - i) * 2) := by
    rw [← Int.pow_succ, ← Int.pow_add, show i + (63 - i + 1) = 64 from by omega]; decide
  have p : (0 : Int) < 2 ^ i := Int.pow_pos (by decide)
  have hv : v = v % 18446744073709551616 + 2 ^ i * (2 ^ (63 - i) * 2 * (v / 18446744073709551616)) := by
    have := Int.emod_add_mul_ediv v 18446744073709551616
    have e2 : 2 ^ i * (2 ^ (63 - i) * 2 * (v / 18446744073709551616)) = 18446744073709551616 * (v / 18446744073709551616) := by
      rw [← Int.mul_assoc, ← e]
    rw [e2]; exact this.symm
  have hd : v / 2 ^ i = v % 18446744073709551616 / 2 ^ i + 2 ^ (63 - i) * 2 * (v / 18446744073709551616) := by
    conv => lhs; rw [hv]
    rw [Int.add_mul_ediv_left _ _ (by omega)]
  rw [hd]
  have e3 : 2 ^ (63 - i) * 2 * (v / 18446744073709551616) = 2 * (2 ^ (63 - i) * (v / 18446744073709551616)) := by
    rw [Int.mul_comm (2 ^ (63 - i)) 2, Int.mul_assoc]
  rw [e3]; omega
theorem fits_same {v : Int} (h : I64 v) (i : Nat) (hb : v / 2 ^ i % 2 = v / 2 ^ 63 % 2) :
    decide (v / 2 ^ i = v / 9223372036854775808) = decide (v / 2 ^ (i + 1) = v / 9223372036854775808) := by
  have e : (2 : Int) ^ 63 = 9223372036854775808 := by decide
  rw [e] at hb
  have hs := half_step v i
  generalize v / 2 ^ i = x at *
  generalize v / 2 ^ (i + 1) = y at *
  have ht := top_is h
  generalize v / 9223372036854775808 = s at *
  rw [decide_eq_decide]
  omega
theorem fits_other {v : Int} (i : Nat) (hb : v / 2 ^ i % 2 ≠ v / 2 ^ 63 % 2) : decide (v / 2 ^ i = v / 9223372036854775808) = false := by
  have e : (2 : Int) ^ 63 = 9223372036854775808 := by decide
  rw [e] at hb
  apply decide_eq_false
  intro g; rw [g] at hb; exact hb rfl
theorem fits_end {v : Int} (h : I64 v) : decide (v / 2 ^ 64 = v / 9223372036854775808) = true := by
  apply decide_eq_true
  unfold I64 at h; omega
/-- an unsigned number of n bits -/
def fitsU (v n : Int) : Bool := decide (1 ≤ n ∧ n ≤ 64) && decide (v / 2 ^ n.toNat = 0)
theorem fitsU_same {v : Int} (i : Nat) (hb : v / 2 ^ i % 2 = 0) : decide (v / 2 ^ i = 0) = decide (v / 2 ^ (i + 1) = 0) := by
  have hs := half_step v i
  rw [decide_eq_decide]; omega
theorem fitsU_other {v : Int} (i : Nat) (hb : v / 2 ^ i % 2 = 1) : decide (v / 2 ^ i = 0) = false := by
  apply decide_eq_false; omega
theorem fitsU_end {v : Int} (h : U64 v) : v / 2 ^ 64 = 0 := by
  unfold U64 at h; omega
/-- how often 2 is doubled: from k on, with that many rounds left -/
def logF (n : Int) : Nat → Nat → Nat
  | 0, k => k
  | r + 1, k => if (2 : Int) ^ k < n then logF n r (k + 1) else k
theorem logF_yes {n : Int} (k : Nat) (hk : k < 63) (h : (2 : Int) ^ k < n) : logF n (63 - k) k = logF n (63 - (k + 1)) (k + 1) := by
  obtain ⟨r, hr⟩ : ∃ r, 63 - k = r + 1 := ⟨62 - k, by omega⟩
  rw [hr, logF, if_pos h]; congr 1; omega
theorem logF_no {n : Int} (k : Nat) (h : ¬ (2 : Int) ^ k < n) : logF n (63 - k) k = k := by
  cases 63 - k with
  | zero => rfl
  | succ r => rw [logF, if_neg h]
theorem log_test {n : Int} (h : 1 < n) (k : Nat) : (n - 1) / 2 ^ k = 0 ↔ ¬ (2 : Int) ^ k < n := by
  have p : (0 : Int) < 2 ^ k := Int.pow_pos (by decide)
  constructor
  · intro e g
    have := Int.le_ediv_of_mul_le p (a := 1) (b := n - 1) (by omega)
    omega
  · intro g
    exact Int.ediv_eq_zero_of_lt (by omega) (by omega)
/-- which bits any of the first k words has -/
def orTo (z : List Int) : Nat → Int
  | 0 => 0
  | k + 1 => bits .or .u64 (orTo z k) (z.getD k 0)
def inTo (z : List Int) (i : Nat) : Nat → Int
  | 0 => 0
  | k + 1 => bits .or .u64 (inTo z i k) (bit (z.getD k 0) i)
theorem orTo_u64 (z : List Int) (k : Nat) : U64 (orTo z k) := by
  cases k with
  | zero => simp [orTo, U64]
  | succ k => exact bits_u64 _ _ _
theorem or_oneI (c d : Bool) : bits .or .u64 (oneI c) (oneI d) = oneI (c || d) := by cases c <;> cases d <;> decide
theorem bit_or {x y : Int} (hx : U64 x) (hy : U64 y) (i : Nat) (hi : i < 64) : bit (bits .or .u64 x y) (i : Int) = bits .or .u64 (bit x (i : Int)) (bit y (i : Int)) := by
  have e1 : bit (bits .or .u64 x y) (i : Int) = oneI ((B (bits .or .u64 x y)).getLsbD i) := bit_B _ (bits_u64 _ _ _).1 i hi
  have e2 : bit x (i : Int) = oneI ((B x).getLsbD i) := bit_B _ hx.1 i hi
  have e3 : bit y (i : Int) = oneI ((B y).getLsbD i) := bit_B _ hy.1 i hi
  rw [e1, e2, e3, or_oneI, B_or, BitVec.getLsbD_or]
theorem getD_u64 {z : List Int} (hz : ∀ n ∈ z, U64 n) (k : Nat) : U64 (z.getD k 0) := by
  rw [List.getD_eq_getElem?_getD]
  by_cases h : k < z.length
  · rw [List.getElem?_eq_getElem h]; exact hz _ (List.getElem_mem h)
  · rw [List.getElem?_eq_none (by omega)]; simp [U64]
theorem bit_orTo (z : List Int) (hz : ∀ n ∈ z, U64 n) (i : Nat) (hi : i < 64) (k : Nat) : bit (orTo z k) (i : Int) = inTo z i k := by
  induction k with
  | zero => simp [orTo, inTo, bit]
  | succ k ih =>
    have hg := getD_u64 hz k
    rw [orTo, inTo, bit_or (orTo_u64 z k) hg i hi, ih]
end Cq
