/- Plain mathematics of layer 1: words of 64 bits as integers; what the widths, sums, differences, fields, turns and products of the document come to. No program is named here. -/
import Derived.WalkKit
import Derived.Laws.BitsAllLaws
namespace Cq
open Go
/-- a word of 64 bits -/
def U64 (v : Int) : Prop := 0 ≤ v ∧ v < 18446744073709551616
/-- a number of Go's int -/
def I64 (v : Int) : Prop := -9223372036854775808 ≤ v ∧ v ≤ 9223372036854775807
def U32 (v : Int) : Prop := 0 ≤ v ∧ v < 4294967296
def isW (w : Int) : Bool := w == 1 || w == 2 || w == 4 || w == 8
/-- the bits of a width; 0 for what is none -/
def nb (w : Int) : Nat := if w = 1 then 8 else if w = 2 then 16 else if w = 4 then 32 else if w = 8 then 64 else 0
/-- the word as 64 bits -/
def B (v : Int) : BitVec 64 := BitVec.ofInt 64 v
theorem u64_wrap (n : Int) : U64 (IntKind.u64.wrap n) := by
  rw [IntKind.wrap_u64]; unfold U64; omega
theorem wrap_of_u64 {n : Int} (h : U64 n) : IntKind.u64.wrap n = n := by
  rw [IntKind.wrap_u64]; unfold U64 at h; omega
theorem bits_u64 (op : BinOp) (x y : Int) : U64 (bits op .u64 x y) := u64_wrap _
/-- its highest bit -/
def neg (v w : Int) : Bool := isW w && (B v).getLsbD (nb w - 1)
def oneI (c : Bool) : Int := if c then 1 else 0
end Cq
/- Plain mathematics of layer 1: sums and differences with carries. -/
namespace Cq
open Go
theorem bit_nat (n k : Nat) : ((n : Int) / 2 ^ k % 2) = oneI (n.testBit k) := by
  have h : ((n / 2 ^ k % 2 : Nat) : Int) = (n : Int) / 2 ^ k % 2 := by
    simp only [Int.natCast_emod, Int.natCast_ediv, Int.natCast_pow]; rfl
  rw [← h, Nat.testBit_eq_decide_div_mod_eq]
  unfold oneI
  by_cases g : n / 2 ^ k % 2 = 1
  · rw [g]; rfl
  · have : n / 2 ^ k % 2 = 0 := by omega
    rw [this]; rfl
/-- bit number i of a word -/
def bit (v i : Int) : Int := v / 2 ^ i.toNat % 2
theorem and_one (x : Int) (h : U64 x) : bits .and .u64 x 1 = x % 2 := by
  unfold U64 at h
  rw [u64_and x 1 h.1 h.2 (by decide) (by decide)]
  show ((x.toNat &&& 1 : Nat) : Int) = _
  rw [nat_mask1]; omega
theorem bit_tmod {v : Int} (h : U64 v) (k : Nat) : (v / 2 ^ k).tmod 2 = bit v (k : Int) :=
  Int.tmod_eq_emod_of_nonneg (Int.ediv_nonneg h.1 (Int.le_of_lt (Int.pow_pos (by decide))))
theorem bit_01 (v i : Int) : 0 ≤ bit v i ∧ bit v i ≤ 1 := by unfold bit; omega
def sumV (a b : Int) (c : Bool) (w : Int) : Int := (a + b + oneI c) % 2 ^ nb w
end Cq
/- Plain mathematics of layer 1: turning a number of n bits. -/
namespace Cq
open Go
theorem tmod_neg {k n : Int} (hn : 0 < n) (h : k.tmod n < 0) : k.tmod n = k % n - n := by
  rw [Int.tmod_eq_emod] at h ⊢
  have h0 := Int.emod_nonneg k (b := n) (by omega)
  split at h <;> rename_i g
  · omega
  · rw [if_neg g]; omega
end Cq
/- Plain mathematics of layer 1: how many bits are 1. -/
namespace Cq
open Go
/-- how many of the lowest bits are 1 -/
def popTo (v : Nat) : Nat → Nat
  | 0 => 0
  | i + 1 => popTo v i + v / 2 ^ i % 2
theorem popTo_front (v i : Nat) : popTo v (i + 1) = v % 2 + popTo (v / 2) i := by
  induction i with
  | zero => simp [popTo]
  | succ i ih =>
    rw [popTo, ih, popTo, Nat.div_div_eq_div_mul, Nat.pow_succ, Nat.mul_comm 2]
    omega
theorem popTo_le (v i : Nat) : popTo v i ≤ i := by
  induction i with
  | zero => simp [popTo]
  | succ i ih => rw [popTo]; omega
theorem popTo_zero (i : Nat) : popTo 0 i = 0 := by
  induction i with
  | zero => rfl
  | succ i ih => rw [popTo, ih]; simp
theorem popTo_less (k : Nat) : ∀ v, 0 < v → v < 2 ^ k → popTo (v &&& (v - 1)) k + 1 = popTo v k := by
  induction k with
  | zero => intro v h0 h1; simp at h1; omega
  | succ k ih =>
    intro v h0 h1
    rw [popTo_front, popTo_front, Nat.and_div_two]
    have hm : (v &&& (v - 1)) % 2 = v % 2 &&& (v - 1) % 2 := by
      have := @Nat.and_mod_two_pow v (v - 1) 1; simpa using this
    rw [hm]
    by_cases ho : v % 2 = 1
    · have e1 : (v - 1) % 2 = 0 := by omega
      have e2 : (v - 1) / 2 = v / 2 := by omega
      rw [ho, e1, e2, Nat.and_self]; simp; omega
    · have e0 : v % 2 = 0 := by omega
      have e2 : (v - 1) / 2 = v / 2 - 1 := by omega
      have := ih (v / 2) (by omega) (by rw [Nat.pow_succ] at h1; omega)
      rw [e0, e2]; simp; omega
def ones (v : Int) : Nat := popTo v.toNat 64
theorem ones_le (v : Int) : ones v ≤ 64 := popTo_le _ _
theorem ones_zero : ones 0 = 0 := popTo_zero _
theorem ones_less {v : Int} (h : U64 v) (h0 : 0 < v) : ones (bits .and .u64 v (v - 1)) + 1 = ones v := by
  unfold U64 at h
  rw [u64_and v (v - 1) h.1 h.2 (by omega) (by omega)]
  unfold ones
  have e : (v - 1).toNat = v.toNat - 1 := by omega
  rw [e, Int.toNat_natCast]
  exact popTo_less 64 _ (by omega) (by have : (2 : Nat) ^ 64 = 18446744073709551616 := by decide
                                       omega)
theorem ones_less' {v : Int} (h : U64 v) (h0 : 0 < v) : ones (bits .and .u64 v (IntKind.u64.wrap (v - 1))) + 1 = ones v := by
  rw [wrap_of_u64 (n := v - 1) ⟨by omega, by have := h.2; omega⟩]; exact ones_less h h0
theorem popTo_round {v : Int} (h : U64 v) (i : Nat) : (popTo v.toNat i : Int) + bit v i = (popTo v.toNat (i + 1) : Int) := by
  rw [popTo, Int.natCast_add, Int.natCast_emod, Int.natCast_ediv, Int.natCast_pow]
  have : ((v.toNat : Nat) : Int) = v := by have := h.1; omega
  rw [this]; rfl
end Cq
/- Plain mathematics of layer 1: fields of a word of 32 bits. -/
namespace Cq
open Go
def inF (a n : Int) : Bool := decide (0 ≤ a ∧ a ≤ 31 ∧ 1 ≤ n ∧ n ≤ 32 - a)
theorem inF_is {a n : Int} (h : inF a n = true) : 0 ≤ a ∧ a ≤ 31 ∧ 1 ≤ n ∧ n ≤ 32 - a := of_decide_eq_true h
theorem inF_not {a n : Int} (h : inF a n = false) : a < 0 ∨ 31 < a ∨ n < 1 ∨ 32 - a < n := by
  have := of_decide_eq_false h; omega
def fieldN (v a n : Nat) : Nat := v / 2 ^ a % 2 ^ n
def withN (v a n f : Nat) : Nat := 2 ^ a * (2 ^ n * (v / 2 ^ (a + n)) + f % 2 ^ n) + v % 2 ^ a
theorem withN_bit (v a n f i : Nat) : (withN v a n f).testBit i = if i < a then v.testBit i else if i - a < n then f.testBit (i - a) else v.testBit i := by
  unfold withN
  rw [Nat.testBit_two_pow_mul_add _ (Nat.mod_lt _ (Nat.two_pow_pos _))]
  by_cases h : i < a
  · rw [if_pos h, if_pos h, Nat.testBit_mod_two_pow]; simp [h]
  · rw [if_neg h, if_neg h, Nat.testBit_two_pow_mul_add _ (Nat.mod_lt _ (Nat.two_pow_pos _))]
    by_cases g : i - a < n
    · rw [if_pos g, if_pos g, Nat.testBit_mod_two_pow]; simp [g]
    · rw [if_neg g, if_neg g, Nat.testBit_div_two_pow]; congr 1; omega
theorem lt32_bit {v : Nat} (h : v < 4294967296) (i : Nat) (hi : 32 ≤ i) : v.testBit i = false := by
  apply Nat.testBit_lt_two_pow
  have := Nat.pow_le_pow_right (n := 2) (by decide) hi
  have e : (2 : Nat) ^ 32 = 4294967296 := by decide
  omega
theorem ones_pow {n a : Nat} (h : a + n ≤ 32) : (2 ^ n - 1) * 2 ^ a < 4294967296 := by
  have h1 : 2 ^ n * 2 ^ a ≤ 2 ^ 32 := by rw [← Nat.pow_add]; exact Nat.pow_le_pow_right (by decide) (by omega)
  have e : (2 : Nat) ^ 32 = 4294967296 := by decide
  have h2 : (2 ^ n - 1) * 2 ^ a < 2 ^ n * 2 ^ a := Nat.mul_lt_mul_of_pos_right (by have := Nat.two_pow_pos n; omega) (Nat.two_pow_pos _)
  omega
theorem code_withN {v a n f : Nat} (hv : v < 4294967296) (h : a + n ≤ 32) :
    (v &&& (4294967295 - (2 ^ n - 1) * 2 ^ a)) ||| ((f &&& (2 ^ n - 1)) * 2 ^ a) = withN v a n f := by
  have ho := ones_pow h
  apply Nat.eq_of_testBit_eq; intro i
  rw [withN_bit, Nat.testBit_or, Nat.testBit_and, Nat.testBit_mul_two_pow, Nat.testBit_and, Nat.testBit_two_pow_sub_one]
  have e : 4294967295 - (2 ^ n - 1) * 2 ^ a = 2 ^ 32 - ((2 ^ n - 1) * 2 ^ a + 1) := by
    have e : (2 : Nat) ^ 32 = 4294967296 := by decide
    omega
  rw [e, Nat.testBit_two_pow_sub_succ (by have e : (2 : Nat) ^ 32 = 4294967296 := by decide
                                          omega), Nat.testBit_mul_two_pow, Nat.testBit_two_pow_sub_one]
  by_cases hi : i < 32
  · by_cases h1 : i < a
    · have : ¬ a ≤ i := by omega
      simp [h1, hi, this]
    · have : a ≤ i := by omega
      by_cases h2 : i - a < n
      · simp [h1, hi, this, h2]
      · simp [h1, hi, this, h2]
  · rw [lt32_bit hv i (by omega)]
    have h2 : ¬ i - a < n := by omega
    simp [h2]
def field (v a n : Int) : Int := if inF a n then (fieldN v.toNat a.toNat n.toNat : Int) else 0
def withF (v a n f : Int) : Int := if inF a n then (withN v.toNat a.toNat n.toNat f.toNat : Int) else v
def onesF (a n : Int) : Int := if inF a n then 2 ^ n.toNat - 1 else 0
theorem wrap32u (n : Int) : IntKind.u32.wrap n = n % 4294967296 := IntKind.wrap_u32' n
theorem pow32 (n : Nat) (h : n ≤ 32) : (0 : Int) < 2 ^ n ∧ (2 : Int) ^ n ≤ 4294967296 := by
  refine ⟨Int.pow_pos (by decide), ?_⟩
  have := Nat.pow_le_pow_right (n := 2) (by decide) h
  have e : ((2 ^ n : Nat) : Int) = (2 : Int) ^ n := by simp
  have e2 : (2 : Nat) ^ 32 = 4294967296 := by decide
  omega
theorem ones_shift (k : Nat) (h : k ≤ 32) : (4294967295 : Int) / 2 ^ (32 - k) = 2 ^ k - 1 := by
  have ⟨p, q⟩ := pow32 k h
  have ⟨p', _⟩ := pow32 (32 - k) (by omega)
  have e : (2 : Int) ^ k * 2 ^ (32 - k) = 4294967296 := by rw [← Int.pow_add, show k + (32 - k) = 32 from by omega]; decide
  have e2 : (4294967295 : Int) = (2 ^ (32 - k) - 1) + (2 ^ k - 1) * 2 ^ (32 - k) := by rw [Int.sub_mul, e]; omega
  rw [e2, Int.add_mul_ediv_right _ _ (by omega), Int.ediv_eq_zero_of_lt (by omega) (by omega)]; omega
theorem pow_sub_nat (k : Nat) : ((2 : Int) ^ k - 1) = ((2 ^ k - 1 : Nat) : Int) := by
  rw [Int.ofNat_sub Nat.one_le_two_pow, Int.natCast_pow]; rfl
theorem code_field {v : Int} (h : U32 v) (a n : Nat) (hn : n ≤ 32) : bits .and .u32 (v / 2 ^ a) (2 ^ n - 1) = (fieldN v.toNat a n : Int) := by
  unfold U32 at h
  have e : v / 2 ^ a = ((v.toNat / 2 ^ a : Nat) : Int) := by
    rw [Int.natCast_ediv, Int.natCast_pow, show ((v.toNat : Nat) : Int) = v from by omega]; rfl
  have ⟨p, q⟩ := pow32 n hn
  rw [e, pow_sub_nat, u32_and_nat _ _ (Nat.lt_of_le_of_lt (Nat.div_le_self _ _) (by omega)) (by have := pow_sub_nat n; omega), Nat.and_two_pow_sub_one_eq_mod]
  rfl
theorem and_zero32 (v : Int) : bits .and .u32 v 0 = 0 := by
  show IntKind.u32.wrap ((BitVec.ofInt 32 v &&& BitVec.ofInt 32 0).toNat : Int) = 0
  rw [show BitVec.ofInt 32 0 = 0#32 from by decide, BitVec.and_zero]; rfl
theorem andNot_zero32 {v : Int} (h : U32 v) : bits .andNot .u32 v 0 = v := by
  unfold U32 at h
  have := u32_andNot v 0 h.1 h.2 (by decide) (by decide)
  rw [this]
  have e : v.toNat &&& (4294967295 - (0 : Int).toNat) = v.toNat % 2 ^ 32 := Nat.and_two_pow_sub_one_eq_mod v.toNat 32
  rw [e]; omega
theorem or_zero32 {v : Int} (h : U32 v) : bits .or .u32 v 0 = v := by
  unfold U32 at h
  rw [u32_or v 0 h.1 h.2 (by decide) (by decide)]
  simp; omega
theorem code_with {v f : Int} (hv : U32 v) (hf : U32 f) (a n : Nat) (h : a + n ≤ 32) :
    bits .or .u32 (bits .andNot .u32 v (IntKind.u32.wrap ((2 ^ n - 1) * 2 ^ a))) (IntKind.u32.wrap (bits .and .u32 f (2 ^ n - 1) * 2 ^ a)) = (withN v.toNat a n f.toNat : Int) := by
  unfold U32 at hv hf
  have ho := ones_pow h
  have ⟨p, q⟩ := pow32 n (by omega)
  have e1 : IntKind.u32.wrap ((2 ^ n - 1) * 2 ^ a) = (((2 ^ n - 1) * 2 ^ a : Nat) : Int) := by
    rw [wrap32u, pow_sub_nat]
    have : ((2 ^ n - 1 : Nat) : Int) * 2 ^ a = (((2 ^ n - 1) * 2 ^ a : Nat) : Int) := by rw [Int.natCast_mul, Int.natCast_pow]; rfl
    rw [this]; omega
  have e2 : bits .and .u32 f (2 ^ n - 1) = ((f.toNat &&& (2 ^ n - 1) : Nat) : Int) := by
    rw [pow_sub_nat, u32_and _ _ hf.1 hf.2 (by omega) (by have := pow_sub_nat n; omega)]; rfl
  have hle : (f.toNat &&& (2 ^ n - 1)) * 2 ^ a ≤ (2 ^ n - 1) * 2 ^ a := Nat.mul_le_mul_right _ Nat.and_le_right
  have e3 : IntKind.u32.wrap (((f.toNat &&& (2 ^ n - 1) : Nat) : Int) * 2 ^ a) = (((f.toNat &&& (2 ^ n - 1)) * 2 ^ a : Nat) : Int) := by
    rw [wrap32u]
    have : ((f.toNat &&& (2 ^ n - 1) : Nat) : Int) * 2 ^ a = (((f.toNat &&& (2 ^ n - 1)) * 2 ^ a : Nat) : Int) := by rw [Int.natCast_mul, Int.natCast_pow]; rfl
    rw [this]; omega
  have e4 : bits .andNot .u32 v (((2 ^ n - 1) * 2 ^ a : Nat) : Int) = ((v.toNat &&& (4294967295 - (2 ^ n - 1) * 2 ^ a) : Nat) : Int) := by
    rw [u32_andNot _ _ hv.1 hv.2 (by omega) (by omega)]; rfl
  rw [e1, e2, e3, e4, u32_or_nat _ _ (Nat.lt_of_le_of_lt Nat.and_le_left (by omega)) (by omega), code_withN (by omega) h]
end Cq
/- Plain mathematics of layer 1: whether a number has so many bits; how often 2 is doubled; which bits any of several words has. -/
namespace Cq
open Go
/-- a signed number of n bits -/
def fits (v n : Int) : Bool := decide (1 ≤ n ∧ n ≤ 64) && decide (v / 2 ^ (n - 1).toNat = v / 9223372036854775808)
theorem top_is {v : Int} (h : I64 v) : v / 9223372036854775808 = 0 ∧ 0 ≤ v ∨ v / 9223372036854775808 = -1 ∧ v < 0 := by
  unfold I64 at h; omega
theorem fits_code {v : Int} (h : I64 v) (k : Nat) : (v / 2 ^ k == 0 || v / 2 ^ k == -1) = decide (v / 2 ^ k = v / 9223372036854775808) := by
  have p : (0 : Int) < 2 ^ k := Int.pow_pos (by decide)
  rcases top_is h with ⟨e, g⟩ | ⟨e, g⟩
  · have := Int.ediv_nonneg g (Int.le_of_lt p)
    rw [e, Bool.eq_iff_iff]; simp; omega
  · have := Int.ediv_neg_of_neg_of_pos g p
    rw [e, Bool.eq_iff_iff]; simp; omega
/-- an unsigned number of n bits -/
def fitsU (v n : Int) : Bool := decide (1 ≤ n ∧ n ≤ 64) && decide (v / 2 ^ n.toNat = 0)
end Cq
