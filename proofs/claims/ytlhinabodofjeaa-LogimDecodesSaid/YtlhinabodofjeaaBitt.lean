/- Plain mathematics of layer 1: fields of a word of 32 bits. -/
import Derived.Test.YtlhinabodofjeaaBitp
namespace Cq
open Go

def inF (a n : Int) : Bool := decide (0 ≤ a ∧ a ≤ 31 ∧ 1 ≤ n ∧ n ≤ 32 - a)
theorem inF_is {a n : Int} (h : inF a n = true) : 0 ≤ a ∧ a ≤ 31 ∧ 1 ≤ n ∧ n ≤ 32 - a := of_decide_eq_true h
theorem inF_not {a n : Int} (h : inF a n = false) : a < 0 ∨ 31 < a ∨ n < 1 ∨ 32 - a < n := by
  have := of_decide_eq_false h; omega
def fieldN (v a n : Nat) : Nat := v / 2 ^ a % 2 ^ n
def withN (v a n f : Nat) : Nat := 2 ^ a * (2 ^ n * (v / 2 ^ (a + n)) + f % 2 ^ n) + v % 2 ^ a
theorem withN_bit (v a n f i : Nat) : (withN v a n f).testBit i = if i < a then v.testBit i else if i - a < n then f.testBit (i - a) else v.testBit i := by
  unfold withN
  rw [Nat.testBit_two_pow_mul_add _ (Nat.mod_lt _ (Nat.two_pow_pos _))]
  by_cases h : i < a
  · rw [if_pos h, if_pos h, Nat.testBit_mod_two_pow]; simp [h]
  · rw [if_neg h, if_neg h, Nat.testBit_two_pow_mul_add _ (Nat.mod_lt _ (Nat.two_pow_pos _))]
    by_cases g : i - a < n
    · rw [if_pos g, if_pos g, Nat.testBit_mod_two_pow]; simp [g]
    · rw [if_neg g, if_neg g, Nat.testBit_div_two_pow]; congr 1; omega
theorem fieldN_bit (v a n i : Nat) : (fieldN v a n).testBit i = (decide (i < n) && v.testBit (i + a)) := by
  unfold fieldN; rw [Nat.testBit_mod_two_pow, Nat.testBit_div_two_pow]
theorem lt32_bit {v : Nat} (h : v < 4294967296) (i : Nat) (hi : 32 ≤ i) : v.testBit i = false := by
  apply Nat.testBit_lt_two_pow
  have := Nat.pow_le_pow_right (n := 2) (by decide) hi
  have e : (2 : Nat) ^ 32 = 4294967296 := by decide
  omega
theorem lt32_of {v : Nat} (h : ∀ i, 32 ≤ i → v.testBit i = false) : v < 4294967296 := by
  have e : (2 : Nat) ^ 32 = 4294967296 := by decide
  rw [← e]; exact Nat.lt_pow_two_of_testBit v h
theorem withN_lt {v a n f : Nat} (hv : v < 4294967296) (h : a + n ≤ 32) : withN v a n f < 4294967296 := by
  apply lt32_of
  intro i hi
  rw [withN_bit]
  have hb := lt32_bit hv i hi
  repeat' split
  all_goals first | exact hb | omega
theorem fieldN_lt {v a n : Nat} (hv : v < 4294967296) : fieldN v a n < 4294967296 := by
  unfold fieldN
  exact Nat.lt_of_le_of_lt (Nat.mod_le _ _) (Nat.lt_of_le_of_lt (Nat.div_le_self _ _) hv)
theorem withN_back (v a n f : Nat) : withN (withN v a n f) a n (fieldN v a n) = v := by
  apply Nat.eq_of_testBit_eq; intro i
  rw [withN_bit, fieldN_bit, withN_bit]
  repeat' split
  · rfl
  · rename_i h g; simp only [g, decide_true, Bool.true_and]; congr 1; omega
  · rfl
theorem ones_pow {n a : Nat} (h : a + n ≤ 32) : (2 ^ n - 1) * 2 ^ a < 4294967296 := by
  have h1 : 2 ^ n * 2 ^ a ≤ 2 ^ 32 := by rw [← Nat.pow_add]; exact Nat.pow_le_pow_right (by decide) (by omega)
  have e : (2 : Nat) ^ 32 = 4294967296 := by decide
  have h2 : (2 ^ n - 1) * 2 ^ a < 2 ^ n * 2 ^ a := Nat.mul_lt_mul_of_pos_right (by have := Nat.two_pow_pos n; omega) (Nat.two_pow_pos _)
  omega
theorem code_withN {v a n f : Nat} (hv : v < 4294967296) (h : a + n ≤ 32) :
    (v &&& (4294967295 - (2 ^ n - 1) * 2 ^ a)) ||| ((f &&& (2 ^ n - 1)) * 2 ^ a) = withN v a n f := by
  have ho := ones_pow h
  apply Nat.eq_of_testBit_eq; intro i
  rw [withN_bit, Nat.testBit_or, Nat.testBit_and, Nat.testBit_mul_two_pow, Nat.testBit_and, Nat.testBit_two_pow_sub_one]
  have e : 4294967295 - (2 ^ n - 1) * 2 ^ a = 2 ^ 32 - ((2 ^ n - 1) * 2 ^ a + 1) := by
    have e : (2 : Nat) ^ 32 = 4294967296 := by decide
    omega
  rw [e, Nat.testBit_two_pow_sub_succ (by have e : (2 : Nat) ^ 32 = 4294967296 := by decide
                                          omega), Nat.testBit_mul_two_pow, Nat.testBit_two_pow_sub_one]
  by_cases hi : i < 32
  · by_cases h1 : i < a
    · have : ¬ a ≤ i := by omega
      simp [h1, hi, this]
    · have : a ≤ i := by omega
      by_cases h2 : i - a < n
      · simp [h1, hi, this, h2]
      · simp [h1, hi, this, h2]
  · rw [lt32_bit hv i (by omega)]
    have h2 : ¬ i - a < n := by omega
    simp [h2]
def field (v a n : Int) : Int := if inF a n then (fieldN v.toNat a.toNat n.toNat : Int) else 0
def withF (v a n f : Int) : Int := if inF a n then (withN v.toNat a.toNat n.toNat f.toNat : Int) else v
def onesF (a n : Int) : Int := if inF a n then 2 ^ n.toNat - 1 else 0
theorem field_u32 {v : Int} (h : U32 v) (a n : Int) : U32 (field v a n) := by
  unfold field; unfold U32 at *
  split
  · have := fieldN_lt (v := v.toNat) (a := a.toNat) (n := n.toNat) (by omega); omega
  · omega
theorem withF_u32 {v : Int} (h : U32 v) (a n f : Int) : U32 (withF v a n f) := by
  unfold withF; unfold U32 at *
  split
  · rename_i g
    have := inF_is g
    have := withN_lt (v := v.toNat) (a := a.toNat) (n := n.toNat) (f := f.toNat) (by omega) (by omega); omega
  · exact h
theorem with_back {v : Int} (h : U32 v) (a n f : Int) : withF (withF v a n f) a n (field v a n) = v := by
  unfold withF field; unfold U32 at h
  split
  · rename_i g
    simp only [Int.toNat_natCast, withN_back]; omega
  · rfl
theorem wrap32u (n : Int) : IntKind.u32.wrap n = n % 4294967296 := IntKind.wrap_u32' n
theorem pow32 (n : Nat) (h : n ≤ 32) : (0 : Int) < 2 ^ n ∧ (2 : Int) ^ n ≤ 4294967296 := by
  refine ⟨Int.pow_pos (by decide), ?_⟩
  have := Nat.pow_le_pow_right (n := 2) (by decide) h
  have e : ((2 ^ n : Nat) : Int) = (2 : Int) ^ n := by simp
  have e2 : (2 : Nat) ^ 32 = 4294967296 := by decide
  omega
theorem ones_shift (k : Nat) (h : k ≤ 32) : (4294967295 : Int) / 2 ^ (32 - k) = 2 ^ k - 1 := by
  have ⟨p, q⟩ := pow32 k h
  have ⟨p', _⟩ := pow32 (32 - k) (by omega)
  have e : (2 : Int) ^ k * 2 ^ (32 - k) = 4294967296 := by rw [← Int.pow_add, show k + (32 - k) = 32 from by omega]; decide
  have e2 : (4294967295 : Int) = (2 ^ (32 - k) - 1) + (2 ^ k - 1) * 2 ^ (32 - k) := by rw [Int.sub_mul, e]; omega
  rw [e2, Int.add_mul_ediv_right _ _ (by omega), Int.ediv_eq_zero_of_lt (by omega) (by omega)]; omega
theorem pow_sub_nat (k : Nat) : ((2 : Int) ^ k - 1) = ((2 ^ k - 1 : Nat) : Int) := by
  rw [Int.ofNat_sub Nat.one_le_two_pow, Int.natCast_pow]; rfl
theorem code_field {v : Int} (h : U32 v) (a n : Nat) (hn : n ≤ 32) : bits .and .u32 (v / 2 ^ a) (2 ^ n - 1) = (fieldN v.toNat a n : Int) := by
  unfold U32 at h
  have e : v / 2 ^ a = ((v.toNat / 2 ^ a : Nat) : Int) := by
    rw [Int.natCast_ediv, Int.natCast_pow, show ((v.toNat : Nat) : Int) = v from by omega]; rfl
  have ⟨p, q⟩ := pow32 n hn
  rw [e, pow_sub_nat, u32_and_nat _ _ (Nat.lt_of_le_of_lt (Nat.div_le_self _ _) (by omega)) (by have := pow_sub_nat n; omega), Nat.and_two_pow_sub_one_eq_mod]
  rfl
theorem and_zero32 (v : Int) : bits .and .u32 v 0 = 0 := by
  show IntKind.u32.wrap ((BitVec.ofInt 32 v &&& BitVec.ofInt 32 0).toNat : Int) = 0
  rw [show BitVec.ofInt 32 0 = 0#32 from by decide, BitVec.and_zero]; rfl
theorem andNot_zero32 {v : Int} (h : U32 v) : bits .andNot .u32 v 0 = v := by
  unfold U32 at h
  have := u32_andNot v 0 h.1 h.2 (by decide) (by decide)
  rw [this]
  have e : v.toNat &&& (4294967295 - (0 : Int).toNat) = v.toNat % 2 ^ 32 := Nat.and_two_pow_sub_one_eq_mod v.toNat 32
  rw [e]; omega
theorem or_zero32 {v : Int} (h : U32 v) : bits .or .u32 v 0 = v := by
  unfold U32 at h
  rw [u32_or v 0 h.1 h.2 (by decide) (by decide)]
  simp; omega
theorem code_with {v f : Int} (hv : U32 v) (hf : U32 f) (a n : Nat) (h : a + n ≤ 32) :
    bits .or .u32 (bits .andNot .u32 v (IntKind.u32.wrap ((2 ^ n - 1) * 2 ^ a))) (IntKind.u32.wrap (bits .and .u32 f (2 ^ n - 1) * 2 ^ a)) = (withN v.toNat a n f.toNat : Int) := by
  unfold U32 at hv hf
  have ho := ones_pow h
  have ⟨p, q⟩ := pow32 n (by omega)
  have e1 : IntKind.u32.wrap ((2 ^ n - 1) * 2 ^ a) = (((2 ^ n - 1) * 2 ^ a : Nat) : Int) := by
    rw [wrap32u, pow_sub_nat]
    have : ((2 ^ n - 1 : Nat) : Int) * 2 ^ a = (((2 ^ n - 1) * 2 ^ a : Nat) : Int) := by rw [Int.natCast_mul, Int.natCast_pow]; rfl
    rw [this]; omega
  have e2 : bits .and .u32 f (2 ^ n - 1) = ((f.toNat &&& (2 ^ n - 1) : Nat) : Int) := by
    rw [pow_sub_nat, u32_and _ _ hf.1 hf.2 (by omega) (by have := pow_sub_nat n; omega)]; rfl
  have hle : (f.toNat &&& (2 ^ n - 1)) * 2 ^ a ≤ (2 ^ n - 1) * 2 ^ a := Nat.mul_le_mul_right _ Nat.and_le_right
  have e3 : IntKind.u32.wrap (((f.toNat &&& (2 ^ n - 1) : Nat) : Int) * 2 ^ a) = (((f.toNat &&& (2 ^ n - 1)) * 2 ^ a : Nat) : Int) := by
    rw [wrap32u]
    have : ((f.toNat &&& (2 ^ n - 1) : Nat) : Int) * 2 ^ a = (((f.toNat &&& (2 ^ n - 1)) * 2 ^ a : Nat) : Int) := by rw [Int.natCast_mul, Int.natCast_pow]; rfl
    rw [this]; omega
  have e4 : bits .andNot .u32 v (((2 ^ n - 1) * 2 ^ a : Nat) : Int) = ((v.toNat &&& (4294967295 - (2 ^ n - 1) * 2 ^ a) : Nat) : Int) := by
    rw [u32_andNot _ _ hv.1 hv.2 (by omega) (by omega)]; rfl
  rw [e1, e2, e3, e4, u32_or_nat _ _ (Nat.lt_of_le_of_lt Nat.and_le_left (by omega)) (by omega), code_withN (by omega) h]
/-- which bit is put in -/
def putBit (v a n f : Int) (i : Nat) : Int := if inF a n && decide (a ≤ i) && decide ((i : Int) - a < n) then f / 2 ^ (i - a.toNat) % 2 else v / 2 ^ i % 2
theorem bit32 {v : Int} (h : U32 v) (i : Nat) : v / 2 ^ i % 2 = oneI (v.toNat.testBit i) := by
  unfold U32 at h
  rw [← bit_nat, show ((v.toNat : Nat) : Int) = v from by omega]
theorem putBit_is {v f : Int} (hv : U32 v) (hf : U32 f) (a n : Int) (i : Nat) : putBit v a n f i = (withF v a n f) / 2 ^ i % 2 := by
  rw [bit32 (withF_u32 hv a n f)]
  unfold putBit withF
  rw [bit32 hv, bit32 hf]
  cases g : inF a n
  · simp
  · have := inF_is g
    simp only [Bool.true_and, if_true, Int.toNat_natCast, withN_bit]
    by_cases h1 : a ≤ i
    · by_cases h2 : (i : Int) - a < n
      · simp only [h1, h2, decide_true, Bool.and_self, if_true]
        rw [if_neg (by omega), if_pos (by omega)]
      · have d : decide ((i : Int) - a < n) = false := decide_eq_false h2
        rw [d, Bool.and_false, if_neg (by decide), if_neg (by omega), if_neg (by omega)]
    · have d : decide (a ≤ (i : Int)) = false := decide_eq_false h1
      rw [d, Bool.false_and, if_neg (by decide), if_pos (by omega)]
theorem with_round {s : Int} (h : U32 s) (i : Nat) (hi : i < 32) : IntKind.u32.wrap (s % 2 ^ i + IntKind.u32.wrap (s / 2 ^ i % 2 * 2 ^ i)) = s % 2 ^ (i + 1) := by
  unfold U32 at h
  have e := zx_step s h.1 i
  have ⟨p, q⟩ := pow32 (i + 1) (by omega)
  have ⟨p', q'⟩ := pow32 i (by omega)
  have r1 := Int.emod_nonneg s (b := 2 ^ (i + 1)) (by omega)
  have r2 := Int.emod_lt_of_pos s p
  have r3 := Int.emod_nonneg s (b := 2 ^ i) (by omega)
  have hb : 0 ≤ s / 2 ^ i % 2 * 2 ^ i := Int.mul_nonneg (by omega) (by omega)
  rw [wrap32u, wrap32u]; omega
theorem field_round {v : Int} (h : U32 v) (a i : Nat) (hi : i < 32) :
    IntKind.u32.wrap (v / 2 ^ a % 2 ^ i + IntKind.u32.wrap (v / 2 ^ (a + i) % 2 * 2 ^ i)) = v / 2 ^ a % 2 ^ (i + 1) := by
  have hu : U32 (v / 2 ^ a) := ⟨Int.ediv_nonneg h.1 (Int.le_of_lt (Int.pow_pos (by decide))), Int.lt_of_le_of_lt (Int.ediv_le_self _ h.1) h.2⟩
  have := with_round hu i hi
  rw [Int.ediv_ediv_of_nonneg (Int.le_of_lt (Int.pow_pos (by decide))), ← Int.pow_add] at this
  exact this
theorem field_end {v : Int} (h : 0 ≤ v) (a n : Nat) : (fieldN v.toNat a n : Int) = v / 2 ^ a % 2 ^ n := by
  unfold fieldN
  rw [Int.natCast_emod, Int.natCast_ediv, Int.natCast_pow, Int.natCast_pow, show ((v.toNat : Nat) : Int) = v from by omega]; rfl
theorem rem_two {v : Int} (h : 0 ≤ v) (i : Nat) : (v / 2 ^ i).tmod 2 = v / 2 ^ i % 2 :=
  Int.tmod_eq_emod_of_nonneg (Int.ediv_nonneg h (Int.le_of_lt (Int.pow_pos (by decide))))
theorem with_end {s : Int} (h : U32 s) : s % 4294967296 = s := by
  unfold U32 at h; omega
end Cq
