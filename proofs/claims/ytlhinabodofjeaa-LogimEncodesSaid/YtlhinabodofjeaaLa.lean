/- Plain mathematics of layer 19: words of equal elements, bit by bit. -/
import Derived.Test.YtlhinabodofjeaaBitn
import Derived.Test.YtlhinabodofjeaaBitp
namespace Lg
open Go
open Cq

/-- is bit i of elements of n bits, o ones, turned by t, a 1? -/
def tb (n o t i : Nat) : Bool := decide ((i % n + t) % n < o)
/-- the word's lowest k bits -/
def tws (n o t : Nat) : Nat → Nat
  | 0 => 0
  | k + 1 => tws n o t k + if tb n o t k then 2 ^ k else 0
theorem tws_lt (n o t k : Nat) : tws n o t k < 2 ^ k := by
  induction k with
  | zero => simp [tws]
  | succ k ih => rw [tws, Nat.pow_succ]; split <;> omega
theorem tws_bit (n o t k j : Nat) : (tws n o t k).testBit j = (decide (j < k) && tb n o t j) := by
  induction k with
  | zero => simp [tws]
  | succ k ih =>
    have hl := tws_lt n o t k
    rw [tws]
    by_cases hb : tb n o t k = true
    · rw [if_pos hb, Nat.add_comm]
      by_cases hj : j = k
      · subst hj; rw [Nat.testBit_two_pow_add_eq, Nat.testBit_lt_two_pow hl, hb]; simp
      · by_cases hlt : j < k
        · rw [Nat.testBit_two_pow_add_gt hlt, ih]; simp [hlt]; omega
        · have : tws n o t k + 2 ^ k < 2 ^ j := Nat.lt_of_lt_of_le (show tws n o t k + 2 ^ k < 2 ^ (k + 1) by rw [Nat.pow_succ]; omega) (Nat.pow_le_pow_right (by omega) (by omega))
          rw [Nat.testBit_lt_two_pow (by omega)]
          rw [decide_eq_false (by omega)]; rfl
    · have hb' : tb n o t k = false := by simpa using hb
      rw [if_neg hb, Nat.add_zero, ih]
      by_cases hj : j = k
      · subst hj; rw [hb']; simp
      · congr 1; by_cases hlt : j < k
        · rw [decide_eq_true hlt, decide_eq_true (by omega)]
        · rw [decide_eq_false hlt, decide_eq_false (by omega)]
/-- may elements have so many bits? -/
def isSz (n : Int) : Bool := n == 2 || n == 4 || n == 8 || n == 16 || n == 32 || n == 64
theorem isSz_cases {n : Int} (h : isSz n = true) : n = 2 ∨ n = 4 ∨ n = 8 ∨ n = 16 ∨ n = 32 ∨ n = 64 := by
  simp only [isSz, Bool.or_eq_true, beq_iff_eq] at h; omega
/-- are these elements of words? -/
def okT (n o t : Int) : Bool := isSz n && decide (1 ≤ o ∧ o < n ∧ 0 ≤ t ∧ t < n)
/-- the word -/
def TW (n o t : Int) : Int := if okT n o t then (tws n.toNat o.toNat t.toNat 64 : Int) else 0
theorem okT_is {n o t : Int} (h : okT n o t = true) : isSz n = true ∧ 1 ≤ o ∧ o < n ∧ 0 ≤ t ∧ t < n := by
  unfold okT at h; rw [Bool.and_eq_true] at h; exact ⟨h.1, of_decide_eq_true h.2⟩
theorem tws_u64 (n o t : Nat) : U64 (tws n o t 64 : Int) := by
  have := tws_lt n o t 64; have e : (2 : Nat) ^ 64 = 18446744073709551616 := by decide
  exact ⟨by omega, by omega⟩
theorem TW_u64 (n o t : Int) : U64 (TW n o t) := by
  unfold TW; split
  · exact tws_u64 _ _ _
  · exact ⟨by omega, by omega⟩
theorem and_size : ∀ n : Nat, 2 ≤ n → n ≤ 64 → (bits .and .i64 (n : Int) ((n : Int) - 1) == 0) = isSz (n : Int) := by
  intro n h1 h2
  have : ∀ n : Nat, n < 65 → 2 ≤ n → (bits .and .i64 (n : Int) ((n : Int) - 1) == 0) = isSz (n : Int) := by decide +kernel
  exact this n (by omega) h1
theorem mod_add {n i t : Nat} (hn : i < n) (ht : t < n) : (i % n + t) % n = if i + t < n then i + t else i + t - n := by
  rw [Nat.mod_eq_of_lt hn]; split
  · exact Nat.mod_eq_of_lt (by omega)
  · rw [Nat.mod_eq_sub_mod (by omega), Nat.mod_eq_of_lt (by omega)]
theorem elemN {n o t : Nat} (h2 : o < n) (h4 : t < n) (hn : n ≤ 64) :
    ((2 ^ o - 1) / 2 ^ t ||| ((2 ^ o - 1) * 2 ^ (n - t)) % 2 ^ 64) &&& (2 ^ 64 - 1) / 2 ^ (64 - n) = tws n o t n := by
  apply Nat.eq_of_testBit_eq
  intro i
  rw [tws_bit, Nat.testBit_and, Nat.testBit_or, Nat.testBit_div_two_pow, Nat.testBit_div_two_pow, Nat.testBit_two_pow_sub_one, Nat.testBit_two_pow_sub_one, Nat.testBit_mod_two_pow, ← Nat.shiftLeft_eq, Nat.testBit_shiftLeft, Nat.testBit_two_pow_sub_one]
  by_cases hi : i < n
  · unfold tb
    rw [mod_add hi h4, decide_eq_true (show i + (64 - n) < 64 by omega), decide_eq_true hi, decide_eq_true (show i < 64 by omega)]
    simp only [Bool.true_and, Bool.and_true]
    split
    · rw [decide_eq_false (show ¬ i ≥ n - t by omega), Bool.false_and, Bool.or_false]
    · rw [decide_eq_true (show i ≥ n - t by omega), Bool.true_and, decide_eq_false (show ¬ i + t < o by omega), Bool.false_or]
      congr 1; apply propext; omega
  · rw [decide_eq_false (show ¬ i + (64 - n) < 64 by omega), decide_eq_false hi]; simp
theorem wrap_nat {n : Nat} (h : n < 18446744073709551616) : IntKind.u64.wrap (n : Int) = (n : Int) := wrap_of_u64 ⟨by omega, by omega⟩
theorem wrap_mod (n : Nat) : IntKind.u64.wrap (n : Int) = ((n % 18446744073709551616 : Nat) : Int) := by
  rw [IntKind.wrap_u64]; rfl
theorem div_nat (a b : Nat) : ((a : Int) / 2 ^ b) = ((a / 2 ^ b : Nat) : Int) := by
  simp only [Int.natCast_ediv, Int.natCast_pow]; rfl
theorem pow_nat (b : Nat) : ((2 : Int) ^ b) = ((2 ^ b : Nat) : Int) := by
  simp only [Int.natCast_pow]; rfl
theorem low_is {o : Nat} (h : o < 64) : IntKind.u64.wrap (IntKind.u64.wrap (2 ^ o) - 1) = ((2 ^ o - 1 : Nat) : Int) := by
  have h1 : 2 ^ o < 2 ^ 64 := Nat.pow_lt_pow_right (by omega) h
  have h2 : 0 < 2 ^ o := Nat.pow_pos (by omega)
  have e : (2 : Nat) ^ 64 = 18446744073709551616 := by decide
  rw [pow_nat, wrap_nat (by omega), show ((2 ^ o : Nat) : Int) - 1 = ((2 ^ o - 1 : Nat) : Int) by omega, wrap_nat (by omega)]
theorem elem_is {n o t : Nat} (h2 : o < n) (h4 : t < n) (hn : n ≤ 64) :
    bits .and .u64 (bits .or .u64 (IntKind.u64.wrap (IntKind.u64.wrap (2 ^ o) - 1) / 2 ^ t) (IntKind.u64.wrap (IntKind.u64.wrap (IntKind.u64.wrap (2 ^ o) - 1) * 2 ^ (n - t)))) (18446744073709551615 / 2 ^ (64 - n)) = (tws n o t n : Int) := by
  have e : (2 : Nat) ^ 64 = 18446744073709551616 := by decide
  have h1 : 2 ^ o < 2 ^ 64 := Nat.pow_lt_pow_right (by omega) (by omega)
  rw [← elemN h2 h4 hn, low_is (by omega), div_nat, pow_nat, ← Int.natCast_mul, wrap_mod, show (18446744073709551615 : Int) = ((2 ^ 64 - 1 : Nat) : Int) by decide, div_nat]
  have a1 : (2 ^ o - 1) / 2 ^ t < 18446744073709551616 := Nat.lt_of_le_of_lt (Nat.div_le_self _ _) (by omega)
  have a2 : (2 ^ o - 1) * 2 ^ (n - t) % 18446744073709551616 < 18446744073709551616 := Nat.mod_lt _ (by omega)
  have a3 : (2 ^ 64 - 1) / 2 ^ (64 - n) < 18446744073709551616 := Nat.lt_of_le_of_lt (Nat.div_le_self _ _) (by omega)
  rw [u64_or_nat _ _ a1 a2, u64_and_nat _ _ (by rw [← e] at a1 a2 ⊢; exact Nat.or_lt_two_pow a1 a2) a3, e]
theorem tb_add {n m i : Nat} (o t : Nat) (hd : n ∣ m) : tb n o t (i + m) = tb n o t i := by
  obtain ⟨c, rfl⟩ := hd
  unfold tb; rw [Nat.add_mul_mod_self_left]
theorem twice_is {n m : Nat} (o t : Nat) (hd : n ∣ m) (hm : m * 2 ≤ 64) :
    bits .or .u64 (tws n o t m : Int) (IntKind.u64.wrap ((tws n o t m : Int) * 2 ^ m)) = (tws n o t (m * 2) : Int) := by
  have e : (2 : Nat) ^ 64 = 18446744073709551616 := by decide
  have hl := tws_lt n o t m
  have hp : 2 ^ m ≤ 2 ^ 64 := Nat.pow_le_pow_right (by omega) (by omega)
  rw [pow_nat, ← Int.natCast_mul, wrap_mod, u64_or_nat _ _ (by omega) (Nat.mod_lt _ (by omega)), ← e]
  congr 1
  apply Nat.eq_of_testBit_eq
  intro i
  rw [tws_bit, Nat.testBit_or, tws_bit, Nat.testBit_mod_two_pow, ← Nat.shiftLeft_eq, Nat.testBit_shiftLeft, tws_bit]
  by_cases h1 : i < m
  · rw [decide_eq_true h1, decide_eq_false (show ¬ i ≥ m by omega), decide_eq_true (show i < m * 2 by omega)]; simp
  · by_cases h2 : i < m * 2
    · rw [decide_eq_false h1, decide_eq_true (show i ≥ m by omega), decide_eq_true h2, decide_eq_true (show i < 64 by omega), decide_eq_true (show i - m < m by omega)]
      simp only [Bool.true_and, Bool.false_and, Bool.false_or]
      rw [← tb_add (i := i - m) o t hd, Nat.sub_add_cancel (by omega)]
    · rw [decide_eq_false h1, decide_eq_false h2, decide_eq_false (show ¬ i - m < m by omega)]; simp
theorem isSz_twice {m : Nat} (h : isSz (m : Int) = true) (hm : (m : Int) < 64) : isSz ((m * 2 : Nat) : Int) = true ∧ m * 2 ≤ 64 := by
  have := isSz_cases h
  refine ⟨?_, by omega⟩
  simp only [isSz, Bool.or_eq_true, beq_iff_eq]; omega
theorem isSz_full {m : Nat} (h : isSz (m : Int) = true) (hm : ¬ (m : Int) < 64) : m = 64 := by
  have := isSz_cases h; omega
theorem isSz_not {n : Int} (h : isSz n = false) : (n == 2) = false ∧ (n == 4) = false ∧ (n == 8) = false ∧ (n == 16) = false ∧ (n == 32) = false ∧ (n == 64) = false := by
  simp only [isSz, Bool.or_eq_false_iff] at h; exact ⟨h.1.1.1.1.1, h.1.1.1.1.2, h.1.1.1.2, h.1.1.2, h.1.2, h.2⟩
theorem isSz_or {n : Int} (h : isSz n = true) : ((((n == 2 || n == 4) || n == 8) || n == 16) || n == 32 || n == 64) = true := by
  rcases isSz_cases h with rfl | rfl | rfl | rfl | rfl | rfl <;> rfl
theorem tb_int (n o t k : Nat) : tb n o t k = decide (((k : Int) + t) % n < o) := by
  unfold tb
  rw [Nat.mod_add_mod]
  apply decide_eq_decide.mpr
  rw [show ((k : Int) + t) % n = (((k + t) % n : Nat) : Int) by rw [Int.natCast_emod, Int.natCast_add]]
  omega
theorem step_no {n o t k : Nat} (h : (o : Int) ≤ ((k : Int) + t) % n) : tws n o t (k + 1) = tws n o t k := by
  rw [tws, tb_int, decide_eq_false (by omega)]; rfl
theorem step_yes {n o t k : Nat} (hk : k < 64) (h : ((k : Int) + t) % n < o) : IntKind.u64.wrap ((tws n o t k : Int) + IntKind.u64.wrap (2 ^ k)) = (tws n o t (k + 1) : Int) := by
  have e : (2 : Nat) ^ 64 = 18446744073709551616 := by decide
  have h1 : 2 ^ (k + 1) ≤ 2 ^ 64 := Nat.pow_le_pow_right (by omega) (by omega)
  have h2 := tws_lt n o t k
  rw [Nat.pow_succ] at h1
  rw [tws, tb_int, decide_eq_true h, pow_nat, wrap_nat (by omega), ← Int.natCast_add, wrap_nat (by omega)]; rfl
/-- the size of which six bits tell, after k rounds of the search: 0 while none is found -/
def szK (s : Nat) : Nat → Nat
  | 0 => 0
  | k + 1 => if szK s k = 0 ∧ s / 2 ^ (5 - k) % 2 = 0 then 2 ^ (5 - k) else szK s k
theorem and32 : ∀ s : Nat, s < 64 → (bits .and .i64 (s : Int) 32 == 0) = decide (s / 32 % 2 = 0) := by decide +kernel
theorem and16 : ∀ s : Nat, s < 64 → (bits .and .i64 (s : Int) 16 == 0) = decide (s / 16 % 2 = 0) := by decide +kernel
theorem and8 : ∀ s : Nat, s < 64 → (bits .and .i64 (s : Int) 8 == 0) = decide (s / 8 % 2 = 0) := by decide +kernel
theorem and4 : ∀ s : Nat, s < 64 → (bits .and .i64 (s : Int) 4 == 0) = decide (s / 4 % 2 = 0) := by decide +kernel
theorem and2 : ∀ s : Nat, s < 64 → (bits .and .i64 (s : Int) 2 == 0) = decide (s / 2 % 2 = 0) := by decide +kernel
def szN (s : Nat) : Nat := szK s 5
theorem szN_is : ∀ s : Nat, s < 64 → szN s = 0 ∨ szN s = 2 ∨ szN s = 4 ∨ szN s = 8 ∨ szN s = 16 ∨ szN s = 32 := by decide +kernel
/-- thirteen bits: the size -/
def szB (b : Nat) : Nat := if b < 4096 then szN (b % 64) else 64
theorem szB_is (b : Nat) : szB b = 0 ∨ szB b = 2 ∨ szB b = 4 ∨ szB b = 8 ∨ szB b = 16 ∨ szB b = 32 ∨ szB b = 64 := by
  unfold szB; split
  · rcases szN_is (b % 64) (Nat.mod_lt _ (by omega)) with h | h | h | h | h | h <;> omega
  · omega
/-- thirteen bits: the word, or 0 -/
def dec (b : Nat) : Int := if 8191 < b then 0 else if szB b = 0 then 0 else TW (szB b : Int) ((b % 64 % szB b + 1 : Nat) : Int) ((b / 64 % 64 % szB b : Nat) : Int)
theorem dec_u64 (b : Nat) : U64 (dec b) := by
  unfold dec; split
  · exact ⟨by omega, by omega⟩
  · split
    · exact ⟨by omega, by omega⟩
    · exact TW_u64 _ _ _
theorem tws_pos {n o t : Nat} (hn : n ≤ 64) (h1 : 1 ≤ o) (h4 : t < n) : 0 < tws n o t 64 := by
  refine Nat.pos_of_ne_zero fun h => ?_
  have := tws_bit n o t 64 ((n - t) % n)
  have hl : (n - t) % n < n := Nat.mod_lt _ (by omega)
  rw [h, Nat.zero_testBit, decide_eq_true (by omega), Bool.true_and] at this
  unfold tb at this
  rw [Nat.mod_mod, Nat.mod_add_mod, Nat.sub_add_cancel (by omega), Nat.mod_self, decide_eq_true (by omega)] at this
  cases this
theorem TW_zero {n o t : Int} (h : okT n o t = false) : TW n o t = 0 := by unfold TW; rw [h]; rfl
theorem TW_pos {n o t : Int} (h : okT n o t = true) : 0 < TW n o t := by
  have ⟨hs, h1, h2, h3, h4⟩ := okT_is h
  have := isSz_cases hs
  unfold TW; rw [h, if_pos rfl]
  have := tws_pos (n := n.toNat) (o := o.toNat) (t := t.toNat) (by omega) (by omega) (by omega)
  omega
end Lg
