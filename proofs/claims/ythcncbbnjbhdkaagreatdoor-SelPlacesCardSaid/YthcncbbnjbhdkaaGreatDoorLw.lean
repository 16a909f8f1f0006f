/- Plain mathematics of layer 19: words of equal elements, bit by bit. -/
import Derived.Test.YthcncbbnjbhdkaaGreatDoorBitv
import Derived.Test.YthcncbbnjbhdkaaGreatDoorRows
import Derived.WalkKit
import Derived.WalkLawsBesides
import Derived.WalkSpells
import Derived.LoopTactic
import Derived.Lib.Hide
import Derived.Deep.QuietTactic
import Derived.BigQuiet
import Derived.Below
namespace Lg
open Go
open Cq

/-- is bit i of elements of n bits, o ones, turned by t, a 1? -/
def tb (n o t i : Nat) : Bool := decide ((i % n + t) % n < o)
/-- the word's lowest k bits -/
def tws (n o t : Nat) : Nat → Nat
  | 0 => 0
  | k + 1 => tws n o t k + if tb n o t k then 2 ^ k else 0
theorem tws_lt (n o t k : Nat) : tws n o t k < 2 ^ k := by
  induction k with
  | zero => simp [tws]
  | succ k ih => rw [tws, Nat.pow_succ]; split <;> omega
theorem tws_bit (n o t k j : Nat) : (tws n o t k).testBit j = (decide (j < k) && tb n o t j) := by
  induction k with
  | zero => simp [tws]
  | succ k ih =>
    have hl := tws_lt n o t k
    rw [tws]
    by_cases hb : tb n o t k = true
    · rw [if_pos hb, Nat.add_comm]
      by_cases hj : j = k
      · subst hj; rw [Nat.testBit_two_pow_add_eq, Nat.testBit_lt_two_pow hl, hb]; simp
      · by_cases hlt : j < k
        · rw [Nat.testBit_two_pow_add_gt hlt, ih]; simp [hlt]; omega
        · have : tws n o t k + 2 ^ k < 2 ^ j := Nat.lt_of_lt_of_le (show tws n o t k + 2 ^ k < 2 ^ (k + 1) by rw [Nat.pow_succ]; omega) (Nat.pow_le_pow_right (by omega) (by omega))
          rw [Nat.testBit_lt_two_pow (by omega)]
          rw [decide_eq_false (by omega)]; rfl
    · have hb' : tb n o t k = false := by simpa using hb
      rw [if_neg hb, Nat.add_zero, ih]
      by_cases hj : j = k
      · subst hj; rw [hb']; simp
      · congr 1; by_cases hlt : j < k
        · rw [decide_eq_true hlt, decide_eq_true (by omega)]
        · rw [decide_eq_false hlt, decide_eq_false (by omega)]
/-- may elements have so many bits? -/
def isSz (n : Int) : Bool := n == 2 || n == 4 || n == 8 || n == 16 || n == 32 || n == 64
theorem isSz_cases {n : Int} (h : isSz n = true) : n = 2 ∨ n = 4 ∨ n = 8 ∨ n = 16 ∨ n = 32 ∨ n = 64 := by
  simp only [isSz, Bool.or_eq_true, beq_iff_eq] at h; omega
/-- are these elements of words? -/
def okT (n o t : Int) : Bool := isSz n && decide (1 ≤ o ∧ o < n ∧ 0 ≤ t ∧ t < n)
/-- the word -/
def TW (n o t : Int) : Int := if okT n o t then (tws n.toNat o.toNat t.toNat 64 : Int) else 0
theorem okT_is {n o t : Int} (h : okT n o t = true) : isSz n = true ∧ 1 ≤ o ∧ o < n ∧ 0 ≤ t ∧ t < n := by
  unfold okT at h; rw [Bool.and_eq_true] at h; exact ⟨h.1, of_decide_eq_true h.2⟩
theorem tws_u64 (n o t : Nat) : U64 (tws n o t 64 : Int) := by
  have := tws_lt n o t 64; have e : (2 : Nat) ^ 64 = 18446744073709551616 := by decide
  exact ⟨by omega, by omega⟩
theorem TW_u64 (n o t : Int) : U64 (TW n o t) := by
  unfold TW; split
  · exact tws_u64 _ _ _
  · exact ⟨by omega, by omega⟩
theorem and_size : ∀ n : Nat, 2 ≤ n → n ≤ 64 → (bits .and .i64 (n : Int) ((n : Int) - 1) == 0) = isSz (n : Int) := by
  intro n h1 h2
  have : ∀ n : Nat, n < 65 → 2 ≤ n → (bits .and .i64 (n : Int) ((n : Int) - 1) == 0) = isSz (n : Int) := by decide +kernel
  exact this n (by omega) h1
theorem mod_add {n i t : Nat} (hn : i < n) (ht : t < n) : (i % n + t) % n = if i + t < n then i + t else i + t - n := by
  rw [Nat.mod_eq_of_lt hn]; split
  · exact Nat.mod_eq_of_lt (by omega)
  · rw [Nat.mod_eq_sub_mod (by omega), Nat.mod_eq_of_lt (by omega)]
theorem elemN {n o t : Nat} (h2 : o < n) (h4 : t < n) (hn : n ≤ 64) :
    ((2 ^ o - 1) / 2 ^ t ||| ((2 ^ o - 1) * 2 ^ (n - t)) % 2 ^ 64) &&& (2 ^ 64 - 1) / 2 ^ (64 - n) = tws n o t n := by
  apply Nat.eq_of_testBit_eq
  intro i
  rw [tws_bit, Nat.testBit_and, Nat.testBit_or, Nat.testBit_div_two_pow, Nat.testBit_div_two_pow, Nat.testBit_two_pow_sub_one, Nat.testBit_two_pow_sub_one, Nat.testBit_mod_two_pow, ← Nat.shiftLeft_eq, Nat.testBit_shiftLeft, Nat.testBit_two_pow_sub_one]
  by_cases hi : i < n
  · unfold tb
    rw [mod_add hi h4, decide_eq_true (show i + (64 - n) < 64 by omega), decide_eq_true hi, decide_eq_true (show i < 64 by omega)]
    simp only [Bool.true_and, Bool.and_true]
    split
    · rw [decide_eq_false (show ¬ i ≥ n - t by omega), Bool.false_and, Bool.or_false]
    · rw [decide_eq_true (show i ≥ n - t by omega), Bool.true_and, decide_eq_false (show ¬ i + t < o by omega), Bool.false_or]
      congr 1; apply propext; omega
  · rw [decide_eq_false (show ¬ i + (64 - n) < 64 by omega), decide_eq_false hi]; simp
theorem wrap_nat {n : Nat} (h : n < 18446744073709551616) : IntKind.u64.wrap (n : Int) = (n : Int) := wrap_of_u64 ⟨by omega, by omega⟩
theorem wrap_mod (n : Nat) : IntKind.u64.wrap (n : Int) = ((n % 18446744073709551616 : Nat) : Int) := by
  rw [IntKind.wrap_u64]; rfl
theorem div_nat (a b : Nat) : ((a : Int) / 2 ^ b) = ((a / 2 ^ b : Nat) : Int) := by
  simp only [Int.natCast_ediv, Int.natCast_pow]; rfl
theorem pow_nat (b : Nat) : ((2 : Int) ^ b) = ((2 ^ b : Nat) : Int) := by
  simp only [Int.natCast_pow]; rfl
theorem low_is {o : Nat} (h : o < 64) : IntKind.u64.wrap (IntKind.u64.wrap (2 ^ o) - 1) = ((2 ^ o - 1 : Nat) : Int) := by
  have h1 : 2 ^ o < 2 ^ 64 := Nat.pow_lt_pow_right (by omega) h
  have h2 : 0 < 2 ^ o := Nat.pow_pos (by omega)
  have e : (2 : Nat) ^ 64 = 18446744073709551616 := by decide
  rw [pow_nat, wrap_nat (by omega), show ((2 ^ o : Nat) : Int) - 1 = ((2 ^ o - 1 : Nat) : Int) by omega, wrap_nat (by omega)]
theorem elem_is {n o t : Nat} (h2 : o < n) (h4 : t < n) (hn : n ≤ 64) :
    bits .and .u64 (bits .or .u64 (IntKind.u64.wrap (IntKind.u64.wrap (2 ^ o) - 1) / 2 ^ t) (IntKind.u64.wrap (IntKind.u64.wrap (IntKind.u64.wrap (2 ^ o) - 1) * 2 ^ (n - t)))) (18446744073709551615 / 2 ^ (64 - n)) = (tws n o t n : Int) := by
  have e : (2 : Nat) ^ 64 = 18446744073709551616 := by decide
  have h1 : 2 ^ o < 2 ^ 64 := Nat.pow_lt_pow_right (by omega) (by omega)
  rw [← elemN h2 h4 hn, low_is (by omega), div_nat, pow_nat, ← Int.natCast_mul, wrap_mod, show (18446744073709551615 : Int) = ((2 ^ 64 - 1 : Nat) : Int) by decide, div_nat]
  have a1 : (2 ^ o - 1) / 2 ^ t < 18446744073709551616 := Nat.lt_of_le_of_lt (Nat.div_le_self _ _) (by omega)
  have a2 : (2 ^ o - 1) * 2 ^ (n - t) % 18446744073709551616 < 18446744073709551616 := Nat.mod_lt _ (by omega)
  have a3 : (2 ^ 64 - 1) / 2 ^ (64 - n) < 18446744073709551616 := Nat.lt_of_le_of_lt (Nat.div_le_self _ _) (by omega)
  rw [u64_or_nat _ _ a1 a2, u64_and_nat _ _ (by rw [← e] at a1 a2 ⊢; exact Nat.or_lt_two_pow a1 a2) a3, e]
theorem tb_add {n m i : Nat} (o t : Nat) (hd : n ∣ m) : tb n o t (i + m) = tb n o t i := by
  obtain ⟨c, rfl⟩ := hd
  unfold tb; rw [Nat.add_mul_mod_self_left]
theorem twice_is {n m : Nat} (o t : Nat) (hd : n ∣ m) (hm : m * 2 ≤ 64) :
    bits .or .u64 (tws n o t m : Int) (IntKind.u64.wrap ((tws n o t m : Int) * 2 ^ m)) = (tws n o t (m * 2) : Int) := by
  have e : (2 : Nat) ^ 64 = 18446744073709551616 := by decide
  have hl := tws_lt n o t m
  have hp : 2 ^ m ≤ 2 ^ 64 := Nat.pow_le_pow_right (by omega) (by omega)
  rw [pow_nat, ← Int.natCast_mul, wrap_mod, u64_or_nat _ _ (by omega) (Nat.mod_lt _ (by omega)), ← e]
  congr 1
  apply Nat.eq_of_testBit_eq
  intro i
  rw [tws_bit, Nat.testBit_or, tws_bit, Nat.testBit_mod_two_pow, ← Nat.shiftLeft_eq, Nat.testBit_shiftLeft, tws_bit]
  by_cases h1 : i < m
  · rw [decide_eq_true h1, decide_eq_false (show ¬ i ≥ m by omega), decide_eq_true (show i < m * 2 by omega)]; simp
  · by_cases h2 : i < m * 2
    · rw [decide_eq_false h1, decide_eq_true (show i ≥ m by omega), decide_eq_true h2, decide_eq_true (show i < 64 by omega), decide_eq_true (show i - m < m by omega)]
      simp only [Bool.true_and, Bool.false_and, Bool.false_or]
      rw [← tb_add (i := i - m) o t hd, Nat.sub_add_cancel (by omega)]
    · rw [decide_eq_false h1, decide_eq_false h2, decide_eq_false (show ¬ i - m < m by omega)]; simp
theorem isSz_twice {m : Nat} (h : isSz (m : Int) = true) (hm : (m : Int) < 64) : isSz ((m * 2 : Nat) : Int) = true ∧ m * 2 ≤ 64 := by
  have := isSz_cases h
  refine ⟨?_, by omega⟩
  simp only [isSz, Bool.or_eq_true, beq_iff_eq]; omega
theorem isSz_full {m : Nat} (h : isSz (m : Int) = true) (hm : ¬ (m : Int) < 64) : m = 64 := by
  have := isSz_cases h; omega
theorem isSz_not {n : Int} (h : isSz n = false) : (n == 2) = false ∧ (n == 4) = false ∧ (n == 8) = false ∧ (n == 16) = false ∧ (n == 32) = false ∧ (n == 64) = false := by
  simp only [isSz, Bool.or_eq_false_iff] at h; exact ⟨h.1.1.1.1.1, h.1.1.1.1.2, h.1.1.1.2, h.1.1.2, h.1.2, h.2⟩
theorem isSz_or {n : Int} (h : isSz n = true) : ((((n == 2 || n == 4) || n == 8) || n == 16) || n == 32 || n == 64) = true := by
  rcases isSz_cases h with rfl | rfl | rfl | rfl | rfl | rfl <;> rfl
theorem tb_int (n o t k : Nat) : tb n o t k = decide (((k : Int) + t) % n < o) := by
  unfold tb
  rw [Nat.mod_add_mod]
  apply decide_eq_decide.mpr
  rw [show ((k : Int) + t) % n = (((k + t) % n : Nat) : Int) by rw [Int.natCast_emod, Int.natCast_add]]
  omega
theorem step_no {n o t k : Nat} (h : (o : Int) ≤ ((k : Int) + t) % n) : tws n o t (k + 1) = tws n o t k := by
  rw [tws, tb_int, decide_eq_false (by omega)]; rfl
theorem step_yes {n o t k : Nat} (hk : k < 64) (h : ((k : Int) + t) % n < o) : IntKind.u64.wrap ((tws n o t k : Int) + IntKind.u64.wrap (2 ^ k)) = (tws n o t (k + 1) : Int) := by
  have e : (2 : Nat) ^ 64 = 18446744073709551616 := by decide
  have h1 : 2 ^ (k + 1) ≤ 2 ^ 64 := Nat.pow_le_pow_right (by omega) (by omega)
  have h2 := tws_lt n o t k
  rw [Nat.pow_succ] at h1
  rw [tws, tb_int, decide_eq_true h, pow_nat, wrap_nat (by omega), ← Int.natCast_add, wrap_nat (by omega)]; rfl
/-- the size of which six bits tell, after k rounds of the search: 0 while none is found -/
def szK (s : Nat) : Nat → Nat
  | 0 => 0
  | k + 1 => if szK s k = 0 ∧ s / 2 ^ (5 - k) % 2 = 0 then 2 ^ (5 - k) else szK s k
theorem and32 : ∀ s : Nat, s < 64 → (bits .and .i64 (s : Int) 32 == 0) = decide (s / 32 % 2 = 0) := by decide +kernel
theorem and16 : ∀ s : Nat, s < 64 → (bits .and .i64 (s : Int) 16 == 0) = decide (s / 16 % 2 = 0) := by decide +kernel
theorem and8 : ∀ s : Nat, s < 64 → (bits .and .i64 (s : Int) 8 == 0) = decide (s / 8 % 2 = 0) := by decide +kernel
theorem and4 : ∀ s : Nat, s < 64 → (bits .and .i64 (s : Int) 4 == 0) = decide (s / 4 % 2 = 0) := by decide +kernel
theorem and2 : ∀ s : Nat, s < 64 → (bits .and .i64 (s : Int) 2 == 0) = decide (s / 2 % 2 = 0) := by decide +kernel
def szN (s : Nat) : Nat := szK s 5
theorem szN_is : ∀ s : Nat, s < 64 → szN s = 0 ∨ szN s = 2 ∨ szN s = 4 ∨ szN s = 8 ∨ szN s = 16 ∨ szN s = 32 := by decide +kernel
/-- thirteen bits: the size -/
def szB (b : Nat) : Nat := if b < 4096 then szN (b % 64) else 64
theorem szB_is (b : Nat) : szB b = 0 ∨ szB b = 2 ∨ szB b = 4 ∨ szB b = 8 ∨ szB b = 16 ∨ szB b = 32 ∨ szB b = 64 := by
  unfold szB; split
  · rcases szN_is (b % 64) (Nat.mod_lt _ (by omega)) with h | h | h | h | h | h <;> omega
  · omega
/-- thirteen bits: the word, or 0 -/
def dec (b : Nat) : Int := if 8191 < b then 0 else if szB b = 0 then 0 else TW (szB b : Int) ((b % 64 % szB b + 1 : Nat) : Int) ((b / 64 % 64 % szB b : Nat) : Int)
theorem dec_u64 (b : Nat) : U64 (dec b) := by
  unfold dec; split
  · exact ⟨by omega, by omega⟩
  · split
    · exact ⟨by omega, by omega⟩
    · exact TW_u64 _ _ _
theorem tws_pos {n o t : Nat} (hn : n ≤ 64) (h1 : 1 ≤ o) (h4 : t < n) : 0 < tws n o t 64 := by
  refine Nat.pos_of_ne_zero fun h => ?_
  have := tws_bit n o t 64 ((n - t) % n)
  have hl : (n - t) % n < n := Nat.mod_lt _ (by omega)
  rw [h, Nat.zero_testBit, decide_eq_true (by omega), Bool.true_and] at this
  unfold tb at this
  rw [Nat.mod_mod, Nat.mod_add_mod, Nat.sub_add_cancel (by omega), Nat.mod_self, decide_eq_true (by omega)] at this
  cases this
theorem TW_zero {n o t : Int} (h : okT n o t = false) : TW n o t = 0 := by unfold TW; rw [h]; rfl
theorem TW_pos {n o t : Int} (h : okT n o t = true) : 0 < TW n o t := by
  have ⟨hs, h1, h2, h3, h4⟩ := okT_is h
  have := isSz_cases hs
  unfold TW; rw [h, if_pos rfl]
  have := tws_pos (n := n.toNat) (o := o.toNat) (t := t.toNat) (by omega) (by omega) (by omega)
  omega
end Lg

/- Plain mathematics of layer 19: the size that six bits tell. -/
namespace Lg
open Go
open Cq

theorem szK_stay {s k : Nat} (h : szK s k ≠ 0) : szK s (k + 1) = szK s k := by
  rw [szK, if_neg (fun g => h g.1)]
theorem szK_found {s k : Nat} (h : szK s k = 0) (g : s / 2 ^ (5 - k) % 2 = 0) : szK s (k + 1) = 2 ^ (5 - k) := by
  rw [szK, if_pos ⟨h, g⟩]
theorem szK_not {s k : Nat} (h : szK s k = 0) (g : ¬ s / 2 ^ (5 - k) % 2 = 0) : szK s (k + 1) = 0 := by
  rw [szK, if_neg (fun q => g q.2), h]
theorem szK_all {s k : Nat} (h : szK s k ≠ 0) (j : Nat) : szK s (k + j) = szK s k := by
  induction j with
  | zero => rfl
  | succ j ih => rw [← Nat.add_assoc, szK_stay (by rw [ih]; exact h), ih]
theorem szN_found {s k : Nat} (hk : k ≤ 4) (h : szK s k = 0) (g : s / 2 ^ (5 - k) % 2 = 0) : szN s = 2 ^ (5 - k) := by
  have e := szK_found h g
  have hp : 0 < 2 ^ (5 - k) := Nat.pow_pos (by omega)
  have := szK_all (s := s) (k := k + 1) (by rw [e]; omega) (4 - k)
  rw [show k + 1 + (4 - k) = 5 by omega, e] at this
  exact this
end Lg

/- Plain mathematics of layer 19: the least size of elements of which a word consists. -/
namespace Lg
open Go
open Cq

/-- are the lowest 2 h bits two equal halves? -/
def per (v h : Nat) : Bool := (List.range h).all fun k => v.testBit k == v.testBit (k + h)
theorem per_is {v h : Nat} : per v h = true ↔ ∀ k, k < h → v.testBit k = v.testBit (k + h) := by
  unfold per; simp
theorem per_not {v h k : Nat} (hk : k < h) (hb : v.testBit k ≠ v.testBit (k + h)) : per v h = false := by
  cases g : per v h
  · rfl
  · exact absurd (per_is.1 g k hk) hb
def szO (v : Nat) : Nat := if !per v 32 then 64 else if !per v 16 then 32 else if !per v 8 then 16 else if !per v 4 then 8 else if !per v 2 then 4 else 2
theorem szO_is (v : Nat) : szO v = 2 ∨ szO v = 4 ∨ szO v = 8 ∨ szO v = 16 ∨ szO v = 32 ∨ szO v = 64 := by
  unfold szO; repeat' split
  all_goals omega
theorem bit_ne {v : Int} (hv : U64 v) (k h : Nat) : (bits .and .u64 (v / 2 ^ k) 1 != bits .and .u64 (v / 2 ^ h) 1) = (v.toNat.testBit k != v.toNat.testBit h) := by
  have h0 := hv.1
  have u : ∀ j : Nat, U64 (v / 2 ^ j) := fun j => by
    obtain ⟨n, rfl⟩ := Int.eq_ofNat_of_zero_le h0
    rw [div_nat]
    have h1 := Nat.div_le_self n (2 ^ j)
    have h2 := hv.2
    generalize n / 2 ^ j = q at *
    exact ⟨by omega, by omega⟩
  rw [and_one _ (u k), and_one _ (u h)]
  obtain ⟨n, rfl⟩ := Int.eq_ofNat_of_zero_le h0
  rw [show (((n : Nat) : Int)).toNat = n from rfl, bit_nat, bit_nat]
  cases n.testBit k <;> cases n.testBit h <;> decide
end Lg

/- Walks of layer 19: words of elements. -/
namespace Go.Proofs.YthcncbbnjbhdkaaGreatDoor
open Go.RowKit
open Cq (U64 I64 oneI bit)
open Lg

theorem isSize_any (n : Int) (hn : I64 n) (W : World) : Calls Tryz.prog 163 #[.int .i64 n] W fun e W' => e = .returned (.bool (isSz n)) ∧ W = W' := by
  unfold I64 at hn
  by_cases h1 : n < 2
  · rw [show isSz n = false by simp [isSz]; omega]
    go_enter Tryz.func163, Tryz.ntmps163
    go_wp2
    go_ret
    exact ⟨rfl, rfl⟩
  · by_cases h2 : 64 < n
    · rw [show isSz n = false by simp [isSz]; omega]
      have h1' := Int.not_lt.mp h1
      clear h1
      go_enter Tryz.func163, Tryz.ntmps163
      go_wp2
      go_ret
      exact ⟨rfl, rfl⟩
    · obtain ⟨k, rfl⟩ : ∃ k : Nat, n = (k : Int) := ⟨n.toNat, by omega⟩
      have H := Lib.hid (and_size k (by omega) (by omega))
      have h1' := Int.not_lt.mp h1
      have h2' := Int.not_lt.mp h2
      clear h1 h2 hn
      go_enter Tryz.func163, Tryz.ntmps163
      go_wp2
      go_ret
      exact ⟨by rw [← H.out]; rfl, rfl⟩
theorem turned_any (a b c : Int) (ha : I64 a) (hb : I64 b) (hc : I64 c) (W : World) : Calls Tryz.prog 96 #[.int .i64 a, .int .i64 b, .int .i64 c] W
    fun e W' => e = .returned (.int .u64 (TW a b c)) ∧ W = W' := by
  cases g : okT a b c
  · rw [show TW a b c = 0 by unfold TW; rw [g]; rfl]
    cases hs : isSz a
    · go_enter Tryz.func96, Tryz.ntmps96
      go_wp2_with fail
      refine (isSize_any _ ha _).mono ?_; rintro e w' ⟨rfl, rfl⟩
      rw [hs]
      go_wp2_with fail
      go_ret
      exact ⟨rfl, rfl⟩
    · have HS := Lib.hid hs
      unfold I64 at ha hb hc
      have hg : b < 1 ∨ a ≤ b ∨ c < 0 ∨ a ≤ c := by
        unfold okT at g; rw [hs, Bool.true_and] at g; have := of_decide_eq_false g; omega
      have ha64 : 2 ≤ a ∧ a ≤ 64 := by have := isSz_cases hs; omega
      obtain ⟨ha2, ha64⟩ := ha64
      clear hs g
      by_cases h1 : b < 1
      · clear hg
        go_enter Tryz.func96, Tryz.ntmps96
        go_wp2_with fail
        refine (isSize_any _ (by unfold I64; omega) _).mono ?_; rintro e w' ⟨rfl, rfl⟩
        rw [HS.out]
        go_wp2_with fail
        go_ret
        exact ⟨rfl, rfl⟩
      · have h1' := Int.not_lt.mp h1
        clear h1
        by_cases h2 : a ≤ b
        · clear hg
          go_enter Tryz.func96, Tryz.ntmps96
          go_wp2_with fail
          refine (isSize_any _ (by unfold I64; omega) _).mono ?_; rintro e w' ⟨rfl, rfl⟩
          rw [HS.out]
          go_wp2_with fail
          go_ret
          exact ⟨rfl, rfl⟩
        · have h2' := Int.not_le.mp h2
          clear h2
          by_cases h3 : c < 0
          · clear hg
            go_enter Tryz.func96, Tryz.ntmps96
            go_wp2_with fail
            refine (isSize_any _ (by unfold I64; omega) _).mono ?_; rintro e w' ⟨rfl, rfl⟩
            rw [HS.out]
            go_wp2_with fail
            go_ret
            exact ⟨rfl, rfl⟩
          · have h3' := Int.not_lt.mp h3
            clear h3
            have h4 : a ≤ c := by omega
            clear hg
            go_enter Tryz.func96, Tryz.ntmps96
            go_wp2_with fail
            refine (isSize_any _ (by unfold I64; omega) _).mono ?_; rintro e w' ⟨rfl, rfl⟩
            rw [HS.out]
            go_wp2_with fail
            go_ret
            exact ⟨rfl, rfl⟩
  · have ⟨hs, h1, h2, h3, h4⟩ := okT_is g
    have hs' := isSz_cases hs
    obtain ⟨o, rfl⟩ := Int.eq_ofNat_of_zero_le (show 0 ≤ b by omega)
    obtain ⟨t, rfl⟩ := Int.eq_ofNat_of_zero_le h3
    obtain ⟨n, rfl⟩ := Int.eq_ofNat_of_zero_le (show 0 ≤ a by omega)
    have HS := Lib.hid hs
    have HS' := Lib.hid hs'
    have HT : Hid (TW n o t = (tws n o t 64 : Int)) := by show _ = _; unfold TW; rw [g]; rfl
    have hn : (n : Int) ≤ 64 := by omega
    have HE := Lib.hid (elem_is (n := n) (o := o) (t := t) (by omega) (by omega) (by omega))
    clear g hs hs' ha hb hc
    go_enter Tryz.func96, Tryz.ntmps96
    go_wp2_with fail
    refine (isSize_any _ (by unfold I64; omega) _).mono ?_; rintro e w' ⟨rfl, rfl⟩
    rw [HS.out]
    go_wp2_with fail
    rw [HE.out]
    go_loop [0, 8] (fun x e => ∃ m : Nat, Hid (isSz (m : Int) = true) ∧ Hid (n ∣ m) ∧ x = .int .i64 m ∧ e = .int .u64 (tws n o t m : Int)) (fun x _ => 64 - (intOf x).toNat)
    case atStart => exact ⟨n, HS, Nat.dvd_refl n, rfl, rfl⟩
    case round =>
      obtain ⟨m, hz, hd, rfl, rfl⟩ := hrel
      by_cases hm : (m : Int) < 64
      · have ⟨z1, z2⟩ := isSz_twice hz.out hm
        have HD := Lib.hid (twice_is o t hd.out z2)
        have Z1 := Lib.hid z1
        clear z1
        have hm0 : 0 ≤ (m : Int) := by omega
        generalize hT : tws n o t m = T at *
        go_wp2_with fail
        go_round
        case rel => exact ⟨m * 2, Z1.out, Nat.dvd_trans hd.out (Nat.dvd_mul_right _ _), by rw [Int.natCast_mul]; rfl, by rw [HD.out]⟩
        case measure =>
          show 64 - ((m : Int) * 2).toNat < 64 - (m : Int).toNat
          have := isSz_cases hz.out; omega
      · have HM := Lib.hid (isSz_full hz.out hm)
        have hm' := Int.not_lt.mp hm
        clear hm
        go_wp2_with fail
        go_ret
        exact ⟨by rw [HT.out]; have := HM.out; subst this; rfl, rfl⟩
end Go.Proofs.YthcncbbnjbhdkaaGreatDoor

/- Walks of layer 19: the document's words of elements. -/
namespace Go.Proofs.YthcncbbnjbhdkaaGreatDoor
open Go.RowKit
open Cq (U64 I64 oneI bit)
open Lg

set_option maxHeartbeats 4000000 in
theorem rturned2_in (o t : Nat) (h1 : (1 : Int) ≤ o) (h2 : (o : Int) ≤ 1) (h4 : (t : Int) ≤ 1) (W : World) : Calls Tryz.prog 99 #[.int .i64 2, .int .i64 o, .int .i64 t] W
    fun e W' => e = .returned (.int .u64 (tws 2 o t 64 : Int)) ∧ W = W' := by
  have h3 : (0 : Int) ≤ t := by omega
  go_enter Tryz.func99, Tryz.ntmps99
  go_wp2_with fail
  go_loop [8, 9] (fun v i => ∃ k : Nat, k ≤ 64 ∧ i = .int .i64 k ∧ v = .int .u64 (tws 2 o t k : Int)) (fun _ i => 64 - (intOf i).toNat)
  case atStart => exact ⟨0, by omega, rfl, rfl⟩
  case round =>
    obtain ⟨k, hk, rfl, rfl⟩ := hrel
    by_cases hm : (k : Int) < 64
    · have hk' : k < 64 := by omega
      generalize hT : tws 2 o t k = T at *
      go_wp2_with fail
      all_goals
        rename_i hb
        refine ⟨⟨k + 1, by omega, by rw [Int.natCast_add]; rfl, ?_⟩, ?_⟩
      case roundEnd.refine_2 => show 64 - ((k : Int) + 1).toNat < 64 - (k : Int).toNat; omega
      case roundEnd.refine_2 => show 64 - ((k : Int) + 1).toNat < 64 - (k : Int).toNat; omega
      · first
        | (rw [← hT, step_no hb])
        | (rw [← hT]; exact congrArg _ (step_yes hk' hb))
      · first
        | (rw [← hT, step_no hb])
        | (rw [← hT]; exact congrArg _ (step_yes hk' hb))
    · have HM : Hid (k = 64) := by show _ = _; omega
      have hm' := Int.not_lt.mp hm
      clear hm hk
      go_wp2_with fail
      go_ret
      exact ⟨by have := HM.out; subst this; rfl, rfl⟩
set_option maxHeartbeats 4000000 in
theorem rturned4_in (o t : Nat) (h1 : (1 : Int) ≤ o) (h2 : (o : Int) ≤ 3) (h4 : (t : Int) ≤ 3) (W : World) : Calls Tryz.prog 99 #[.int .i64 4, .int .i64 o, .int .i64 t] W
    fun e W' => e = .returned (.int .u64 (tws 4 o t 64 : Int)) ∧ W = W' := by
  have h3 : (0 : Int) ≤ t := by omega
  go_enter Tryz.func99, Tryz.ntmps99
  go_wp2_with fail
  go_loop [8, 9] (fun v i => ∃ k : Nat, k ≤ 64 ∧ i = .int .i64 k ∧ v = .int .u64 (tws 4 o t k : Int)) (fun _ i => 64 - (intOf i).toNat)
  case atStart => exact ⟨0, by omega, rfl, rfl⟩
  case round =>
    obtain ⟨k, hk, rfl, rfl⟩ := hrel
    by_cases hm : (k : Int) < 64
    · have hk' : k < 64 := by omega
      generalize hT : tws 4 o t k = T at *
      go_wp2_with fail
      all_goals
        rename_i hb
        refine ⟨⟨k + 1, by omega, by rw [Int.natCast_add]; rfl, ?_⟩, ?_⟩
      case roundEnd.refine_2 => show 64 - ((k : Int) + 1).toNat < 64 - (k : Int).toNat; omega
      case roundEnd.refine_2 => show 64 - ((k : Int) + 1).toNat < 64 - (k : Int).toNat; omega
      · first
        | (rw [← hT, step_no hb])
        | (rw [← hT]; exact congrArg _ (step_yes hk' hb))
      · first
        | (rw [← hT, step_no hb])
        | (rw [← hT]; exact congrArg _ (step_yes hk' hb))
    · have HM : Hid (k = 64) := by show _ = _; omega
      have hm' := Int.not_lt.mp hm
      clear hm hk
      go_wp2_with fail
      go_ret
      exact ⟨by have := HM.out; subst this; rfl, rfl⟩
set_option maxHeartbeats 4000000 in
theorem rturned8_in (o t : Nat) (h1 : (1 : Int) ≤ o) (h2 : (o : Int) ≤ 7) (h4 : (t : Int) ≤ 7) (W : World) : Calls Tryz.prog 99 #[.int .i64 8, .int .i64 o, .int .i64 t] W
    fun e W' => e = .returned (.int .u64 (tws 8 o t 64 : Int)) ∧ W = W' := by
  have h3 : (0 : Int) ≤ t := by omega
  go_enter Tryz.func99, Tryz.ntmps99
  go_wp2_with fail
  go_loop [8, 9] (fun v i => ∃ k : Nat, k ≤ 64 ∧ i = .int .i64 k ∧ v = .int .u64 (tws 8 o t k : Int)) (fun _ i => 64 - (intOf i).toNat)
  case atStart => exact ⟨0, by omega, rfl, rfl⟩
  case round =>
    obtain ⟨k, hk, rfl, rfl⟩ := hrel
    by_cases hm : (k : Int) < 64
    · have hk' : k < 64 := by omega
      generalize hT : tws 8 o t k = T at *
      go_wp2_with fail
      all_goals
        rename_i hb
        refine ⟨⟨k + 1, by omega, by rw [Int.natCast_add]; rfl, ?_⟩, ?_⟩
      case roundEnd.refine_2 => show 64 - ((k : Int) + 1).toNat < 64 - (k : Int).toNat; omega
      case roundEnd.refine_2 => show 64 - ((k : Int) + 1).toNat < 64 - (k : Int).toNat; omega
      · first
        | (rw [← hT, step_no hb])
        | (rw [← hT]; exact congrArg _ (step_yes hk' hb))
      · first
        | (rw [← hT, step_no hb])
        | (rw [← hT]; exact congrArg _ (step_yes hk' hb))
    · have HM : Hid (k = 64) := by show _ = _; omega
      have hm' := Int.not_lt.mp hm
      clear hm hk
      go_wp2_with fail
      go_ret
      exact ⟨by have := HM.out; subst this; rfl, rfl⟩
set_option maxHeartbeats 4000000 in
theorem rturned16_in (o t : Nat) (h1 : (1 : Int) ≤ o) (h2 : (o : Int) ≤ 15) (h4 : (t : Int) ≤ 15) (W : World) : Calls Tryz.prog 99 #[.int .i64 16, .int .i64 o, .int .i64 t] W
    fun e W' => e = .returned (.int .u64 (tws 16 o t 64 : Int)) ∧ W = W' := by
  have h3 : (0 : Int) ≤ t := by omega
  go_enter Tryz.func99, Tryz.ntmps99
  go_wp2_with fail
  go_loop [8, 9] (fun v i => ∃ k : Nat, k ≤ 64 ∧ i = .int .i64 k ∧ v = .int .u64 (tws 16 o t k : Int)) (fun _ i => 64 - (intOf i).toNat)
  case atStart => exact ⟨0, by omega, rfl, rfl⟩
  case round =>
    obtain ⟨k, hk, rfl, rfl⟩ := hrel
    by_cases hm : (k : Int) < 64
    · have hk' : k < 64 := by omega
      generalize hT : tws 16 o t k = T at *
      go_wp2_with fail
      all_goals
        rename_i hb
        refine ⟨⟨k + 1, by omega, by rw [Int.natCast_add]; rfl, ?_⟩, ?_⟩
      case roundEnd.refine_2 => show 64 - ((k : Int) + 1).toNat < 64 - (k : Int).toNat; omega
      case roundEnd.refine_2 => show 64 - ((k : Int) + 1).toNat < 64 - (k : Int).toNat; omega
      · first
        | (rw [← hT, step_no hb])
        | (rw [← hT]; exact congrArg _ (step_yes hk' hb))
      · first
        | (rw [← hT, step_no hb])
        | (rw [← hT]; exact congrArg _ (step_yes hk' hb))
    · have HM : Hid (k = 64) := by show _ = _; omega
      have hm' := Int.not_lt.mp hm
      clear hm hk
      go_wp2_with fail
      go_ret
      exact ⟨by have := HM.out; subst this; rfl, rfl⟩
set_option maxHeartbeats 4000000 in
theorem rturned32_in (o t : Nat) (h1 : (1 : Int) ≤ o) (h2 : (o : Int) ≤ 31) (h4 : (t : Int) ≤ 31) (W : World) : Calls Tryz.prog 99 #[.int .i64 32, .int .i64 o, .int .i64 t] W
    fun e W' => e = .returned (.int .u64 (tws 32 o t 64 : Int)) ∧ W = W' := by
  have h3 : (0 : Int) ≤ t := by omega
  go_enter Tryz.func99, Tryz.ntmps99
  go_wp2_with fail
  go_loop [8, 9] (fun v i => ∃ k : Nat, k ≤ 64 ∧ i = .int .i64 k ∧ v = .int .u64 (tws 32 o t k : Int)) (fun _ i => 64 - (intOf i).toNat)
  case atStart => exact ⟨0, by omega, rfl, rfl⟩
  case round =>
    obtain ⟨k, hk, rfl, rfl⟩ := hrel
    by_cases hm : (k : Int) < 64
    · have hk' : k < 64 := by omega
      generalize hT : tws 32 o t k = T at *
      go_wp2_with fail
      all_goals
        rename_i hb
        refine ⟨⟨k + 1, by omega, by rw [Int.natCast_add]; rfl, ?_⟩, ?_⟩
      case roundEnd.refine_2 => show 64 - ((k : Int) + 1).toNat < 64 - (k : Int).toNat; omega
      case roundEnd.refine_2 => show 64 - ((k : Int) + 1).toNat < 64 - (k : Int).toNat; omega
      · first
        | (rw [← hT, step_no hb])
        | (rw [← hT]; exact congrArg _ (step_yes hk' hb))
      · first
        | (rw [← hT, step_no hb])
        | (rw [← hT]; exact congrArg _ (step_yes hk' hb))
    · have HM : Hid (k = 64) := by show _ = _; omega
      have hm' := Int.not_lt.mp hm
      clear hm hk
      go_wp2_with fail
      go_ret
      exact ⟨by have := HM.out; subst this; rfl, rfl⟩
set_option maxHeartbeats 4000000 in
theorem rturned64_in (o t : Nat) (h1 : (1 : Int) ≤ o) (h2 : (o : Int) ≤ 63) (h4 : (t : Int) ≤ 63) (W : World) : Calls Tryz.prog 99 #[.int .i64 64, .int .i64 o, .int .i64 t] W
    fun e W' => e = .returned (.int .u64 (tws 64 o t 64 : Int)) ∧ W = W' := by
  have h3 : (0 : Int) ≤ t := by omega
  go_enter Tryz.func99, Tryz.ntmps99
  go_wp2_with fail
  go_loop [8, 9] (fun v i => ∃ k : Nat, k ≤ 64 ∧ i = .int .i64 k ∧ v = .int .u64 (tws 64 o t k : Int)) (fun _ i => 64 - (intOf i).toNat)
  case atStart => exact ⟨0, by omega, rfl, rfl⟩
  case round =>
    obtain ⟨k, hk, rfl, rfl⟩ := hrel
    by_cases hm : (k : Int) < 64
    · have hk' : k < 64 := by omega
      generalize hT : tws 64 o t k = T at *
      go_wp2_with fail
      all_goals
        rename_i hb
        refine ⟨⟨k + 1, by omega, by rw [Int.natCast_add]; rfl, ?_⟩, ?_⟩
      case roundEnd.refine_2 => show 64 - ((k : Int) + 1).toNat < 64 - (k : Int).toNat; omega
      case roundEnd.refine_2 => show 64 - ((k : Int) + 1).toNat < 64 - (k : Int).toNat; omega
      · first
        | (rw [← hT, step_no hb])
        | (rw [← hT]; exact congrArg _ (step_yes hk' hb))
      · first
        | (rw [← hT, step_no hb])
        | (rw [← hT]; exact congrArg _ (step_yes hk' hb))
    · have HM : Hid (k = 64) := by show _ = _; omega
      have hm' := Int.not_lt.mp hm
      clear hm hk
      go_wp2_with fail
      go_ret
      exact ⟨by have := HM.out; subst this; rfl, rfl⟩
set_option maxHeartbeats 4000000 in
theorem rturned_out (a b c : Int) (ha : I64 a) (hb : I64 b) (hc : I64 c) (g : okT a b c = false) (W : World) : Calls Tryz.prog 99 #[.int .i64 a, .int .i64 b, .int .i64 c] W
    fun e W' => e = .returned (.int .u64 0) ∧ W = W' := by
  cases hs : isSz a
  · have ⟨e1, e2, e3, e4, e5, e6⟩ := isSz_not hs
    clear g hs
    go_enter Tryz.func99, Tryz.ntmps99
    go_wp2
    go_ret
    exact ⟨rfl, rfl⟩
  · unfold I64 at ha hb hc
    have hg : b < 1 ∨ a ≤ b ∨ c < 0 ∨ a ≤ c := by
      unfold okT at g; rw [hs, Bool.true_and] at g; have := of_decide_eq_false g; omega
    have hs' := isSz_cases hs
    clear hs g
    by_cases h1 : b < 1
    · clear hg
      rcases hs' with rfl | rfl | rfl | rfl | rfl | rfl
      all_goals
        go_enter Tryz.func99, Tryz.ntmps99
        go_wp2
        go_ret
        exact ⟨rfl, rfl⟩
    · have h1' := Int.not_lt.mp h1
      clear h1
      by_cases h2 : a ≤ b
      · clear hg
        rcases hs' with rfl | rfl | rfl | rfl | rfl | rfl
        all_goals
          go_enter Tryz.func99, Tryz.ntmps99
          go_wp2
          go_ret
          exact ⟨rfl, rfl⟩
      · have h2' : b ≤ a - 1 := by omega
        clear h2
        by_cases h3 : c < 0
        · clear hg
          rcases hs' with rfl | rfl | rfl | rfl | rfl | rfl
          all_goals
            go_enter Tryz.func99, Tryz.ntmps99
            go_wp2
            go_ret
            exact ⟨rfl, rfl⟩
        · have h3' := Int.not_lt.mp h3
          clear h3
          have h4 : a ≤ c := by omega
          clear hg
          rcases hs' with rfl | rfl | rfl | rfl | rfl | rfl
          all_goals
            go_enter Tryz.func99, Tryz.ntmps99
            go_wp2
            go_ret
            exact ⟨rfl, rfl⟩
theorem rturned_any (a b c : Int) (ha : I64 a) (hb : I64 b) (hc : I64 c) (W : World) : Calls Tryz.prog 99 #[.int .i64 a, .int .i64 b, .int .i64 c] W
    fun e W' => e = .returned (.int .u64 (TW a b c)) ∧ W = W' := by
  cases g : okT a b c
  · rw [show TW a b c = 0 by unfold TW; rw [g]; rfl]
    exact rturned_out a b c ha hb hc g W
  · have ⟨hs, h1, h2, h3, h4⟩ := okT_is g
    obtain ⟨o, rfl⟩ := Int.eq_ofNat_of_zero_le (show 0 ≤ b by omega)
    obtain ⟨t, rfl⟩ := Int.eq_ofNat_of_zero_le h3
    rw [show TW a o t = (tws a.toNat o t 64 : Int) by unfold TW; rw [g]; rfl]
    rcases isSz_cases hs with rfl | rfl | rfl | rfl | rfl | rfl
    · exact rturned2_in o t h1 (by omega) (by omega) W
    · exact rturned4_in o t h1 (by omega) (by omega) W
    · exact rturned8_in o t h1 (by omega) (by omega) W
    · exact rturned16_in o t h1 (by omega) (by omega) W
    · exact rturned32_in o t h1 (by omega) (by omega) W
    · exact rturned64_in o t h1 (by omega) (by omega) W
end Go.Proofs.YthcncbbnjbhdkaaGreatDoor

/- Walks of layer 1: fields of a word, ones, so many bits (cut out of stage 1's texts). -/
namespace Go.Proofs.YthcncbbnjbhdkaaGreatDoor
open Go.RowKit
open Cq (U32 U64 I64 inF field withF onesF fieldN withN ones fitsU)

theorem fieldOf_any (a n : Int) (ha : I64 a) (hn : I64 n) (W : World) : Calls Tryz.prog 246 #[.int .i64 a, .int .i64 n] W
    fun e W' => e = .returned (.int .u32 (onesF a n)) ∧ W = W' := by
  unfold I64 at ha hn
  cases g : inF a n
  · have hc := Cq.inF_not g
    rw [show onesF a n = 0 by unfold onesF; rw [g]; rfl]
    clear g
    by_cases h1 : a < 0
    · clear hc
      go_enter Tryz.func246, Tryz.ntmps246
      go_wp2
      go_ret
      exact ⟨rfl, rfl⟩
    · have h1' := Int.not_lt.mp h1
      clear h1
      by_cases h2 : 31 < a
      · clear hc
        go_enter Tryz.func246, Tryz.ntmps246
        go_wp2
        go_ret
        exact ⟨rfl, rfl⟩
      · have h2' := Int.not_lt.mp h2
        clear h2
        by_cases h3 : n < 1
        · clear hc
          go_enter Tryz.func246, Tryz.ntmps246
          go_wp2
          go_ret
          exact ⟨rfl, rfl⟩
        · have h3' := Int.not_lt.mp h3
          clear h3
          have h4 : 32 - a < n := by omega
          clear hc
          go_enter Tryz.func246, Tryz.ntmps246
          go_wp2
          go_ret
          exact ⟨rfl, rfl⟩
  · have ⟨h1, h2, h3, h4⟩ := Cq.inF_is g
    obtain ⟨k, rfl⟩ := Int.eq_ofNat_of_zero_le (show 0 ≤ n by omega)
    have hk : k ≤ 32 := by omega
    have HO := Lib.hid (Cq.ones_shift k hk)
    rw [show onesF a k = 2 ^ k - 1 by unfold onesF; rw [g]; rfl]
    clear g
    go_enter Tryz.func246, Tryz.ntmps246
    go_wp2
    go_ret
    exact ⟨by rw [HO.out]; rfl, rfl⟩
theorem field_any (v a n : Int) (hv : U32 v) (ha : I64 a) (hn : I64 n) (W : World) : Calls Tryz.prog 165 #[.int .u32 v, .int .i64 a, .int .i64 n] W
    fun e W' => e = .returned (.int .u32 (field v a n)) ∧ W = W' := by
  cases g : inF a n
  · rw [show field v a n = 0 by unfold field; rw [g]; rfl]
    have HO : Hid (onesF a n = 0) := by show onesF a n = 0; unfold onesF; rw [g]; rfl
    have HZ := Lib.hid Cq.and_zero32
    go_enter Tryz.func165, Tryz.ntmps165
    go_wp2_with fail
    refine (fieldOf_any _ _ ha hn _).mono ?_; rintro e w' ⟨rfl, rfl⟩
    rw [HO.out]
    go_wp2_with fail
    go_ret
    exact ⟨by rw [HZ.out]; rfl, rfl⟩
  · have ⟨h1, h2, h3, h4⟩ := Cq.inF_is g
    obtain ⟨k, rfl⟩ := Int.eq_ofNat_of_zero_le (show 0 ≤ n by omega)
    obtain ⟨j, rfl⟩ := Int.eq_ofNat_of_zero_le h1
    rw [show field v j k = (fieldN v.toNat j k : Int) by unfold field; rw [g]; rfl]
    have HO : Hid (onesF j k = 2 ^ k - 1) := by show onesF j k = _; unfold onesF; rw [g]; rfl
    have HZ := Lib.hid (Cq.code_field hv j k (by omega))
    have hj : j ≤ 31 := by omega
    go_enter Tryz.func165, Tryz.ntmps165
    go_wp2_with fail
    refine (fieldOf_any _ _ ha hn _).mono ?_; rintro e w' ⟨rfl, rfl⟩
    rw [HO.out]
    go_wp2_with fail
    go_ret
    exact ⟨by rw [HZ.out]; rfl, rfl⟩
theorem with_any (v a n f : Int) (hv : U32 v) (hf : U32 f) (ha : I64 a) (hn : I64 n) (W : World) : Calls Tryz.prog 164 #[.int .u32 v, .int .i64 a, .int .i64 n, .int .u32 f] W
    fun e W' => e = .returned (.int .u32 (withF v a n f)) ∧ W = W' := by
  cases g : inF a n
  · rw [show withF v a n f = v by unfold withF; rw [g]; rfl]
    have HO : Hid (onesF a n = 0) := by show onesF a n = 0; unfold onesF; rw [g]; rfl
    have HZ := Lib.hid Cq.and_zero32
    have HA := Lib.hid (Cq.andNot_zero32 hv)
    have HR := Lib.hid (Cq.or_zero32 hv)
    go_enter Tryz.func164, Tryz.ntmps164
    go_wp2_with fail
    refine (fieldOf_any _ _ ha hn _).mono ?_; rintro e w' ⟨rfl, rfl⟩
    rw [HO.out]
    go_wp2_with fail
    go_ret
    exact ⟨by rw [HZ.out, HA.out, Int.zero_mul, Int.zero_emod, HR.out]; rfl, rfl⟩
  · have ⟨h1, h2, h3, h4⟩ := Cq.inF_is g
    obtain ⟨k, rfl⟩ := Int.eq_ofNat_of_zero_le (show 0 ≤ n by omega)
    obtain ⟨j, rfl⟩ := Int.eq_ofNat_of_zero_le h1
    rw [show withF v j k f = (withN v.toNat j k f.toNat : Int) by unfold withF; rw [g]; rfl]
    have HO : Hid (onesF j k = 2 ^ k - 1) := by show onesF j k = _; unfold onesF; rw [g]; rfl
    have hz := Cq.code_with hv hf j k (by omega)
    rw [Cq.wrap32u, Cq.wrap32u] at hz
    have HZ := Lib.hid hz
    clear hz
    have hj : j ≤ 31 := by omega
    go_enter Tryz.func164, Tryz.ntmps164
    go_wp2_with fail
    refine (fieldOf_any _ _ ha hn _).mono ?_; rintro e w' ⟨rfl, rfl⟩
    rw [HO.out]
    go_wp2_with fail
    go_ret
    exact ⟨by rw [HZ.out]; rfl, rfl⟩
theorem ones_any (v : Int) (hv : U64 v) (W : World) : Calls Tryz.prog 95 #[.int .u64 v] W fun e W' => e = .returned (.int .i64 (ones v : Int)) ∧ W = W' := by
  have hl := Cq.ones_le v
  go_enter Tryz.func95, Tryz.ntmps95
  go_wp2_with fail
  go_loop [0, 3] (fun x n => ∃ (y : Int) (k : Nat), U64 y ∧ x = .int .u64 y ∧ n = .int .i64 k ∧ k + ones y = ones v) (fun x _ => ones (intOf x))
  case atStart => exact ⟨v, 0, hv, rfl, rfl, by omega⟩
  case round =>
    obtain ⟨y, k, hy, rfl, rfl, hk⟩ := hrel
    have hyl := Cq.ones_le y
    have hy0 := hy.1
    have HK := Lib.hid hk
    have hkb : k ≤ 64 := by omega
    clear hk hyl
    by_cases h0 : y = 0
    · subst h0
      have H0 := Lib.hid Cq.ones_zero
      go_wp2_with fail
      go_ret
      exact ⟨by have : k = ones v := by have := HK.out; have := H0.out; omega
                subst this; rfl, rfl⟩
    · have hpos : 0 < y := by omega
      have hne : (y == 0) = false := by simpa using h0
      have hne' : (y != 0) = true := by simpa using h0
      have HS := Lib.hid (Cq.ones_less' hy hpos)
      clear h0
      go_wp2_with fail
      go_round
      case rel => exact ⟨_, k + 1, Cq.bits_u64 _ _ _, rfl, by go_num, by have := HS.out; have := HK.out; omega⟩
      case measure =>
        have := HS.out
        show ones (bits .and .u64 y (IntKind.u64.wrap (y - 1))) < ones y
        omega
theorem fitsU_any (v n : Int) (hv : U64 v) (hn : I64 n) (W : World) : Calls Tryz.prog 250 #[.int .u64 v, .int .i64 n] W
    fun e W' => e = .returned (.bool (fitsU v n)) ∧ W = W' := by
  unfold I64 at hn
  by_cases h1 : n < 1
  · rw [show fitsU v n = false by unfold fitsU; rw [decide_eq_false (by omega)]; rfl]
    go_enter Tryz.func250, Tryz.ntmps250
    go_wp2
    go_ret
    exact ⟨by simp, rfl⟩
  · by_cases h2 : 64 < n
    · rw [show fitsU v n = false by unfold fitsU; rw [decide_eq_false (by omega)]; rfl]
      have h1' := Int.not_lt.mp h1
      clear h1
      go_enter Tryz.func250, Tryz.ntmps250
      go_wp2
      go_ret
      exact ⟨by simp, rfl⟩
    · obtain ⟨k, rfl⟩ : ∃ k : Nat, n = (k : Int) := ⟨n.toNat, by omega⟩
      have hk : k ≤ 64 := by omega
      have hv0 := hv.1
      have HF : Hid (fitsU v k = (v / 2 ^ k == 0)) := by
        show fitsU v k = _
        unfold fitsU; rw [decide_eq_true (by omega), Bool.true_and]; rfl
      have h1' := Int.not_lt.mp h1
      have h2' := Int.not_lt.mp h2
      clear h1 h2 hn
      go_enter Tryz.func250, Tryz.ntmps250
      go_wp2
      go_ret
      exact ⟨by rw [HF.out]; simp, rfl⟩
end Go.Proofs.YthcncbbnjbhdkaaGreatDoor

/- Worlds that only draws part; a call that draws within a region that reads. -/
namespace Go.Proofs.YthcncbbnjbhdkaaGreatDoor
open Go.RowKit

def Drawn (W W' : World) : Prop := ∃ n, W' = W.drewN n
theorem quiet_left {P : Program} {f : FuncId} {args : Array Value} {w : World} {n : Nat} {v : Value}
    (h : Calls P f args (w.drewN n) fun e w' => e = .returned v ∧ w.drewN n = w') : Calls P f args (w.drewN n) fun e w'' => e = .returned v ∧ ∃ m, w'' = w.drewN m :=
  h.mono fun _ _ ⟨he, hm⟩ => ⟨he, n, hm.symm⟩
theorem Drawn.below {W W' : World} (h : Drawn W W') : Below W.heap.size W W' := by
  obtain ⟨n, rfl⟩ := h
  induction n with
  | zero => exact Below.refl _ _
  | succ n ih => exact Below.drew ih
theorem Drawn.refl (W : World) : Drawn W W := ⟨0, rfl⟩
theorem Drawn.drewN {W W' : World} (h : Drawn W W') (n : Nat) : Drawn W (W'.drewN n) := by
  obtain ⟨m, rfl⟩ := h; exact ⟨m + n, World.drewN_drewN _ _ _⟩
end Go.Proofs.YthcncbbnjbhdkaaGreatDoor
