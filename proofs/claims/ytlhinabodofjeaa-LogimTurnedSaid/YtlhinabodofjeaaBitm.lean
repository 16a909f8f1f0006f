/- Plain mathematics of layer 1: words of 64 bits as integers; what the widths, sums, differences, fields, turns and products of the document come to. No program is named here. -/
import Derived.WalkKit
import Derived.Laws.BitsAllLaws
namespace Cq
open Go

/-- a word of 64 bits -/
def U64 (v : Int) : Prop := 0 ≤ v ∧ v < 18446744073709551616
/-- a number of Go's int -/
def I64 (v : Int) : Prop := -9223372036854775808 ≤ v ∧ v ≤ 9223372036854775807
def U32 (v : Int) : Prop := 0 ≤ v ∧ v < 4294967296
theorem U64.bd {v : Int} (h : U64 v) : 0 ≤ v ∧ v < 18446744073709551616 := h
theorem I64.bd {v : Int} (h : I64 v) : -9223372036854775808 ≤ v ∧ v ≤ 9223372036854775807 := h
theorem U32.bd {v : Int} (h : U32 v) : 0 ≤ v ∧ v < 4294967296 := h
theorem u64_of_wf {v : Int} (h : (Lit.int .u64 v).wf = true) : U64 v := by
  simp [Lit.wf, IntKind.min, IntKind.max, IntKind.bits, IntKind.signed] at h; unfold U64; omega
theorem i64_of_wf {v : Int} (h : (Lit.int .i64 v).wf = true) : I64 v := by
  simp [Lit.wf, IntKind.min, IntKind.max, IntKind.bits, IntKind.signed] at h; unfold I64; omega
theorem u32_of_wf {v : Int} (h : (Lit.int .u32 v).wf = true) : U32 v := by
  simp [Lit.wf, IntKind.min, IntKind.max, IntKind.bits, IntKind.signed] at h; unfold U32; omega

def isW (w : Int) : Bool := w == 1 || w == 2 || w == 4 || w == 8
/-- the bits of a width; 0 for what is none -/
def nb (w : Int) : Nat := if w = 1 then 8 else if w = 2 then 16 else if w = 4 then 32 else if w = 8 then 64 else 0
theorem isW_cases {w : Int} (h : isW w = true) : w = 1 ∨ w = 2 ∨ w = 4 ∨ w = 8 := by
  simp [isW] at h; omega
theorem nb_not {w : Int} (h : isW w = false) : nb w = 0 := by
  simp [isW] at h; simp [nb, h]
theorem nb_is {w : Int} (h : isW w = true) : (nb w : Int) = 8 * w ∧ 8 ≤ nb w ∧ nb w ≤ 64 := by
  rcases isW_cases h with rfl | rfl | rfl | rfl <;> simp [nb]
theorem nb_le (w : Int) : nb w ≤ 64 := by
  unfold nb; repeat' split
  all_goals omega
theorem nb_five (w : Int) : nb w = 0 ∨ nb w = 8 ∨ nb w = 16 ∨ nb w = 32 ∨ nb w = 64 := by
  unfold nb; repeat' split
  all_goals omega

/-- the word as 64 bits -/
def B (v : Int) : BitVec 64 := BitVec.ofInt 64 v
theorem B_nat {v : Int} (h : U64 v) : (((B v).toNat : Nat) : Int) = v := by
  unfold U64 at h; unfold B; rw [BitVec.toNat_ofInt]; omega
theorem B_toNat {v : Int} (h : U64 v) : (B v).toNat = v.toNat := by
  have := B_nat h; omega
theorem eq_of_B {a b : Int} (ha : U64 a) (hb : U64 b) (h : B a = B b) : a = b := by
  rw [← B_nat ha, ← B_nat hb, h]
theorem B_of (x : BitVec 64) : B (x.toNat : Int) = x := by
  unfold B; rw [BitVec.ofInt_natCast]; simp
theorem u64_toNat (x : BitVec 64) : U64 (x.toNat : Int) := by
  have := x.isLt; unfold U64; omega
theorem u64_wrap (n : Int) : U64 (IntKind.u64.wrap n) := by
  rw [IntKind.wrap_u64]; unfold U64; omega
theorem wrap_of_u64 {n : Int} (h : U64 n) : IntKind.u64.wrap n = n := by
  rw [IntKind.wrap_u64]; unfold U64 at h; omega
theorem B_wrap (n : Int) : B (IntKind.u64.wrap n) = B n := by
  apply BitVec.eq_of_toNat_eq
  unfold B; rw [IntKind.wrap_u64, BitVec.toNat_ofInt, BitVec.toNat_ofInt]; omega
theorem bits_u64 (op : BinOp) (x y : Int) : U64 (bits op .u64 x y) := u64_wrap _
theorem B_add (a b : Int) : B (a + b) = B a + B b := by unfold B; rw [BitVec.ofInt_add]
theorem B_neg (a : Int) : B (-a) = - B a := by unfold B; rw [BitVec.ofInt_neg]
theorem B_sub (a b : Int) : B (a - b) = B a - B b := by
  rw [Int.sub_eq_add_neg, B_add, B_neg, BitVec.sub_eq_add_neg]
theorem B_and (x y : Int) : B (bits .and .u64 x y) = B x &&& B y := by
  show B (IntKind.u64.wrap ((B x &&& B y).toNat : Int)) = _
  rw [B_wrap, B_of]
theorem B_or (x y : Int) : B (bits .or .u64 x y) = B x ||| B y := by
  show B (IntKind.u64.wrap ((B x ||| B y).toNat : Int)) = _
  rw [B_wrap, B_of]
theorem B_xor (x y : Int) : B (bits .xor .u64 x y) = B x ^^^ B y := by
  show B (IntKind.u64.wrap ((B x ^^^ B y).toNat : Int)) = _
  rw [B_wrap, B_of]
theorem B_andNot (x y : Int) : B (bits .andNot .u64 x y) = B x &&& ~~~ B y := by
  show B (IntKind.u64.wrap ((B x &&& ~~~ B y).toNat : Int)) = _
  rw [B_wrap, B_of]
theorem B_ones : B 18446744073709551615 = BitVec.allOnes 64 := by decide
theorem B_not (x : Int) : B (bits .xor .u64 18446744073709551615 x) = ~~~ B x := by
  rw [B_xor, B_ones, BitVec.allOnes_xor]

/-- the number of a width -/
def zx (v w : Int) : Int := v % 2 ^ nb w
def mask (w : Int) : Int := 2 ^ nb w - 1
/-- its highest bit -/
def neg (v w : Int) : Bool := isW w && (B v).getLsbD (nb w - 1)
/-- the same with a sign, in 64 bits -/
def sx (v w : Int) : Int := if neg v w then zx v w + (18446744073709551616 - 2 ^ nb w) else zx v w
def oneI (c : Bool) : Int := if c then 1 else 0

theorem pow_le (n : Nat) (h : n ≤ 64) : (0 : Int) < 2 ^ n ∧ (2 : Int) ^ n ≤ 18446744073709551616 := by
  refine ⟨Int.pow_pos (by decide), ?_⟩
  have := Nat.pow_le_pow_right (n := 2) (by decide) h
  have e : ((2 ^ n : Nat) : Int) = (2 : Int) ^ n := by simp
  have e2 : (2 : Nat) ^ 64 = 18446744073709551616 := by decide
  omega
theorem zx_u64 {v : Int} (w : Int) : U64 (zx v w) := by
  have ⟨p, q⟩ := pow_le (nb w) (nb_le w)
  unfold U64 zx
  exact ⟨Int.emod_nonneg _ (by omega), by have := Int.emod_lt_of_pos v p; omega⟩
theorem mask_u64 (w : Int) : U64 (mask w) := by
  have ⟨p, q⟩ := pow_le (nb w) (nb_le w); unfold U64 mask; omega
theorem zx_lt (v w : Int) : 0 ≤ zx v w ∧ zx v w < 2 ^ nb w := by
  have ⟨p, q⟩ := pow_le (nb w) (nb_le w)
  exact ⟨Int.emod_nonneg _ (by omega), Int.emod_lt_of_pos v p⟩
theorem sx_u64 {v : Int} (w : Int) : U64 (sx v w) := by
  have ⟨p, q⟩ := pow_le (nb w) (nb_le w)
  have ⟨r, s⟩ := zx_lt v w
  unfold sx U64; split <;> omega
theorem zx_zx (v w : Int) : zx (zx v w) w = zx v w := by unfold zx; rw [Int.emod_emod_of_dvd _ (Int.dvd_refl _)]
theorem pow_dvd64 (n : Nat) (h : n ≤ 64) : (2 : Int) ^ n ∣ 18446744073709551616 :=
  ⟨2 ^ (64 - n), by rw [← Int.pow_add]; rw [show n + (64 - n) = 64 from by omega]; decide⟩
theorem zx_wrap (v w : Int) : zx (IntKind.u64.wrap v) w = zx v w := by
  unfold zx; rw [IntKind.wrap_u64, Int.emod_emod_of_dvd _ (pow_dvd64 _ (nb_le w))]
theorem zx_sx (v w : Int) : zx (sx v w) w = zx v w := by
  unfold sx
  split
  · obtain ⟨k, hk⟩ := pow_dvd64 (nb w) (nb_le w)
    rw [hk]
    have e : zx v w + (2 ^ nb w * k - 2 ^ nb w) = zx v w + 2 ^ nb w * (k - 1) := by rw [Int.mul_sub, Int.mul_one]
    rw [e]
    show (zx v w + 2 ^ nb w * (k - 1)) % 2 ^ nb w = _
    rw [Int.add_mul_emod_self_left]
    exact zx_zx v w
  · exact zx_zx v w
/-- a bit of a word, and that of its number -/
theorem bit_zx {v : Int} (w : Int) (i : Nat) : (B (zx v w)).getLsbD i = (decide (i < nb w) && (B v).getLsbD i) := by
  have hz := B_toNat (zx_u64 (v := v) w)
  rw [BitVec.getLsbD, hz]
  have e : (zx v w).toNat = (B v).toNat % 2 ^ nb w := by
    have h : zx v w = (((B v).toNat % 2 ^ nb w : Nat) : Int) := by
      have hv : zx v w = zx (IntKind.u64.wrap v) w := (zx_wrap v w).symm
      rw [hv, ← B_nat (u64_wrap v), B_wrap]
      unfold zx
      rw [Int.natCast_emod]; simp
    rw [h]; rfl
  rw [e, Nat.testBit_mod_two_pow]; rfl
theorem neg_zx (v w : Int) : neg (zx v w) w = neg v w := by
  unfold neg
  cases h : isW w
  · rfl
  · have ⟨_, h2, _⟩ := nb_is h
    rw [bit_zx]; simp; omega
theorem neg_sx (v w : Int) : neg (sx v w) w = neg v w := by
  rw [← neg_zx (sx v w), zx_sx, neg_zx]
theorem sx_zx (v w : Int) : sx (zx v w) w = sx v w := by
  unfold sx; rw [neg_zx, zx_zx]
theorem and_mask (v w : Int) : bits .and .u64 v (mask w) = zx v w := by
  apply eq_of_B (bits_u64 _ _ _) (zx_u64 w)
  rw [B_and]
  apply BitVec.eq_of_getLsbD_eq
  intro i hi
  rw [BitVec.getLsbD_and, bit_zx]
  have e : (B (mask w)).getLsbD i = decide (i < nb w) := by
    rw [BitVec.getLsbD, B_toNat (mask_u64 w)]
    have h : mask w = ((2 ^ nb w - 1 : Nat) : Int) := by
      have ⟨p, _⟩ := pow_le (nb w) (nb_le w)
      have h1 : 1 ≤ 2 ^ nb w := Nat.one_le_two_pow
      rw [Int.ofNat_sub h1]; simp [mask]
    rw [h]; simp
  rw [e, Bool.and_comm]
theorem or_notMask (v w : Int) (h : neg v w = true) : bits .or .u64 v (bits .xor .u64 18446744073709551615 (mask w)) = sx v w := by
  apply eq_of_B (bits_u64 _ _ _) (sx_u64 w)
  rw [B_or, B_not]
  have hs : sx v w = zx v w + (18446744073709551616 - 2 ^ nb w) := by unfold sx; rw [if_pos h]
  have ⟨p, q⟩ := pow_le (nb w) (nb_le w)
  have hm : mask w = 2 ^ nb w - 1 := rfl
  have hB : B (sx v w) = B (zx v w) + ~~~ B (mask w) := by
    rw [hs, B_add, BitVec.not_eq_neg_add]
    congr 1
    rw [hm, ← B_neg]
    have e1 : (1#64) = B 1 := by decide
    rw [e1, ← B_sub]
    have e2 : B (18446744073709551616 - 2 ^ nb w) = B (IntKind.u64.wrap (18446744073709551616 - 2 ^ nb w)) := (B_wrap _).symm
    have e3 : B (-(2 ^ nb w - 1) - 1) = B (IntKind.u64.wrap (-(2 ^ nb w - 1) - 1)) := (B_wrap _).symm
    rw [e2, e3, IntKind.wrap_u64, IntKind.wrap_u64]
    congr 1; omega
  rw [hB, ← and_mask, B_and]
  have hd : (B v &&& B (mask w)) &&& ~~~ B (mask w) = 0#64 := by
    apply BitVec.eq_of_getLsbD_eq; intro i hi; simp [hi]
  rw [BitVec.add_eq_or_of_and_eq_zero _ _ hd]
  apply BitVec.eq_of_getLsbD_eq; intro i hi; simp [hi]
  generalize (B v)[i] = p; generalize (B (mask w))[i] = q
  cases p <;> cases q <;> rfl
end Cq
