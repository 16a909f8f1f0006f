/- Plain mathematics of layer 1: words of 64 bits as integers; what the widths, sums, differences, fields, turns and products of the document come to. No program is named here. -/
import Derived.WalkKit
import Derived.Laws.BitsAllLaws
namespace Cq
open Go

/-- a word of 64 bits -/
def U64 (v : Int) : Prop := 0 ≤ v ∧ v < 18446744073709551616
/-- a number of Go's int -/
def I64 (v : Int) : Prop := -9223372036854775808 ≤ v ∧ v ≤ 9223372036854775807
def U32 (v : Int) : Prop := 0 ≤ v ∧ v < 4294967296
theorem U64.bd {v : Int} (h : U64 v) : 0 ≤ v ∧ v < 18446744073709551616 := h
theorem I64.bd {v : Int} (h : I64 v) : -9223372036854775808 ≤ v ∧ v ≤ 9223372036854775807 := h
theorem U32.bd {v : Int} (h : U32 v) : 0 ≤ v ∧ v < 4294967296 := h
theorem u64_of_wf {v : Int} (h : (Lit.int .u64 v).wf = true) : U64 v := by
  simp [Lit.wf, IntKind.min, IntKind.max, IntKind.bits, IntKind.signed] at h; unfold U64; omega
theorem i64_of_wf {v : Int} (h : (Lit.int .i64 v).wf = true) : I64 v := by
  simp [Lit.wf, IntKind.min, IntKind.max, IntKind.bits, IntKind.signed] at h; unfold I64; omega
theorem u32_of_wf {v : Int} (h : (Lit.int .u32 v).wf = true) : U32 v := by
  simp [Lit.wf, IntKind.min, IntKind.max, IntKind.bits, IntKind.signed] at h; unfold U32; omega

def isW (w : Int) : Bool := w == 1 || w == 2 || w == 4 || w == 8
/-- the bits of a width; 0 for what is none -/
def nb (w : Int) : Nat := if w = 1 then 8 else if w = 2 then 16 else if w = 4 then 32 else if w = 8 then 64 else 0
theorem isW_cases {w : Int} (h : isW w = true) : w = 1 ∨ w = 2 ∨ w = 4 ∨ w = 8 := by
  simp [isW] at h; omega
theorem nb_not {w : Int} (h : isW w = false) : nb w = 0 := by
  simp [isW] at h; simp [nb, h]
theorem nb_is {w : Int} (h : isW w = true) : (nb w : Int) = 8 * w ∧ 8 ≤ nb w ∧ nb w ≤ 64 := by
  rcases isW_cases h with rfl | rfl | rfl | rfl <;> simp [nb]
theorem nb_le (w : Int) : nb w ≤ 64 := by
  unfold nb; repeat' split
  all_goals omega
theorem nb_five (w : Int) : nb w = 0 ∨ nb w = 8 ∨ nb w = 16 ∨ nb w = 32 ∨ nb w = 64 := by
  unfold nb; repeat' split
  all_goals omega

/-- the word as 64 bits -/
def B (v : Int) : BitVec 64 := BitVec.ofInt 64 v
theorem B_nat {v : Int} (h : U64 v) : (((B v).toNat : Nat) : Int) = v := by
  unfold U64 at h; unfold B; rw [BitVec.toNat_ofInt]; omega
theorem B_toNat {v : Int} (h : U64 v) : (B v).toNat = v.toNat := by
  have := B_nat h; omega
theorem eq_of_B {a b : Int} (ha : U64 a) (hb : U64 b) (h : B a = B b) : a = b := by
  rw [← B_nat ha, ← B_nat hb, h]
theorem B_of (x : BitVec 64) : B (x.toNat : Int) = x := by
  unfold B; rw [BitVec.ofInt_natCast]; simp
theorem u64_toNat (x : BitVec 64) : U64 (x.toNat : Int) := by
  have := x.isLt; unfold U64; omega
theorem u64_wrap (n : Int) : U64 (IntKind.u64.wrap n) := by
  rw [IntKind.wrap_u64]; unfold U64; omega
theorem wrap_of_u64 {n : Int} (h : U64 n) : IntKind.u64.wrap n = n := by
  rw [IntKind.wrap_u64]; unfold U64 at h; omega
theorem B_wrap (n : Int) : B (IntKind.u64.wrap n) = B n := by
  apply BitVec.eq_of_toNat_eq
  unfold B; rw [IntKind.wrap_u64, BitVec.toNat_ofInt, BitVec.toNat_ofInt]; omega
theorem bits_u64 (op : BinOp) (x y : Int) : U64 (bits op .u64 x y) := u64_wrap _
theorem B_add (a b : Int) : B (a + b) = B a + B b := by unfold B; rw [BitVec.ofInt_add]
theorem B_neg (a : Int) : B (-a) = - B a := by unfold B; rw [BitVec.ofInt_neg]
theorem B_sub (a b : Int) : B (a - b) = B a - B b := by
  rw [Int.sub_eq_add_neg, B_add, B_neg, BitVec.sub_eq_add_neg]
theorem B_and (x y : Int) : B (bits .and .u64 x y) = B x &&& B y := by
  show B (IntKind.u64.wrap ((B x &&& B y).toNat : Int)) = _
  rw [B_wrap, B_of]
theorem B_or (x y : Int) : B (bits .or .u64 x y) = B x ||| B y := by
  show B (IntKind.u64.wrap ((B x ||| B y).toNat : Int)) = _
  rw [B_wrap, B_of]
theorem B_xor (x y : Int) : B (bits .xor .u64 x y) = B x ^^^ B y := by
  show B (IntKind.u64.wrap ((B x ^^^ B y).toNat : Int)) = _
  rw [B_wrap, B_of]
theorem B_andNot (x y : Int) : B (bits .andNot .u64 x y) = B x &&& ~~~ B y := by
  show B (IntKind.u64.wrap ((B x &&& ~~~ B y).toNat : Int)) = _
  rw [B_wrap, B_of]
theorem B_ones : B 18446744073709551615 = BitVec.allOnes 64 := by decide
theorem B_not (x : Int) : B (bits .xor .u64 18446744073709551615 x) = ~~~ B x := by
  rw [B_xor, B_ones, BitVec.allOnes_xor]

/-- the number of a width -/
def zx (v w : Int) : Int := v % 2 ^ nb w
def mask (w : Int) : Int := 2 ^ nb w - 1
/-- its highest bit -/
def neg (v w : Int) : Bool := isW w && (B v).getLsbD (nb w - 1)
/-- the same with a sign, in 64 bits -/
def sx (v w : Int) : Int := if neg v w then zx v w + (18446744073709551616 - 2 ^ nb w) else zx v w
def oneI (c : Bool) : Int := if c then 1 else 0

theorem pow_le (n : Nat) (h : n ≤ 64) : (0 : Int) < 2 ^ n ∧ (2 : Int) ^ n ≤ 18446744073709551616 := by
  refine ⟨Int.pow_pos (by decide), ?_⟩
  have := Nat.pow_le_pow_right (n := 2) (by decide) h
  have e : ((2 ^ n : Nat) : Int) = (2 : Int) ^ n := by simp
  have e2 : (2 : Nat) ^ 64 = 18446744073709551616 := by decide
  omega
theorem zx_u64 {v : Int} (w : Int) : U64 (zx v w) := by
  have ⟨p, q⟩ := pow_le (nb w) (nb_le w)
  unfold U64 zx
  exact ⟨Int.emod_nonneg _ (by omega), by have := Int.emod_lt_of_pos v p; omega⟩
theorem mask_u64 (w : Int) : U64 (mask w) := by
  have ⟨p, q⟩ := pow_le (nb w) (nb_le w); unfold U64 mask; omega
theorem zx_lt (v w : Int) : 0 ≤ zx v w ∧ zx v w < 2 ^ nb w := by
  have ⟨p, q⟩ := pow_le (nb w) (nb_le w)
  exact ⟨Int.emod_nonneg _ (by omega), Int.emod_lt_of_pos v p⟩
theorem sx_u64 {v : Int} (w : Int) : U64 (sx v w) := by
  have ⟨p, q⟩ := pow_le (nb w) (nb_le w)
  have ⟨r, s⟩ := zx_lt v w
  unfold sx U64; split <;> omega
theorem zx_zx (v w : Int) : zx (zx v w) w = zx v w := by unfold zx; rw [Int.emod_emod_of_dvd _ (Int.dvd_refl _)]
theorem pow_dvd64 (n : Nat) (h : n ≤ 64) : (2 : Int) ^ n ∣ 18446744073709551616 :=
  ⟨2 ^ (64 - n), by rw [← Int.pow_add]; rw [show n + (64 - n) = 64 from by omega]; decide⟩
theorem zx_wrap (v w : Int) : zx (IntKind.u64.wrap v) w = zx v w := by
  unfold zx; rw [IntKind.wrap_u64, Int.emod_emod_of_dvd _ (pow_dvd64 _ (nb_le w))]
theorem zx_sx (v w : Int) : zx (sx v w) w = zx v w := by
  unfold sx
  split
  · obtain ⟨k, hk⟩ := pow_dvd64 (nb w) (nb_le w)
    rw [hk]
    have e : zx v w + (2 ^ nb w * k - 2 ^ nb w) = zx v w + 2 ^ nb w * (k - 1) := by rw [Int.mul_sub, Int.mul_one]
    rw [e]
    show (zx v w + 2 ^ nb w * (k - 1)) % 2 ^ nb w = _
    rw [Int.add_mul_emod_self_left]
    exact zx_zx v w
  · exact zx_zx v w
/-- a bit of a word, and that of its number -/
theorem bit_zx {v : Int} (w : Int) (i : Nat) : (B (zx v w)).getLsbD i = (decide (i < nb w) && (B v).getLsbD i) := by
  have hz := B_toNat (zx_u64 (v := v) w)
  rw [BitVec.getLsbD, hz]
  have e : (zx v w).toNat = (B v).toNat % 2 ^ nb w := by
    have h : zx v w = (((B v).toNat % 2 ^ nb w : Nat) : Int) := by
      have hv : zx v w = zx (IntKind.u64.wrap v) w := (zx_wrap v w).symm
      rw [hv, ← B_nat (u64_wrap v), B_wrap]
      unfold zx
      rw [Int.natCast_emod]; simp
    rw [h]; rfl
  rw [e, Nat.testBit_mod_two_pow]; rfl
theorem neg_zx (v w : Int) : neg (zx v w) w = neg v w := by
  unfold neg
  cases h : isW w
  · rfl
  · have ⟨_, h2, _⟩ := nb_is h
    rw [bit_zx]; simp; omega
theorem neg_sx (v w : Int) : neg (sx v w) w = neg v w := by
  rw [← neg_zx (sx v w), zx_sx, neg_zx]
theorem sx_zx (v w : Int) : sx (zx v w) w = sx v w := by
  unfold sx; rw [neg_zx, zx_zx]
theorem and_mask (v w : Int) : bits .and .u64 v (mask w) = zx v w := by
  apply eq_of_B (bits_u64 _ _ _) (zx_u64 w)
  rw [B_and]
  apply BitVec.eq_of_getLsbD_eq
  intro i hi
  rw [BitVec.getLsbD_and, bit_zx]
  have e : (B (mask w)).getLsbD i = decide (i < nb w) := by
    rw [BitVec.getLsbD, B_toNat (mask_u64 w)]
    have h : mask w = ((2 ^ nb w - 1 : Nat) : Int) := by
      have ⟨p, _⟩ := pow_le (nb w) (nb_le w)
      have h1 : 1 ≤ 2 ^ nb w := Nat.one_le_two_pow
      rw [Int.ofNat_sub h1]; simp [mask]
    rw [h]; simp
  rw [e, Bool.and_comm]
theorem or_notMask (v w : Int) (h : neg v w = true) : bits .or .u64 v (bits .xor .u64 18446744073709551615 (mask w)) = sx v w := by
  apply eq_of_B (bits_u64 _ _ _) (sx_u64 w)
  rw [B_or, B_not]
  have hs : sx v w = zx v w + (18446744073709551616 - 2 ^ nb w) := by unfold sx; rw [if_pos h]
  have ⟨p, q⟩ := pow_le (nb w) (nb_le w)
  have hm : mask w = 2 ^ nb w - 1 := rfl
  have hB : B (sx v w) = B (zx v w) + ~~~ B (mask w) := by
    rw [hs, B_add, BitVec.not_eq_neg_add]
    congr 1
    rw [hm, ← B_neg]
    have e1 : (1#64) = B 1 := by decide
    rw [e1, ← B_sub]
    have e2 : B (18446744073709551616 - 2 ^ nb w) = B (IntKind.u64.wrap (18446744073709551616 - 2 ^ nb w)) := (B_wrap _).symm
    have e3 : B (-(2 ^ nb w - 1) - 1) = B (IntKind.u64.wrap (-(2 ^ nb w - 1) - 1)) := (B_wrap _).symm
    rw [e2, e3, IntKind.wrap_u64, IntKind.wrap_u64]
    congr 1; omega
  rw [hB, ← and_mask, B_and]
  have hd : (B v &&& B (mask w)) &&& ~~~ B (mask w) = 0#64 := by
    apply BitVec.eq_of_getLsbD_eq; intro i hi; simp [hi]
  rw [BitVec.add_eq_or_of_and_eq_zero _ _ hd]
  apply BitVec.eq_of_getLsbD_eq; intro i hi; simp [hi]
  generalize (B v)[i] = p; generalize (B (mask w))[i] = q
  cases p <;> cases q <;> rfl
end Cq

/- Plain mathematics of layer 1: sums and differences with carries. -/
namespace Cq
open Go

theorem zx_step (v : Int) (h : 0 ≤ v) (k : Nat) : v % 2 ^ k + v / 2 ^ k % 2 * 2 ^ k = v % 2 ^ (k + 1) := by
  obtain ⟨n, rfl⟩ := Int.eq_ofNat_of_zero_le h
  have := @Nat.mod_pow_succ n 2 k
  have e : ((n % 2 ^ (k + 1) : Nat) : Int) = ((n % 2 ^ k + 2 ^ k * (n / 2 ^ k % 2) : Nat) : Int) := by rw [this]
  simp only [Int.natCast_emod, Int.natCast_add, Int.natCast_mul, Int.natCast_pow, Int.natCast_ediv] at e
  have e2 : ((2 : Nat) : Int) = 2 := rfl
  rw [e2] at e
  rw [e, Int.mul_comm]
theorem bit_nat (n k : Nat) : ((n : Int) / 2 ^ k % 2) = oneI (n.testBit k) := by
  have h : ((n / 2 ^ k % 2 : Nat) : Int) = (n : Int) / 2 ^ k % 2 := by
    simp only [Int.natCast_emod, Int.natCast_ediv, Int.natCast_pow]; rfl
  rw [← h, Nat.testBit_eq_decide_div_mod_eq]
  unfold oneI
  by_cases g : n / 2 ^ k % 2 = 1
  · rw [g]; rfl
  · have : n / 2 ^ k % 2 = 0 := by omega
    rw [this]; rfl
theorem bit_B (v : Int) (h : 0 ≤ v) (k : Nat) (hk : k < 64) : v / 2 ^ k % 2 = oneI ((B v).getLsbD k) := by
  obtain ⟨n, rfl⟩ := Int.eq_ofNat_of_zero_le h
  rw [bit_nat]
  have : (B (n : Int)).getLsbD k = n.testBit k := by
    unfold B; rw [BitVec.ofInt_natCast, BitVec.getLsbD_ofNat]; simp [hk]
  rw [this]
/-- bit number i of a word -/
def bit (v i : Int) : Int := v / 2 ^ i.toNat % 2
theorem and_one (x : Int) (h : U64 x) : bits .and .u64 x 1 = x % 2 := by
  unfold U64 at h
  rw [u64_and x 1 h.1 h.2 (by decide) (by decide)]
  show ((x.toNat &&& 1 : Nat) : Int) = _
  rw [nat_mask1]; omega
theorem neg_code {v : Int} (h : U64 v) (k : Nat) (hk : k < 64) : (bits .and .u64 (v / 2 ^ k) 1 == 1) = (B v).getLsbD k := by
  have hu := h
  unfold U64 at h
  have hx : U64 (v / 2 ^ k) := by
    have p : (0 : Int) < 2 ^ k := Int.pow_pos (by decide)
    exact ⟨Int.ediv_nonneg h.1 (Int.le_of_lt p), Int.lt_of_le_of_lt (Int.ediv_le_self _ h.1) h.2⟩
  rw [and_one _ hx, bit_B v h.1 k hk]
  cases (B v).getLsbD k <;> rfl
theorem neg_code1 {v : Int} (h : U64 v) : (bits .and .u64 (v / 128) 1 == 1) = neg v 1 := neg_code h 7 (by decide)
theorem neg_code2 {v : Int} (h : U64 v) : (bits .and .u64 (v / 32768) 1 == 1) = neg v 2 := neg_code h 15 (by decide)
theorem neg_code4 {v : Int} (h : U64 v) : (bits .and .u64 (v / 2147483648) 1 == 1) = neg v 4 := neg_code h 31 (by decide)
theorem neg_code8 {v : Int} (h : U64 v) : (bits .and .u64 (v / 9223372036854775808) 1 == 1) = neg v 8 := neg_code h 63 (by decide)
theorem neg_bit {v : Int} (h : U64 v) (k : Nat) (hk : k < 64) : (v / 2 ^ k % 2 == 1) = (B v).getLsbD k := by
  rw [bit_B v h.1 k hk]; cases (B v).getLsbD k <;> rfl
theorem bit_tmod {v : Int} (h : U64 v) (k : Nat) : (v / 2 ^ k).tmod 2 = bit v (k : Int) :=
  Int.tmod_eq_emod_of_nonneg (Int.ediv_nonneg h.1 (Int.le_of_lt (Int.pow_pos (by decide))))
theorem bit_01 (v i : Int) : 0 ≤ bit v i ∧ bit v i ≤ 1 := by unfold bit; omega
theorem zx_round {v : Int} (h : U64 v) (k : Nat) (hk : k < 64) : IntKind.u64.wrap (v % 2 ^ k + IntKind.u64.wrap (bit v (k : Int) * 2 ^ k)) = v % 2 ^ (k + 1) := by
  have e : v % 2 ^ k + bit v (k : Int) * 2 ^ k = v % 2 ^ (k + 1) := zx_step v h.1 k
  have ⟨p, q⟩ := pow_le (k + 1) (by omega)
  have ⟨p', q'⟩ := pow_le k (by omega)
  have r1 := Int.emod_nonneg v (b := 2 ^ (k + 1)) (by omega)
  have r2 := Int.emod_lt_of_pos v p
  have r3 := Int.emod_nonneg v (b := 2 ^ k) (by omega)
  have hb : 0 ≤ bit v (k : Int) * 2 ^ k := Int.mul_nonneg (bit_01 v k).1 (by omega)
  rw [wrap_of_u64 (n := bit v (k : Int) * 2 ^ k) ⟨hb, by omega⟩, e]
  exact wrap_of_u64 ⟨r1, by omega⟩
theorem bit_neg {v w : Int} (h : U64 v) (hw : isW w = true) : bit v (8 * w - 1) = oneI (neg v w) := by
  have ⟨hn, h8, h64⟩ := nb_is hw
  have e : 8 * w - 1 = ((nb w - 1 : Nat) : Int) := by omega
  rw [e]
  unfold neg; rw [hw, Bool.true_and]
  exact bit_B v h.1 (nb w - 1) (by omega)
def sxK (v w : Int) (k : Nat) : Int := if neg v w then zx v w + (2 ^ k - 2 ^ nb w) else zx v w
theorem sxK_at (v w : Int) : zx v w = sxK v w (nb w) := by unfold sxK; split <;> omega
theorem sxK_end (v w : Int) : sxK v w 64 = sx v w := by unfold sxK sx; rw [show (2 : Int) ^ 64 = 18446744073709551616 from by decide]
theorem sxK_round {v w : Int} (h : U64 v) (hw : isW w = true) (k : Nat) (hk : k < 64) (hn : nb w ≤ k) :
    IntKind.u64.wrap (sxK v w k + IntKind.u64.wrap (bit v (8 * w - 1) * 2 ^ k)) = sxK v w (k + 1) := by
  rw [bit_neg h hw]
  have ⟨p, q⟩ := pow_le (k + 1) (by omega)
  have ⟨p', q'⟩ := pow_le k (by omega)
  have ⟨p2, q2⟩ := pow_le (nb w) (by omega)
  have ⟨r, s⟩ := zx_lt v w
  have hm : (2 : Int) ^ nb w ≤ 2 ^ k := by
    have := Nat.pow_le_pow_right (n := 2) (by decide) hn
    have e1 : ((2 ^ nb w : Nat) : Int) = (2 : Int) ^ nb w := by simp
    have e2 : ((2 ^ k : Nat) : Int) = (2 : Int) ^ k := by simp
    omega
  have e : (2 : Int) ^ (k + 1) = 2 * 2 ^ k := by rw [Int.pow_succ, Int.mul_comm]
  unfold sxK
  cases neg v w
  · simp [oneI, IntKind.wrap_u64]; omega
  · simp only [oneI, if_true, Int.one_mul]
    rw [wrap_of_u64 (n := 2 ^ k) ⟨by omega, by omega⟩, wrap_of_u64 ⟨by omega, by omega⟩]; omega
theorem bit_eq_one {v w : Int} (h : U64 v) (hw : isW w = true) : (bit v (8 * w - 1) == 1) = neg v w := by
  rw [bit_neg h hw]; cases neg v w <;> rfl
theorem oneI_01 (c : Bool) : oneI c = 0 ∨ oneI c = 1 := by cases c <;> simp [oneI]
theorem oneI_inj {c d : Bool} : oneI c = oneI d ↔ c = d := by cases c <;> cases d <;> decide
theorem B_one (c : Bool) : B (oneI c) = BitVec.setWidth 64 (BitVec.ofBool c) := by cases c <;> decide

def sumV (a b : Int) (c : Bool) (w : Int) : Int := (a + b + oneI c) % 2 ^ nb w
def sumC (a b : Int) (c : Bool) (w : Int) : Bool := isW w && BitVec.carry (nb w) (B a) (B b) c
def sumO (a b : Int) (c : Bool) (w : Int) : Bool := isW w && (BitVec.carry (nb w) (B a) (B b) c != BitVec.carry (nb w - 1) (B a) (B b) c)

theorem bit_sum {s a b : Int} {c : Bool} (hs : B s = B a + B b + BitVec.setWidth 64 (BitVec.ofBool c)) (i : Nat) (hi : i < 64) :
    (B s).getLsbD i = ((B a).getLsbD i ^^ ((B b).getLsbD i ^^ BitVec.carry i (B a) (B b) c)) := by
  rw [hs, BitVec.getLsbD_add_add_bool hi]
theorem code_sumC {s a b : Int} {c : Bool} (hs : B s = B a + B b + BitVec.setWidth 64 (BitVec.ofBool c)) (w : Int) :
    neg (bits .or .u64 (bits .and .u64 a b) (bits .andNot .u64 (bits .or .u64 a b) s)) w = sumC a b c w := by
  unfold neg sumC
  cases h : isW w
  · rfl
  · have ⟨_, h2, h3⟩ := nb_is h
    obtain ⟨i, hi⟩ : ∃ i, nb w = i + 1 := ⟨nb w - 1, by omega⟩
    have hi' : i < 64 := by omega
    rw [hi, Nat.add_sub_cancel, BitVec.carry_succ, B_or, B_and, B_andNot, B_or]
    rw [BitVec.getLsbD_or, BitVec.getLsbD_and, BitVec.getLsbD_and, BitVec.getLsbD_or, BitVec.getLsbD_not, bit_sum hs i hi']
    simp only [hi', decide_true]
    generalize (B a).getLsbD i = p; generalize (B b).getLsbD i = q; generalize BitVec.carry i (B a) (B b) c = r
    cases p <;> cases q <;> cases r <;> rfl
theorem code_sumO {s a b : Int} {c : Bool} (hs : B s = B a + B b + BitVec.setWidth 64 (BitVec.ofBool c)) (w : Int) :
    neg (bits .and .u64 (bits .xor .u64 a s) (bits .xor .u64 b s)) w = sumO a b c w := by
  unfold neg sumO
  cases h : isW w
  · rfl
  · have ⟨_, h2, h3⟩ := nb_is h
    obtain ⟨i, hi⟩ : ∃ i, nb w = i + 1 := ⟨nb w - 1, by omega⟩
    have hi' : i < 64 := by omega
    rw [hi, Nat.add_sub_cancel, BitVec.carry_succ, B_and, B_xor, B_xor]
    rw [BitVec.getLsbD_and, BitVec.getLsbD_xor, BitVec.getLsbD_xor, bit_sum hs i hi']
    generalize (B a).getLsbD i = p; generalize (B b).getLsbD i = q; generalize BitVec.carry i (B a) (B b) c = r
    cases p <;> cases q <;> cases r <;> rfl
theorem code_sumB (a b : Int) (c : Bool) : B (IntKind.u64.wrap (IntKind.u64.wrap (a + b) + oneI c)) = B a + B b + BitVec.setWidth 64 (BitVec.ofBool c) := by
  rw [B_wrap, B_add, B_wrap, B_add, B_one]
theorem code_sumV (a b : Int) (c : Bool) (w : Int) : zx (IntKind.u64.wrap (IntKind.u64.wrap (a + b) + oneI c)) w = sumV a b c w := by
  rw [zx_wrap]; unfold zx sumV
  rw [Int.add_emod, IntKind.wrap_u64, Int.emod_emod_of_dvd _ (pow_dvd64 _ (nb_le w)), ← Int.add_emod]

/-- one column -/
theorem column (a b : Int) (ha : 0 ≤ a) (hb : 0 ≤ b) (c : Bool) (k : Nat) (hk : k < 64) :
    (a + b + oneI c) % 2 ^ k + (a / 2 ^ k % 2 + b / 2 ^ k % 2 + oneI (BitVec.carry k (B a) (B b) c)) % 2 * 2 ^ k = (a + b + oneI c) % 2 ^ (k + 1)
    ∧ (a / 2 ^ k % 2 + b / 2 ^ k % 2 + oneI (BitVec.carry k (B a) (B b) c)) / 2 = oneI (BitVec.carry (k + 1) (B a) (B b) c) := by
  have hc := oneI_01 c
  have hs0 : 0 ≤ a + b + oneI c := by omega
  have hs : B (a + b + oneI c) = B a + B b + BitVec.setWidth 64 (BitVec.ofBool c) := by rw [B_add, B_add, B_one]
  have hz := zx_step (a + b + oneI c) hs0 k
  rw [bit_B _ hs0 k hk, bit_sum hs k hk] at hz
  rw [bit_B a ha k hk, bit_B b hb k hk, BitVec.carry_succ, ← hz]
  generalize (B a).getLsbD k = p; generalize (B b).getLsbD k = q; generalize BitVec.carry k (B a) (B b) c = r
  cases p <;> cases q <;> cases r <;> simp [oneI, Bool.atLeastTwo]
theorem carry_zero (a b : Int) (c : Bool) : oneI (BitVec.carry 0 (B a) (B b) c) = oneI c := by
  cases c <;> simp [BitVec.carry, oneI, Nat.mod_one]

def lessV (a b : Int) (c : Bool) (w : Int) : Int := sumV a (18446744073709551615 - b) (!c) w
def lessC (a b : Int) (c : Bool) (w : Int) : Bool := isW w && !BitVec.carry (nb w) (B a) (~~~ B b) (!c)
def lessO (a b : Int) (c : Bool) (w : Int) : Bool := sumO a (18446744073709551615 - b) (!c) w
theorem B_compl (b : Int) : B (18446744073709551615 - b) = ~~~ B b := by
  have h1 : -(1#64) = BitVec.allOnes 64 := by decide
  rw [B_sub, B_ones, BitVec.not_eq_neg_add, BitVec.sub_eq_add_neg, BitVec.sub_eq_add_neg, h1, BitVec.add_comm]
theorem code_lessB (a b : Int) (c : Bool) : B (IntKind.u64.wrap (IntKind.u64.wrap (a - b) - oneI c)) = B a + B (18446744073709551615 - b) + BitVec.setWidth 64 (BitVec.ofBool !c) := by
  rw [B_wrap, B_sub, B_wrap, B_sub, ← B_one, B_compl, BitVec.not_eq_neg_add]
  cases c
  · have e1 : B (oneI false) = 0#64 := by decide
    have e2 : B (oneI !false) = 1#64 := by decide
    rw [e1, e2, BitVec.sub_zero, BitVec.sub_eq_add_neg, BitVec.add_assoc]
    rw [BitVec.sub_add_cancel]
  · have e1 : B (oneI true) = 1#64 := by decide
    have e2 : B (oneI !true) = 0#64 := by decide
    rw [e1, e2, BitVec.add_zero, BitVec.sub_eq_add_neg, BitVec.sub_eq_add_neg, BitVec.sub_eq_add_neg, BitVec.add_assoc]
theorem code_lessC {d a b : Int} {c : Bool} (hd : B d = B a + B (18446744073709551615 - b) + BitVec.setWidth 64 (BitVec.ofBool !c)) (w : Int) :
    neg (bits .or .u64 (bits .and .u64 (bits .xor .u64 18446744073709551615 a) b) (bits .and .u64 (bits .xor .u64 18446744073709551615 (bits .xor .u64 a b)) d)) w = lessC a b c w := by
  unfold neg lessC
  cases h : isW w
  · rfl
  · have ⟨_, h2, h3⟩ := nb_is h
    obtain ⟨i, hi⟩ : ∃ i, nb w = i + 1 := ⟨nb w - 1, by omega⟩
    have hi' : i < 64 := by omega
    have hb := bit_sum hd i hi'
    rw [B_compl] at hb
    rw [hi, Nat.add_sub_cancel, BitVec.carry_succ, B_or, B_and, B_not, B_and, B_not, B_xor]
    rw [BitVec.getLsbD_or, BitVec.getLsbD_and, BitVec.getLsbD_and, BitVec.getLsbD_not, BitVec.getLsbD_not, BitVec.getLsbD_xor, hb, BitVec.getLsbD_not]
    simp only [hi', decide_true]
    generalize (B a).getLsbD i = p; generalize (B b).getLsbD i = q; generalize BitVec.carry i (B a) (~~~ B b) (!c) = r
    cases p <;> cases q <;> cases r <;> rfl
theorem code_lessC' {d a b : Int} {c : Bool} (hd : B d = B a + B (18446744073709551615 - b) + BitVec.setWidth 64 (BitVec.ofBool !c)) (w : Int) :
    neg (bits .or .u64 (bits .and .u64 (bits .xor .u64 IntKind.u64.max a) b) (bits .and .u64 (bits .xor .u64 IntKind.u64.max (bits .xor .u64 a b)) d)) w = lessC a b c w := by
  have e : IntKind.u64.max = 18446744073709551615 := by decide
  rw [e]; exact code_lessC hd w
theorem code_lessO {d a b : Int} {c : Bool} (hd : B d = B a + B (18446744073709551615 - b) + BitVec.setWidth 64 (BitVec.ofBool !c)) (w : Int) :
    neg (bits .and .u64 (bits .xor .u64 a b) (bits .xor .u64 a d)) w = lessO a b c w := by
  unfold neg lessO sumO
  cases h : isW w
  · rfl
  · have ⟨_, h2, h3⟩ := nb_is h
    obtain ⟨i, hi⟩ : ∃ i, nb w = i + 1 := ⟨nb w - 1, by omega⟩
    have hi' : i < 64 := by omega
    have hb := bit_sum hd i hi'
    rw [B_compl] at hb
    rw [hi, Nat.add_sub_cancel, BitVec.carry_succ, B_and, B_xor, B_xor, B_compl]
    rw [BitVec.getLsbD_and, BitVec.getLsbD_xor, BitVec.getLsbD_xor, hb, BitVec.getLsbD_not]
    simp only [hi', decide_true]
    generalize (B a).getLsbD i = p; generalize (B b).getLsbD i = q; generalize BitVec.carry i (B a) (~~~ B b) (!c) = r
    cases p <;> cases q <;> cases r <;> rfl
theorem lessC_sumC (a b : Int) (c : Bool) (w : Int) : lessC a b c w = (isW w && !sumC a (18446744073709551615 - b) (!c) w) := by
  unfold lessC sumC; rw [B_compl]; cases isW w <;> simp
theorem code_lessV (a b : Int) (c : Bool) (w : Int) : zx (IntKind.u64.wrap (IntKind.u64.wrap (a - b) - oneI c)) w = lessV a b c w := by
  rw [zx_wrap]; unfold zx lessV sumV
  have e : 18446744073709551615 - b = 18446744073709551616 + (-1 - b) := by omega
  have e3 : (IntKind.u64.wrap (a - b) - oneI c) % 2 ^ nb w = (a - b - oneI c) % 2 ^ nb w := by
    rw [Int.sub_emod, IntKind.wrap_u64, Int.emod_emod_of_dvd _ (pow_dvd64 _ (nb_le w)), ← Int.sub_emod]
  rw [e3, e]
  obtain ⟨k, hk⟩ := pow_dvd64 (nb w) (nb_le w)
  have e2 : a + (18446744073709551616 + (-1 - b)) + oneI (!c) = (a - b - oneI c) + 2 ^ nb w * k := by
    rw [← hk]; cases c <;> simp [oneI] <;> omega
  rw [e2, Int.add_mul_emod_self_left]
/-- a sum is taken back -/
theorem back (a b w : Int) : lessV (sumV a b false w) b false w = zx a w := by
  unfold lessV sumV zx
  rcases nb_five w with h | h | h | h | h <;> rw [h] <;> simp [oneI] <;> omega
theorem back_carry (a b w : Int) (ha : U64 a) (hb : U64 b) : sumC a b false w = lessC (sumV a b false w) b false w := by
  unfold sumC lessC
  have hs : U64 (sumV a b false w) := by
    have ⟨p, q⟩ := pow_le (nb w) (nb_le w)
    unfold U64 sumV
    exact ⟨Int.emod_nonneg _ (by omega), by have := Int.emod_lt_of_pos (a + b + oneI false) p; omega⟩
  have h1 := B_nat ha; have h2 := B_nat hb; have h3 := B_nat hs
  cases hw : isW w
  · rfl
  · simp only [Bool.true_and, BitVec.carry, BitVec.toNat_not]
    generalize (B a).toNat = x at *; generalize (B b).toNat = y at *; generalize (B (sumV a b false w)).toNat = z at *
    rw [Bool.eq_iff_iff]
    unfold sumV oneI at h3
    unfold U64 at *
    simp
    rcases nb_five w with h | h | h | h | h <;> rw [h] at h3 ⊢ <;> simp at h3 ⊢ <;> omega
end Cq

/- Plain mathematics of layer 1: turning a number of n bits. -/
namespace Cq
open Go

theorem pow_split {m n : Nat} (h : m ≤ n) : 2 ^ n = 2 ^ (n - m) * 2 ^ m := by
  rw [← Nat.pow_add]; congr 1; omega
/-- turned to the left by m of n bits -/
def rot (v m n : Nat) : Nat := v % 2 ^ (n - m) * 2 ^ m + v % 2 ^ n / 2 ^ (n - m)
/-- as far as the lowest i bits reach -/
def rotTo (v m n i : Nat) : Nat := v % 2 ^ min i (n - m) * 2 ^ m + v % 2 ^ i / 2 ^ (n - m)
theorem rotTo_end (v m n : Nat) : rotTo v m n n = rot v m n := by
  unfold rotTo rot; rw [Nat.min_eq_right (by omega)]
theorem rotTo_zero (v m n : Nat) : rotTo v m n 0 = 0 := by
  unfold rotTo; simp [Nat.mod_one]
theorem mod_step (v i : Nat) : v % 2 ^ (i + 1) = v % 2 ^ i + v / 2 ^ i % 2 * 2 ^ i := by
  rw [Nat.mod_pow_succ, Nat.mul_comm]
theorem rotTo_step (v m n i : Nat) (hm : m < n) (hi : i < n) : rotTo v m n (i + 1) = rotTo v m n i + v / 2 ^ i % 2 * 2 ^ ((i + m) % n) := by
  unfold rotTo
  by_cases h : i < n - m
  · rw [Nat.min_eq_left (by omega), Nat.min_eq_left (by omega), Nat.mod_eq_of_lt (by omega : i + m < n)]
    have h1 : v % 2 ^ (i + 1) / 2 ^ (n - m) = 0 := Nat.div_eq_of_lt (Nat.lt_of_lt_of_le (Nat.mod_lt _ (Nat.two_pow_pos _)) (Nat.pow_le_pow_right (by decide) (by omega)))
    have h2 : v % 2 ^ i / 2 ^ (n - m) = 0 := Nat.div_eq_of_lt (Nat.lt_of_lt_of_le (Nat.mod_lt _ (Nat.two_pow_pos _)) (Nat.pow_le_pow_right (by decide) (by omega)))
    rw [h1, h2, mod_step, Nat.add_mul, Nat.pow_add, Nat.mul_assoc]; omega
  · rw [Nat.min_eq_right (by omega), Nat.min_eq_right (by omega)]
    have e : (i + m) % n = i - (n - m) := by
      rw [Nat.mod_eq_sub_mod (by omega), Nat.mod_eq_of_lt (by omega)]; omega
    rw [e, mod_step v i]
    have p : 2 ^ i = 2 ^ (i - (n - m)) * 2 ^ (n - m) := by rw [← Nat.pow_add]; congr 1; omega
    have q : v / 2 ^ i % 2 * 2 ^ i = v / 2 ^ i % 2 * 2 ^ (i - (n - m)) * 2 ^ (n - m) := by
      rw [Nat.mul_assoc, ← p]
    rw [q, Nat.add_mul_div_right _ _ (Nat.two_pow_pos _)]; omega
theorem rot_parts (v m n : Nat) (hm : m ≤ n) : v % 2 ^ n / 2 ^ (n - m) < 2 ^ m ∧ v % 2 ^ (n - m) < 2 ^ (n - m) ∧ v % 2 ^ n = v % 2 ^ n / 2 ^ (n - m) * 2 ^ (n - m) + v % 2 ^ (n - m) := by
  have p := pow_split hm
  refine ⟨?_, Nat.mod_lt _ (Nat.two_pow_pos _), ?_⟩
  · rw [Nat.div_lt_iff_lt_mul (Nat.two_pow_pos _), Nat.mul_comm, ← p]; exact Nat.mod_lt _ (Nat.two_pow_pos _)
  · have := Nat.div_add_mod (v % 2 ^ n) (2 ^ (n - m))
    rw [Nat.mod_mod_of_dvd _ (by rw [p]; exact Nat.dvd_mul_right _ _)] at this
    rw [Nat.mul_comm]; omega
theorem rot_lt (v m n : Nat) (hm : m ≤ n) : rot v m n < 2 ^ n := by
  have ⟨h1, h2, _⟩ := rot_parts v m n hm
  unfold rot
  have p := pow_split hm
  have : (v % 2 ^ (n - m) + 1) * 2 ^ m ≤ 2 ^ (n - m) * 2 ^ m := Nat.mul_le_mul_right _ h2
  rw [Nat.add_mul] at this; omega
theorem rot_zero (v n : Nat) : rot v 0 n = v % 2 ^ n := by
  unfold rot
  rw [Nat.sub_zero, Nat.pow_zero, Nat.mul_one, Nat.div_eq_of_lt (Nat.mod_lt _ (Nat.two_pow_pos _))]; rfl
theorem rot_mod (v m n : Nat) : rot (v % 2 ^ n) m n = rot v m n := by
  unfold rot
  rw [Nat.mod_mod, Nat.mod_mod_of_dvd _ (Nat.pow_dvd_pow 2 (by omega : n - m ≤ n))]
theorem rot_back (v m n : Nat) (hm : m ≤ n) : rot (rot v m n) (n - m) n = v % 2 ^ n := by
  have ⟨h1, h2, h3⟩ := rot_parts v m n hm
  have hl := rot_lt v m n hm
  have e : n - (n - m) = m := by omega
  show rot v m n % 2 ^ (n - (n - m)) * 2 ^ (n - m) + rot v m n % 2 ^ n / 2 ^ (n - (n - m)) = _
  rw [e, Nat.mod_eq_of_lt hl]
  have a : rot v m n % 2 ^ m = v % 2 ^ n / 2 ^ (n - m) := by
    unfold rot; rw [Nat.mul_add_mod', Nat.mod_eq_of_lt h1]
  have b : rot v m n / 2 ^ m = v % 2 ^ (n - m) := by
    unfold rot; rw [Nat.add_comm, Nat.add_mul_div_right _ _ (Nat.two_pow_pos _), Nat.div_eq_of_lt h1]; omega
  rw [a, b]; exact h3.symm

def turn (v k w : Int) : Int := if isW w then (rot v.toNat (k % nb w).toNat (nb w) : Int) else 0
theorem turn_u64 (v k w : Int) : U64 (turn v k w) := by
  unfold turn
  cases h : isW w
  · simp [U64]
  · have ⟨hn, h8, h64⟩ := nb_is h
    have := Int.emod_lt_of_pos k (b := nb w) (by omega)
    have := rot_lt v.toNat (k % nb w).toNat (nb w) (by omega)
    have := Nat.pow_le_pow_right (n := 2) (by decide) h64
    have e2 : (2 : Nat) ^ 64 = 18446744073709551616 := by decide
    simp only [if_true]; unfold U64; omega
theorem turn_not {v k w : Int} (h : isW w = false) : turn v k w = 0 := by unfold turn; rw [h]; rfl
theorem zx_nat {v : Int} (h : 0 ≤ v) (w : Int) : zx v w = ((v.toNat % 2 ^ nb w : Nat) : Int) := by
  unfold zx; rw [Int.natCast_emod, Int.natCast_pow]
  have : ((v.toNat : Nat) : Int) = v := by omega
  rw [this]; rfl
theorem turn_back {v : Int} (hv : U64 v) (k k' w : Int) (hk : k' = -k) : turn (turn v k w) k' w = zx v w := by
  subst hk
  cases h : isW w
  · rw [turn_not h]; unfold zx; rw [nb_not h]; simp
  · have ⟨hn, h8, h64⟩ := nb_is h
    rw [zx_nat hv.1]
    unfold turn
    rw [h]
    simp only [if_true, Int.toNat_natCast]
    generalize nb w = n at *
    have hm0 : 0 ≤ k % (n : Int) := Int.emod_nonneg _ (by omega)
    have hm1 : k % (n : Int) < n := Int.emod_lt_of_pos _ (by omega)
    obtain ⟨m, hm⟩ : ∃ m : Nat, k % (n : Int) = m := ⟨(k % (n : Int)).toNat, by omega⟩
    rw [hm, Int.toNat_natCast]
    have hkm : k = n * (k / n) + m := by have := Int.mul_ediv_add_emod k n; omega
    by_cases hz : m = 0
    · have e : (-k) % (n : Int) = 0 := by
        rw [hkm, hz]
        have : -((n : Int) * (k / n) + (0 : Nat)) = n * (-(k / n)) := by rw [Int.mul_neg]; simp
        rw [this]; exact Int.mul_emod_right _ _
      rw [e, hz, show (0 : Int).toNat = 0 from rfl, rot_zero, rot_zero, Nat.mod_mod]
    · have e : (-k) % (n : Int) = ((n - m : Nat) : Int) := by
        have e1 : -k = ((n - m : Nat) : Int) + n * (-(k / n) - 1) := by
          rw [Int.mul_sub, Int.mul_neg]; omega
        rw [e1, Int.add_mul_emod_self_left]
        exact Int.emod_eq_of_lt (by omega) (by omega)
      rw [e, Int.toNat_natCast]
      congr 1
      exact rot_back _ _ _ (by omega)
/-- the code's own way -/
theorem code_turn {v : Int} (hv : U64 v) (w : Int) (h : isW w = true) (m : Nat) (hm : m < nb w) :
    zx (bits .or .u64 (IntKind.u64.wrap (zx v w * 2 ^ m)) (zx v w / 2 ^ (nb w - m))) w = (rot v.toNat m (nb w) : Int) := by
  have ⟨hn, h8, h64⟩ := nb_is h
  have hz := zx_nat hv.1 w
  have hlt : v.toNat % 2 ^ nb w < 2 ^ nb w := Nat.mod_lt _ (Nat.two_pow_pos _)
  rw [← rot_mod]
  rw [hz]
  generalize v.toNat % 2 ^ nb w = z at *
  have e1 : IntKind.u64.wrap ((z : Int) * 2 ^ m) = ((z * 2 ^ m % 2 ^ 64 : Nat) : Int) := by
    rw [IntKind.wrap_u64, Int.natCast_emod, Int.natCast_mul, Int.natCast_pow, Int.natCast_pow]; rfl
  have e2 : (z : Int) / 2 ^ (nb w - m) = ((z / 2 ^ (nb w - m) : Nat) : Int) := by
    rw [Int.natCast_ediv, Int.natCast_pow]; rfl
  have ⟨h1, h2, h3⟩ := rot_parts z m (nb w) (by omega)
  rw [Nat.mod_eq_of_lt hlt] at h1 h3
  have hp64 : 2 ^ m ∣ 2 ^ 64 := Nat.pow_dvd_pow 2 (by omega)
  have hd : z * 2 ^ m % 2 ^ 64 % 2 ^ m = 0 := by
    rw [Nat.mod_mod_of_dvd _ hp64]; exact Nat.mul_mod_left _ _
  have hb : z / 2 ^ (nb w - m) < 18446744073709551616 := by
    have := Nat.pow_le_pow_right (n := 2) (by decide) (by omega : m ≤ 64)
    have e : (2 : Nat) ^ 64 = 18446744073709551616 := by decide
    omega
  rw [e1, e2, u64_or_nat _ _ (by have := Nat.mod_lt (z * 2 ^ m) (Nat.two_pow_pos 64); exact this) hb, nat_join m _ _ hd h1]
  unfold zx
  have e3 : (((z * 2 ^ m % 2 ^ 64 + z / 2 ^ (nb w - m) : Nat) : Int) % 2 ^ nb w) = (((z * 2 ^ m % 2 ^ 64 + z / 2 ^ (nb w - m)) % 2 ^ nb w : Nat) : Int) := by
    rw [Int.natCast_emod, Int.natCast_pow]; rfl
  rw [e3]
  congr 1
  rw [Nat.add_mod, Nat.mod_mod_of_dvd _ (Nat.pow_dvd_pow 2 h64), ← Nat.add_mod]
  have e4 : z * 2 ^ m + z / 2 ^ (nb w - m) = rot z m (nb w) + 2 ^ nb w * (z / 2 ^ (nb w - m)) := by
    unfold rot
    rw [Nat.mod_eq_of_lt hlt]
    have e5 : z * 2 ^ m = z / 2 ^ (nb w - m) * 2 ^ (nb w - m) * 2 ^ m + z % 2 ^ (nb w - m) * 2 ^ m := by rw [← Nat.add_mul, ← h3]
    have e6 : z / 2 ^ (nb w - m) * 2 ^ (nb w - m) * 2 ^ m = 2 ^ nb w * (z / 2 ^ (nb w - m)) := by
      rw [Nat.mul_assoc, ← pow_split (by omega), Nat.mul_comm]
    omega
  rw [e4, Nat.add_mul_mod_self_left, Nat.mod_eq_of_lt (rot_lt z m (nb w) (by omega))]
theorem tmod_neg {k n : Int} (hn : 0 < n) (h : k.tmod n < 0) : k.tmod n = k % n - n := by
  rw [Int.tmod_eq_emod] at h ⊢
  have h0 := Int.emod_nonneg k (b := n) (by omega)
  split at h <;> rename_i g
  · omega
  · rw [if_neg g]; omega
theorem tmod_pos {k n : Int} (hn : 0 < n) (h : 0 ≤ k.tmod n) : k.tmod n = k % n := by
  rw [Int.tmod_eq_emod] at h ⊢
  have h0 := Int.emod_lt_of_pos k hn
  split at h <;> rename_i g
  · rw [if_pos g]; omega
  · omega
theorem low_mask (k : Int) (n : Nat) (hn : n = 8 ∨ n = 16 ∨ n = 32 ∨ n = 64) : bits .and .u64 (IntKind.u64.wrap k) ((n : Int) - 1) = (((k % n).toNat : Nat) : Int) := by
  have hk := u64_wrap k
  have hk1 := hk.1; have hk2 := hk.2
  rw [u64_and _ _ hk1 hk2 (by omega) (by omega)]
  have e : IntKind.u64.wrap k = k % 18446744073709551616 := IntKind.wrap_u64 k
  rw [e] at hk1 ⊢
  rcases hn with rfl | rfl | rfl | rfl
  · rw [show (((8 : Nat) : Int) - 1).toNat = 7 from by decide, nat_mask3]; omega
  · rw [show (((16 : Nat) : Int) - 1).toNat = 15 from by decide, nat_mask4]; omega
  · rw [show (((32 : Nat) : Int) - 1).toNat = 31 from by decide, nat_mask5]; omega
  · rw [show (((64 : Nat) : Int) - 1).toNat = 63 from by decide, nat_mask6]; omega
theorem turn_is {v k w : Int} (h : isW w = true) : turn v k w = (rot v.toNat (k % nb w).toNat (nb w) : Int) := by unfold turn; rw [h]; rfl
theorem rotTo_u64 (v m n i : Nat) (hm : m < n) (hi : i ≤ n) (hn : n ≤ 64) : U64 (rotTo v m n i : Int) := by
  have e : rotTo v m n i = rot (v % 2 ^ i) m n := by
    unfold rotTo rot
    rw [Nat.mod_eq_of_lt (a := v % 2 ^ i) (b := 2 ^ n) (Nat.lt_of_lt_of_le (Nat.mod_lt _ (Nat.two_pow_pos _)) (Nat.pow_le_pow_right (by decide) hi))]
    congr 2
    by_cases h : i ≤ n - m
    · rw [Nat.min_eq_left h, Nat.mod_eq_of_lt (a := v % 2 ^ i)]
      exact Nat.lt_of_lt_of_le (Nat.mod_lt _ (Nat.two_pow_pos _)) (Nat.pow_le_pow_right (by decide) h)
    · rw [Nat.min_eq_right (by omega), Nat.mod_mod_of_dvd _ (Nat.pow_dvd_pow 2 (by omega))]
  rw [e]
  have := rot_lt (v % 2 ^ i) m n (by omega)
  have := Nat.pow_le_pow_right (n := 2) (by decide) hn
  have e2 : (2 : Nat) ^ 64 = 18446744073709551616 := by decide
  unfold U64; omega
theorem rotTo_round {v : Int} (hv : U64 v) (m n i : Nat) (hm : m < n) (hi : i < n) (hn : n ≤ 64) :
    IntKind.u64.wrap ((rotTo v.toNat m n i : Int) + IntKind.u64.wrap (bit v (i : Int) * 2 ^ ((i + m) % n))) = (rotTo v.toNat m n (i + 1) : Int) := by
  have hr := rotTo_u64 v.toNat m n (i + 1) hm (by omega) hn
  have hs := rotTo_step v.toNat m n i hm hi
  have hb : bit v (i : Int) * 2 ^ ((i + m) % n) = ((v.toNat / 2 ^ i % 2 * 2 ^ ((i + m) % n) : Nat) : Int) := by
    rw [Int.natCast_mul, Int.natCast_emod, Int.natCast_ediv, Int.natCast_pow, Int.natCast_pow]
    have : ((v.toNat : Nat) : Int) = v := by have := hv.1; omega
    rw [this]; rfl
  have e : (rotTo v.toNat m n (i + 1) : Int) = (rotTo v.toNat m n i : Int) + bit v (i : Int) * 2 ^ ((i + m) % n) := by
    rw [hb, hs, Int.natCast_add]
  have hu : U64 (bit v (i : Int) * 2 ^ ((i + m) % n)) := by
    rw [hb]; unfold U64 at hr ⊢; omega
  rw [wrap_of_u64 hu, ← e, wrap_of_u64 hr]
end Cq

/- Plain mathematics of layer 1: how many bits are 1. -/
namespace Cq
open Go

/-- how many of the lowest bits are 1 -/
def popTo (v : Nat) : Nat → Nat
  | 0 => 0
  | i + 1 => popTo v i + v / 2 ^ i % 2
theorem popTo_front (v i : Nat) : popTo v (i + 1) = v % 2 + popTo (v / 2) i := by
  induction i with
  | zero => simp [popTo]
  | succ i ih =>
    rw [popTo, ih, popTo, Nat.div_div_eq_div_mul, Nat.pow_succ, Nat.mul_comm 2]
    omega
theorem popTo_le (v i : Nat) : popTo v i ≤ i := by
  induction i with
  | zero => simp [popTo]
  | succ i ih => rw [popTo]; omega
theorem popTo_zero (i : Nat) : popTo 0 i = 0 := by
  induction i with
  | zero => rfl
  | succ i ih => rw [popTo, ih]; simp
theorem popTo_less (k : Nat) : ∀ v, 0 < v → v < 2 ^ k → popTo (v &&& (v - 1)) k + 1 = popTo v k := by
  induction k with
  | zero => intro v h0 h1; simp at h1; omega
  | succ k ih =>
    intro v h0 h1
    rw [popTo_front, popTo_front, Nat.and_div_two]
    have hm : (v &&& (v - 1)) % 2 = v % 2 &&& (v - 1) % 2 := by
      have := @Nat.and_mod_two_pow v (v - 1) 1; simpa using this
    rw [hm]
    by_cases ho : v % 2 = 1
    · have e1 : (v - 1) % 2 = 0 := by omega
      have e2 : (v - 1) / 2 = v / 2 := by omega
      rw [ho, e1, e2, Nat.and_self]; simp; omega
    · have e0 : v % 2 = 0 := by omega
      have e2 : (v - 1) / 2 = v / 2 - 1 := by omega
      have := ih (v / 2) (by omega) (by rw [Nat.pow_succ] at h1; omega)
      rw [e0, e2]; simp; omega
def ones (v : Int) : Nat := popTo v.toNat 64
theorem ones_le (v : Int) : ones v ≤ 64 := popTo_le _ _
theorem ones_zero : ones 0 = 0 := popTo_zero _
theorem ones_less {v : Int} (h : U64 v) (h0 : 0 < v) : ones (bits .and .u64 v (v - 1)) + 1 = ones v := by
  unfold U64 at h
  rw [u64_and v (v - 1) h.1 h.2 (by omega) (by omega)]
  unfold ones
  have e : (v - 1).toNat = v.toNat - 1 := by omega
  rw [e, Int.toNat_natCast]
  exact popTo_less 64 _ (by omega) (by have : (2 : Nat) ^ 64 = 18446744073709551616 := by decide
                                       omega)
theorem ones_less' {v : Int} (h : U64 v) (h0 : 0 < v) : ones (bits .and .u64 v (IntKind.u64.wrap (v - 1))) + 1 = ones v := by
  rw [wrap_of_u64 (n := v - 1) ⟨by omega, by have := h.2; omega⟩]; exact ones_less h h0
theorem popTo_round {v : Int} (h : U64 v) (i : Nat) : (popTo v.toNat i : Int) + bit v i = (popTo v.toNat (i + 1) : Int) := by
  rw [popTo, Int.natCast_add, Int.natCast_emod, Int.natCast_ediv, Int.natCast_pow]
  have : ((v.toNat : Nat) : Int) = v := by have := h.1; omega
  rw [this]; rfl
end Cq

/- Plain mathematics of layer 1: fields of a word of 32 bits. -/
namespace Cq
open Go

def inF (a n : Int) : Bool := decide (0 ≤ a ∧ a ≤ 31 ∧ 1 ≤ n ∧ n ≤ 32 - a)
theorem inF_is {a n : Int} (h : inF a n = true) : 0 ≤ a ∧ a ≤ 31 ∧ 1 ≤ n ∧ n ≤ 32 - a := of_decide_eq_true h
theorem inF_not {a n : Int} (h : inF a n = false) : a < 0 ∨ 31 < a ∨ n < 1 ∨ 32 - a < n := by
  have := of_decide_eq_false h; omega
def fieldN (v a n : Nat) : Nat := v / 2 ^ a % 2 ^ n
def withN (v a n f : Nat) : Nat := 2 ^ a * (2 ^ n * (v / 2 ^ (a + n)) + f % 2 ^ n) + v % 2 ^ a
theorem withN_bit (v a n f i : Nat) : (withN v a n f).testBit i = if i < a then v.testBit i else if i - a < n then f.testBit (i - a) else v.testBit i := by
  unfold withN
  rw [Nat.testBit_two_pow_mul_add _ (Nat.mod_lt _ (Nat.two_pow_pos _))]
  by_cases h : i < a
  · rw [if_pos h, if_pos h, Nat.testBit_mod_two_pow]; simp [h]
  · rw [if_neg h, if_neg h, Nat.testBit_two_pow_mul_add _ (Nat.mod_lt _ (Nat.two_pow_pos _))]
    by_cases g : i - a < n
    · rw [if_pos g, if_pos g, Nat.testBit_mod_two_pow]; simp [g]
    · rw [if_neg g, if_neg g, Nat.testBit_div_two_pow]; congr 1; omega
theorem fieldN_bit (v a n i : Nat) : (fieldN v a n).testBit i = (decide (i < n) && v.testBit (i + a)) := by
  unfold fieldN; rw [Nat.testBit_mod_two_pow, Nat.testBit_div_two_pow]
theorem lt32_bit {v : Nat} (h : v < 4294967296) (i : Nat) (hi : 32 ≤ i) : v.testBit i = false := by
  apply Nat.testBit_lt_two_pow
  have := Nat.pow_le_pow_right (n := 2) (by decide) hi
  have e : (2 : Nat) ^ 32 = 4294967296 := by decide
  omega
theorem lt32_of {v : Nat} (h : ∀ i, 32 ≤ i → v.testBit i = false) : v < 4294967296 := by
  have e : (2 : Nat) ^ 32 = 4294967296 := by decide
  rw [← e]; exact Nat.lt_pow_two_of_testBit v h
theorem withN_lt {v a n f : Nat} (hv : v < 4294967296) (h : a + n ≤ 32) : withN v a n f < 4294967296 := by
  apply lt32_of
  intro i hi
  rw [withN_bit]
  have hb := lt32_bit hv i hi
  repeat' split
  all_goals first | exact hb | omega
theorem fieldN_lt {v a n : Nat} (hv : v < 4294967296) : fieldN v a n < 4294967296 := by
  unfold fieldN
  exact Nat.lt_of_le_of_lt (Nat.mod_le _ _) (Nat.lt_of_le_of_lt (Nat.div_le_self _ _) hv)
theorem withN_back (v a n f : Nat) : withN (withN v a n f) a n (fieldN v a n) = v := by
  apply Nat.eq_of_testBit_eq; intro i
  rw [withN_bit, fieldN_bit, withN_bit]
  repeat' split
  · rfl
  · rename_i h g; simp only [g, decide_true, Bool.true_and]; congr 1; omega
  · rfl
theorem ones_pow {n a : Nat} (h : a + n ≤ 32) : (2 ^ n - 1) * 2 ^ a < 4294967296 := by
  have h1 : 2 ^ n * 2 ^ a ≤ 2 ^ 32 := by rw [← Nat.pow_add]; exact Nat.pow_le_pow_right (by decide) (by omega)
  have e : (2 : Nat) ^ 32 = 4294967296 := by decide
  have h2 : (2 ^ n - 1) * 2 ^ a < 2 ^ n * 2 ^ a := Nat.mul_lt_mul_of_pos_right (by have := Nat.two_pow_pos n; omega) (Nat.two_pow_pos _)
  omega
theorem code_withN {v a n f : Nat} (hv : v < 4294967296) (h : a + n ≤ 32) :
    (v &&& (4294967295 - (2 ^ n - 1) * 2 ^ a)) ||| ((f &&& (2 ^ n - 1)) * 2 ^ a) = withN v a n f := by
  have ho := ones_pow h
  apply Nat.eq_of_testBit_eq; intro i
  rw [withN_bit, Nat.testBit_or, Nat.testBit_and, Nat.testBit_mul_two_pow, Nat.testBit_and, Nat.testBit_two_pow_sub_one]
  have e : 4294967295 - (2 ^ n - 1) * 2 ^ a = 2 ^ 32 - ((2 ^ n - 1) * 2 ^ a + 1) := by
    have e : (2 : Nat) ^ 32 = 4294967296 := by decide
    omega
  rw [e, Nat.testBit_two_pow_sub_succ (by have e : (2 : Nat) ^ 32 = 4294967296 := by decide
                                          omega), Nat.testBit_mul_two_pow, Nat.testBit_two_pow_sub_one]
  by_cases hi : i < 32
  · by_cases h1 : i < a
    · have : ¬ a ≤ i := by omega
      simp [h1, hi, this]
    · have : a ≤ i := by omega
      by_cases h2 : i - a < n
      · simp [h1, hi, this, h2]
      · simp [h1, hi, this, h2]
  · rw [lt32_bit hv i (by omega)]
    have h2 : ¬ i - a < n := by omega
    simp [h2]
def field (v a n : Int) : Int := if inF a n then (fieldN v.toNat a.toNat n.toNat : Int) else 0
def withF (v a n f : Int) : Int := if inF a n then (withN v.toNat a.toNat n.toNat f.toNat : Int) else v
def onesF (a n : Int) : Int := if inF a n then 2 ^ n.toNat - 1 else 0
theorem field_u32 {v : Int} (h : U32 v) (a n : Int) : U32 (field v a n) := by
  unfold field; unfold U32 at *
  split
  · have := fieldN_lt (v := v.toNat) (a := a.toNat) (n := n.toNat) (by omega); omega
  · omega
theorem withF_u32 {v : Int} (h : U32 v) (a n f : Int) : U32 (withF v a n f) := by
  unfold withF; unfold U32 at *
  split
  · rename_i g
    have := inF_is g
    have := withN_lt (v := v.toNat) (a := a.toNat) (n := n.toNat) (f := f.toNat) (by omega) (by omega); omega
  · exact h
theorem with_back {v : Int} (h : U32 v) (a n f : Int) : withF (withF v a n f) a n (field v a n) = v := by
  unfold withF field; unfold U32 at h
  split
  · rename_i g
    simp only [Int.toNat_natCast, withN_back]; omega
  · rfl
theorem wrap32u (n : Int) : IntKind.u32.wrap n = n % 4294967296 := IntKind.wrap_u32' n
theorem pow32 (n : Nat) (h : n ≤ 32) : (0 : Int) < 2 ^ n ∧ (2 : Int) ^ n ≤ 4294967296 := by
  refine ⟨Int.pow_pos (by decide), ?_⟩
  have := Nat.pow_le_pow_right (n := 2) (by decide) h
  have e : ((2 ^ n : Nat) : Int) = (2 : Int) ^ n := by simp
  have e2 : (2 : Nat) ^ 32 = 4294967296 := by decide
  omega
theorem ones_shift (k : Nat) (h : k ≤ 32) : (4294967295 : Int) / 2 ^ (32 - k) = 2 ^ k - 1 := by
  have ⟨p, q⟩ := pow32 k h
  have ⟨p', _⟩ := pow32 (32 - k) (by omega)
  have e : (2 : Int) ^ k * 2 ^ (32 - k) = 4294967296 := by rw [← Int.pow_add, show k + (32 - k) = 32 from by omega]; decide
  have e2 : (4294967295 : Int) = (2 ^ (32 - k) - 1) + (2 ^ k - 1) * 2 ^ (32 - k) := by rw [Int.sub_mul, e]; omega
  rw [e2, Int.add_mul_ediv_right _ _ (by omega), Int.ediv_eq_zero_of_lt (by omega) (by omega)]; omega
theorem pow_sub_nat (k : Nat) : ((2 : Int) ^ k - 1) = ((2 ^ k - 1 : Nat) : Int) := by
  rw [Int.ofNat_sub Nat.one_le_two_pow, Int.natCast_pow]; rfl
theorem code_field {v : Int} (h : U32 v) (a n : Nat) (hn : n ≤ 32) : bits .and .u32 (v / 2 ^ a) (2 ^ n - 1) = (fieldN v.toNat a n : Int) := by
  unfold U32 at h
  have e : v / 2 ^ a = ((v.toNat / 2 ^ a : Nat) : Int) := by
    rw [Int.natCast_ediv, Int.natCast_pow, show ((v.toNat : Nat) : Int) = v from by omega]; rfl
  have ⟨p, q⟩ := pow32 n hn
  rw [e, pow_sub_nat, u32_and_nat _ _ (Nat.lt_of_le_of_lt (Nat.div_le_self _ _) (by omega)) (by have := pow_sub_nat n; omega), Nat.and_two_pow_sub_one_eq_mod]
  rfl
theorem and_zero32 (v : Int) : bits .and .u32 v 0 = 0 := by
  show IntKind.u32.wrap ((BitVec.ofInt 32 v &&& BitVec.ofInt 32 0).toNat : Int) = 0
  rw [show BitVec.ofInt 32 0 = 0#32 from by decide, BitVec.and_zero]; rfl
theorem andNot_zero32 {v : Int} (h : U32 v) : bits .andNot .u32 v 0 = v := by
  unfold U32 at h
  have := u32_andNot v 0 h.1 h.2 (by decide) (by decide)
  rw [this]
  have e : v.toNat &&& (4294967295 - (0 : Int).toNat) = v.toNat % 2 ^ 32 := Nat.and_two_pow_sub_one_eq_mod v.toNat 32
  rw [e]; omega
theorem or_zero32 {v : Int} (h : U32 v) : bits .or .u32 v 0 = v := by
  unfold U32 at h
  rw [u32_or v 0 h.1 h.2 (by decide) (by decide)]
  simp; omega
theorem code_with {v f : Int} (hv : U32 v) (hf : U32 f) (a n : Nat) (h : a + n ≤ 32) :
    bits .or .u32 (bits .andNot .u32 v (IntKind.u32.wrap ((2 ^ n - 1) * 2 ^ a))) (IntKind.u32.wrap (bits .and .u32 f (2 ^ n - 1) * 2 ^ a)) = (withN v.toNat a n f.toNat : Int) := by
  unfold U32 at hv hf
  have ho := ones_pow h
  have ⟨p, q⟩ := pow32 n (by omega)
  have e1 : IntKind.u32.wrap ((2 ^ n - 1) * 2 ^ a) = (((2 ^ n - 1) * 2 ^ a : Nat) : Int) := by
    rw [wrap32u, pow_sub_nat]
    have : ((2 ^ n - 1 : Nat) : Int) * 2 ^ a = (((2 ^ n - 1) * 2 ^ a : Nat) : Int) := by rw [Int.natCast_mul, Int.natCast_pow]; rfl
    rw [this]; omega
  have e2 : bits .and .u32 f (2 ^ n - 1) = ((f.toNat &&& (2 ^ n - 1) : Nat) : Int) := by
    rw [pow_sub_nat, u32_and _ _ hf.1 hf.2 (by omega) (by have := pow_sub_nat n; omega)]; rfl
  have hle : (f.toNat &&& (2 ^ n - 1)) * 2 ^ a ≤ (2 ^ n - 1) * 2 ^ a := Nat.mul_le_mul_right _ Nat.and_le_right
  have e3 : IntKind.u32.wrap (((f.toNat &&& (2 ^ n - 1) : Nat) : Int) * 2 ^ a) = (((f.toNat &&& (2 ^ n - 1)) * 2 ^ a : Nat) : Int) := by
    rw [wrap32u]
    have : ((f.toNat &&& (2 ^ n - 1) : Nat) : Int) * 2 ^ a = (((f.toNat &&& (2 ^ n - 1)) * 2 ^ a : Nat) : Int) := by rw [Int.natCast_mul, Int.natCast_pow]; rfl
    rw [this]; omega
  have e4 : bits .andNot .u32 v (((2 ^ n - 1) * 2 ^ a : Nat) : Int) = ((v.toNat &&& (4294967295 - (2 ^ n - 1) * 2 ^ a) : Nat) : Int) := by
    rw [u32_andNot _ _ hv.1 hv.2 (by omega) (by omega)]; rfl
  rw [e1, e2, e3, e4, u32_or_nat _ _ (Nat.lt_of_le_of_lt Nat.and_le_left (by omega)) (by omega), code_withN (by omega) h]
/-- which bit is put in -/
def putBit (v a n f : Int) (i : Nat) : Int := if inF a n && decide (a ≤ i) && decide ((i : Int) - a < n) then f / 2 ^ (i - a.toNat) % 2 else v / 2 ^ i % 2
theorem bit32 {v : Int} (h : U32 v) (i : Nat) : v / 2 ^ i % 2 = oneI (v.toNat.testBit i) := by
  unfold U32 at h
  rw [← bit_nat, show ((v.toNat : Nat) : Int) = v from by omega]
theorem putBit_is {v f : Int} (hv : U32 v) (hf : U32 f) (a n : Int) (i : Nat) : putBit v a n f i = (withF v a n f) / 2 ^ i % 2 := by
  rw [bit32 (withF_u32 hv a n f)]
  unfold putBit withF
  rw [bit32 hv, bit32 hf]
  cases g : inF a n
  · simp
  · have := inF_is g
    simp only [Bool.true_and, if_true, Int.toNat_natCast, withN_bit]
    by_cases h1 : a ≤ i
    · by_cases h2 : (i : Int) - a < n
      · simp only [h1, h2, decide_true, Bool.and_self, if_true]
        rw [if_neg (by omega), if_pos (by omega)]
      · have d : decide ((i : Int) - a < n) = false := decide_eq_false h2
        rw [d, Bool.and_false, if_neg (by decide), if_neg (by omega), if_neg (by omega)]
    · have d : decide (a ≤ (i : Int)) = false := decide_eq_false h1
      rw [d, Bool.false_and, if_neg (by decide), if_pos (by omega)]
theorem with_round {s : Int} (h : U32 s) (i : Nat) (hi : i < 32) : IntKind.u32.wrap (s % 2 ^ i + IntKind.u32.wrap (s / 2 ^ i % 2 * 2 ^ i)) = s % 2 ^ (i + 1) := by
  unfold U32 at h
  have e := zx_step s h.1 i
  have ⟨p, q⟩ := pow32 (i + 1) (by omega)
  have ⟨p', q'⟩ := pow32 i (by omega)
  have r1 := Int.emod_nonneg s (b := 2 ^ (i + 1)) (by omega)
  have r2 := Int.emod_lt_of_pos s p
  have r3 := Int.emod_nonneg s (b := 2 ^ i) (by omega)
  have hb : 0 ≤ s / 2 ^ i % 2 * 2 ^ i := Int.mul_nonneg (by omega) (by omega)
  rw [wrap32u, wrap32u]; omega
theorem field_round {v : Int} (h : U32 v) (a i : Nat) (hi : i < 32) :
    IntKind.u32.wrap (v / 2 ^ a % 2 ^ i + IntKind.u32.wrap (v / 2 ^ (a + i) % 2 * 2 ^ i)) = v / 2 ^ a % 2 ^ (i + 1) := by
  have hu : U32 (v / 2 ^ a) := ⟨Int.ediv_nonneg h.1 (Int.le_of_lt (Int.pow_pos (by decide))), Int.lt_of_le_of_lt (Int.ediv_le_self _ h.1) h.2⟩
  have := with_round hu i hi
  rw [Int.ediv_ediv_of_nonneg (Int.le_of_lt (Int.pow_pos (by decide))), ← Int.pow_add] at this
  exact this
theorem field_end {v : Int} (h : 0 ≤ v) (a n : Nat) : (fieldN v.toNat a n : Int) = v / 2 ^ a % 2 ^ n := by
  unfold fieldN
  rw [Int.natCast_emod, Int.natCast_ediv, Int.natCast_pow, Int.natCast_pow, show ((v.toNat : Nat) : Int) = v from by omega]; rfl
theorem rem_two {v : Int} (h : 0 ≤ v) (i : Nat) : (v / 2 ^ i).tmod 2 = v / 2 ^ i % 2 :=
  Int.tmod_eq_emod_of_nonneg (Int.ediv_nonneg h (Int.le_of_lt (Int.pow_pos (by decide))))
theorem with_end {s : Int} (h : U32 s) : s % 4294967296 = s := by
  unfold U32 at h; omega
end Cq

/- Plain mathematics of layer 1: whether a number has so many bits; how often 2 is doubled; which bits any of several words has. -/
namespace Cq
open Go

/-- a signed number of n bits -/
def fits (v n : Int) : Bool := decide (1 ≤ n ∧ n ≤ 64) && decide (v / 2 ^ (n - 1).toNat = v / 9223372036854775808)
theorem top_is {v : Int} (h : I64 v) : v / 9223372036854775808 = 0 ∧ 0 ≤ v ∨ v / 9223372036854775808 = -1 ∧ v < 0 := by
  unfold I64 at h; omega
theorem fits_code {v : Int} (h : I64 v) (k : Nat) : (v / 2 ^ k == 0 || v / 2 ^ k == -1) = decide (v / 2 ^ k = v / 9223372036854775808) := by
  have p : (0 : Int) < 2 ^ k := Int.pow_pos (by decide)
  rcases top_is h with ⟨e, g⟩ | ⟨e, g⟩
  · have := Int.ediv_nonneg g (Int.le_of_lt p)
    rw [e, Bool.eq_iff_iff]; simp; omega
  · have := Int.ediv_neg_of_neg_of_pos g p
    rw [e, Bool.eq_iff_iff]; simp; omega
theorem half_step (v : Int) (i : Nat) : v / 2 ^ i = 2 * (v / 2 ^ (i + 1)) + v / 2 ^ i % 2 := by
  have h1 : v / 2 ^ (i + 1) = v / 2 ^ i / 2 := by
    rw [Int.pow_succ, Int.ediv_ediv_of_nonneg (Int.le_of_lt (Int.pow_pos (by decide)))]
  rw [h1]; omega
theorem bit_wrap (v : Int) (i : Nat) (hi : i < 64) : bit (IntKind.u64.wrap v) (i : Int) = v / 2 ^ i % 2 := by
  unfold bit
  rw [IntKind.wrap_u64, Int.toNat_natCast]
  have e : (18446744073709551616 : Int) = 2 ^ i * (2 ^ (63 - i) * 2) := by
    rw [← Int.pow_succ, ← Int.pow_add, show i + (63 - i + 1) = 64 from by omega]; decide
  have p : (0 : Int) < 2 ^ i := Int.pow_pos (by decide)
  have hv : v = v % 18446744073709551616 + 2 ^ i * (2 ^ (63 - i) * 2 * (v / 18446744073709551616)) := by
    have := Int.emod_add_mul_ediv v 18446744073709551616
    have e2 : 2 ^ i * (2 ^ (63 - i) * 2 * (v / 18446744073709551616)) = 18446744073709551616 * (v / 18446744073709551616) := by
      rw [← Int.mul_assoc, ← e]
    rw [e2]; exact this.symm
  have hd : v / 2 ^ i = v % 18446744073709551616 / 2 ^ i + 2 ^ (63 - i) * 2 * (v / 18446744073709551616) := by
    conv => lhs; rw [hv]
    rw [Int.add_mul_ediv_left _ _ (by omega)]
  rw [hd]
  have e3 : 2 ^ (63 - i) * 2 * (v / 18446744073709551616) = 2 * (2 ^ (63 - i) * (v / 18446744073709551616)) := by
    rw [Int.mul_comm (2 ^ (63 - i)) 2, Int.mul_assoc]
  rw [e3]; omega
theorem fits_same {v : Int} (h : I64 v) (i : Nat) (hb : v / 2 ^ i % 2 = v / 2 ^ 63 % 2) :
    decide (v / 2 ^ i = v / 9223372036854775808) = decide (v / 2 ^ (i + 1) = v / 9223372036854775808) := by
  have e : (2 : Int) ^ 63 = 9223372036854775808 := by decide
  rw [e] at hb
  have hs := half_step v i
  generalize v / 2 ^ i = x at *
  generalize v / 2 ^ (i + 1) = y at *
  have ht := top_is h
  generalize v / 9223372036854775808 = s at *
  rw [decide_eq_decide]
  omega
theorem fits_other {v : Int} (i : Nat) (hb : v / 2 ^ i % 2 ≠ v / 2 ^ 63 % 2) : decide (v / 2 ^ i = v / 9223372036854775808) = false := by
  have e : (2 : Int) ^ 63 = 9223372036854775808 := by decide
  rw [e] at hb
  apply decide_eq_false
  intro g; rw [g] at hb; exact hb rfl
theorem fits_end {v : Int} (h : I64 v) : decide (v / 2 ^ 64 = v / 9223372036854775808) = true := by
  apply decide_eq_true
  unfold I64 at h; omega
/-- an unsigned number of n bits -/
def fitsU (v n : Int) : Bool := decide (1 ≤ n ∧ n ≤ 64) && decide (v / 2 ^ n.toNat = 0)
theorem fitsU_same {v : Int} (i : Nat) (hb : v / 2 ^ i % 2 = 0) : decide (v / 2 ^ i = 0) = decide (v / 2 ^ (i + 1) = 0) := by
  have hs := half_step v i
  rw [decide_eq_decide]; omega
theorem fitsU_other {v : Int} (i : Nat) (hb : v / 2 ^ i % 2 = 1) : decide (v / 2 ^ i = 0) = false := by
  apply decide_eq_false; omega
theorem fitsU_end {v : Int} (h : U64 v) : v / 2 ^ 64 = 0 := by
  unfold U64 at h; omega
/-- how often 2 is doubled: from k on, with that many rounds left -/
def logF (n : Int) : Nat → Nat → Nat
  | 0, k => k
  | r + 1, k => if (2 : Int) ^ k < n then logF n r (k + 1) else k
theorem logF_yes {n : Int} (k : Nat) (hk : k < 63) (h : (2 : Int) ^ k < n) : logF n (63 - k) k = logF n (63 - (k + 1)) (k + 1) := by
  obtain ⟨r, hr⟩ : ∃ r, 63 - k = r + 1 := ⟨62 - k, by omega⟩
  rw [hr, logF, if_pos h]; congr 1; omega
theorem logF_no {n : Int} (k : Nat) (h : ¬ (2 : Int) ^ k < n) : logF n (63 - k) k = k := by
  cases 63 - k with
  | zero => rfl
  | succ r => rw [logF, if_neg h]
theorem log_test {n : Int} (h : 1 < n) (k : Nat) : (n - 1) / 2 ^ k = 0 ↔ ¬ (2 : Int) ^ k < n := by
  have p : (0 : Int) < 2 ^ k := Int.pow_pos (by decide)
  constructor
  · intro e g
    have := Int.le_ediv_of_mul_le p (a := 1) (b := n - 1) (by omega)
    omega
  · intro g
    exact Int.ediv_eq_zero_of_lt (by omega) (by omega)
/-- which bits any of the first k words has -/
def orTo (z : List Int) : Nat → Int
  | 0 => 0
  | k + 1 => bits .or .u64 (orTo z k) (z.getD k 0)
def inTo (z : List Int) (i : Nat) : Nat → Int
  | 0 => 0
  | k + 1 => bits .or .u64 (inTo z i k) (bit (z.getD k 0) i)
theorem orTo_u64 (z : List Int) (k : Nat) : U64 (orTo z k) := by
  cases k with
  | zero => simp [orTo, U64]
  | succ k => exact bits_u64 _ _ _
theorem or_oneI (c d : Bool) : bits .or .u64 (oneI c) (oneI d) = oneI (c || d) := by cases c <;> cases d <;> decide
theorem bit_or {x y : Int} (hx : U64 x) (hy : U64 y) (i : Nat) (hi : i < 64) : bit (bits .or .u64 x y) (i : Int) = bits .or .u64 (bit x (i : Int)) (bit y (i : Int)) := by
  have e1 : bit (bits .or .u64 x y) (i : Int) = oneI ((B (bits .or .u64 x y)).getLsbD i) := bit_B _ (bits_u64 _ _ _).1 i hi
  have e2 : bit x (i : Int) = oneI ((B x).getLsbD i) := bit_B _ hx.1 i hi
  have e3 : bit y (i : Int) = oneI ((B y).getLsbD i) := bit_B _ hy.1 i hi
  rw [e1, e2, e3, or_oneI, B_or, BitVec.getLsbD_or]
theorem getD_u64 {z : List Int} (hz : ∀ n ∈ z, U64 n) (k : Nat) : U64 (z.getD k 0) := by
  rw [List.getD_eq_getElem?_getD]
  by_cases h : k < z.length
  · rw [List.getElem?_eq_getElem h]; exact hz _ (List.getElem_mem h)
  · rw [List.getElem?_eq_none (by omega)]; simp [U64]
theorem bit_orTo (z : List Int) (hz : ∀ n ∈ z, U64 n) (i : Nat) (hi : i < 64) (k : Nat) : bit (orTo z k) (i : Int) = inTo z i k := by
  induction k with
  | zero => simp [orTo, inTo, bit]
  | succ k ih =>
    have hg := getD_u64 hz k
    rw [orTo, inTo, bit_or (orTo_u64 z k) hg i hi, ih]
end Cq
