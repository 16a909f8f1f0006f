/- Plain mathematics of layer 1: sums and differences with carries. -/
import Derived.Test.YtlhinabodofjeaaBitm
namespace Cq
open Go

theorem zx_step (v : Int) (h : 0 ≤ v) (k : Nat) : v % 2 ^ k + v / 2 ^ k % 2 * 2 ^ k = v % 2 ^ (k + 1) := by
  obtain ⟨n, rfl⟩ := Int.eq_ofNat_of_zero_le h
  have := @Nat.mod_pow_succ n 2 k
  have e : ((n % 2 ^ (k + 1) : Nat) : Int) = ((n % 2 ^ k + 2 ^ k * (n / 2 ^ k % 2) : Nat) : Int) := by rw [this]
  simp only [Int.natCast_emod, Int.natCast_add, Int.natCast_mul, Int.natCast_pow, Int.natCast_ediv] at e
  have e2 : ((2 : Nat) : Int) = 2 := rfl
  rw [e2] at e
  rw [e, Int.mul_comm]
theorem bit_nat (n k : Nat) : ((n : Int) / 2 ^ k % 2) = oneI (n.testBit k) := by
  have h : ((n / 2 ^ k % 2 : Nat) : Int) = (n : Int) / 2 ^ k % 2 := by
    simp only [Int.natCast_emod, Int.natCast_ediv, Int.natCast_pow]; rfl
  rw [← h, Nat.testBit_eq_decide_div_mod_eq]
  unfold oneI
  by_cases g : n / 2 ^ k % 2 = 1
  · rw [g]; rfl
  · have : n / 2 ^ k % 2 = 0 := by omega
    rw [this]; rfl
theorem bit_B (v : Int) (h : 0 ≤ v) (k : Nat) (hk : k < 64) : v / 2 ^ k % 2 = oneI ((B v).getLsbD k) := by
  obtain ⟨n, rfl⟩ := Int.eq_ofNat_of_zero_le h
  rw [bit_nat]
  have : (B (n : Int)).getLsbD k = n.testBit k := by
    unfold B; rw [BitVec.ofInt_natCast, BitVec.getLsbD_ofNat]; simp [hk]
  rw [this]
/-- bit number i of a word -/
def bit (v i : Int) : Int := v / 2 ^ i.toNat % 2
theorem and_one (x : Int) (h : U64 x) : bits .and .u64 x 1 = x % 2 := by
  unfold U64 at h
  rw [u64_and x 1 h.1 h.2 (by decide) (by decide)]
  show ((x.toNat &&& 1 : Nat) : Int) = _
  rw [nat_mask1]; omega
theorem neg_code {v : Int} (h : U64 v) (k : Nat) (hk : k < 64) : (bits .and .u64 (v / 2 ^ k) 1 == 1) = (B v).getLsbD k := by
  have hu := h
  unfold U64 at h
  have hx : U64 (v / 2 ^ k) := by
    have p : (0 : Int) < 2 ^ k := Int.pow_pos (by decide)
    exact ⟨Int.ediv_nonneg h.1 (Int.le_of_lt p), Int.lt_of_le_of_lt (Int.ediv_le_self _ h.1) h.2⟩
  rw [and_one _ hx, bit_B v h.1 k hk]
  cases (B v).getLsbD k <;> rfl
theorem neg_code1 {v : Int} (h : U64 v) : (bits .and .u64 (v / 128) 1 == 1) = neg v 1 := neg_code h 7 (by decide)
theorem neg_code2 {v : Int} (h : U64 v) : (bits .and .u64 (v / 32768) 1 == 1) = neg v 2 := neg_code h 15 (by decide)
theorem neg_code4 {v : Int} (h : U64 v) : (bits .and .u64 (v / 2147483648) 1 == 1) = neg v 4 := neg_code h 31 (by decide)
theorem neg_code8 {v : Int} (h : U64 v) : (bits .and .u64 (v / 9223372036854775808) 1 == 1) = neg v 8 := neg_code h 63 (by decide)
theorem neg_bit {v : Int} (h : U64 v) (k : Nat) (hk : k < 64) : (v / 2 ^ k % 2 == 1) = (B v).getLsbD k := by
  rw [bit_B v h.1 k hk]; cases (B v).getLsbD k <;> rfl
theorem bit_tmod {v : Int} (h : U64 v) (k : Nat) : (v / 2 ^ k).tmod 2 = bit v (k : Int) :=
  Int.tmod_eq_emod_of_nonneg (Int.ediv_nonneg h.1 (Int.le_of_lt (Int.pow_pos (by decide))))
theorem bit_01 (v i : Int) : 0 ≤ bit v i ∧ bit v i ≤ 1 := by unfold bit; omega
theorem zx_round {v : Int} (h : U64 v) (k : Nat) (hk : k < 64) : IntKind.u64.wrap (v % 2 ^ k + IntKind.u64.wrap (bit v (k : Int) * 2 ^ k)) = v % 2 ^ (k + 1) := by
  have e : v % 2 ^ k + bit v (k : Int) * 2 ^ k = v % 2 ^ (k + 1) := zx_step v h.1 k
  have ⟨p, q⟩ := pow_le (k + 1) (by omega)
  have ⟨p', q'⟩ := pow_le k (by omega)
  have r1 := Int.emod_nonneg v (b := 2 ^ (k + 1)) (by omega)
  have r2 := Int.emod_lt_of_pos v p
  have r3 := Int.emod_nonneg v (b := 2 ^ k) (by omega)
  have hb : 0 ≤ bit v (k : Int) * 2 ^ k := Int.mul_nonneg (bit_01 v k).1 (by omega)
  rw [wrap_of_u64 (n := bit v (k : Int) * 2 ^ k) ⟨hb, by omega⟩, e]
  exact wrap_of_u64 ⟨r1, by omega⟩
theorem bit_neg {v w : Int} (h : U64 v) (hw : isW w = true) : bit v (8 * w - 1) = oneI (neg v w) := by
  have ⟨hn, h8, h64⟩ := nb_is hw
  have e : 8 * w - 1 = ((nb w - 1 : Nat) : Int) := by omega
  rw [e]
  unfold neg; rw [hw, Bool.true_and]
  exact bit_B v h.1 (nb w - 1) (by omega)
def sxK (v w : Int) (k : Nat) : Int := if neg v w then zx v w + (2 ^ k - 2 ^ nb w) else zx v w
theorem sxK_at (v w : Int) : zx v w = sxK v w (nb w) := by unfold sxK; split <;> omega
theorem sxK_end (v w : Int) : sxK v w 64 = sx v w := by unfold sxK sx; rw [show (2 : Int) ^ 64 = 18446744073709551616 from by decide]
theorem sxK_round {v w : Int} (h : U64 v) (hw : isW w = true) (k : Nat) (hk : k < 64) (hn : nb w ≤ k) :
    IntKind.u64.wrap (sxK v w k + IntKind.u64.wrap (bit v (8 * w - 1) * 2 ^ k)) = sxK v w (k + 1) := by
  rw [bit_neg h hw]
  have ⟨p, q⟩ := pow_le (k + 1) (by omega)
  have ⟨p', q'⟩ := pow_le k (by omega)
  have ⟨p2, q2⟩ := pow_le (nb w) (by omega)
  have ⟨r, s⟩ := zx_lt v w
  have hm : (2 : Int) ^ nb w ≤ 2 ^ k := by
    have := Nat.pow_le_pow_right (n := 2) (by decide) hn
    have e1 : ((2 ^ nb w : Nat) : Int) = (2 : Int) ^ nb w := by simp
    have e2 : ((2 ^ k : Nat) : Int) = (2 : Int) ^ k := by simp
    omega
  have e : (2 : Int) ^ (k + 1) = 2 * 2 ^ k := by rw [Int.pow_succ, Int.mul_comm]
  unfold sxK
  cases neg v w
  · simp [oneI, IntKind.wrap_u64]; omega
  · simp only [oneI, if_true, Int.one_mul]
    rw [wrap_of_u64 (n := 2 ^ k) ⟨by omega, by omega⟩, wrap_of_u64 ⟨by omega, by omega⟩]; omega
theorem bit_eq_one {v w : Int} (h : U64 v) (hw : isW w = true) : (bit v (8 * w - 1) == 1) = neg v w := by
  rw [bit_neg h hw]; cases neg v w <;> rfl
theorem oneI_01 (c : Bool) : oneI c = 0 ∨ oneI c = 1 := by cases c <;> simp [oneI]
theorem oneI_inj {c d : Bool} : oneI c = oneI d ↔ c = d := by cases c <;> cases d <;> decide
theorem B_one (c : Bool) : B (oneI c) = BitVec.setWidth 64 (BitVec.ofBool c) := by cases c <;> decide

def sumV (a b : Int) (c : Bool) (w : Int) : Int := (a + b + oneI c) % 2 ^ nb w
def sumC (a b : Int) (c : Bool) (w : Int) : Bool := isW w && BitVec.carry (nb w) (B a) (B b) c
def sumO (a b : Int) (c : Bool) (w : Int) : Bool := isW w && (BitVec.carry (nb w) (B a) (B b) c != BitVec.carry (nb w - 1) (B a) (B b) c)

theorem bit_sum {s a b : Int} {c : Bool} (hs : B s = B a + B b + BitVec.setWidth 64 (BitVec.ofBool c)) (i : Nat) (hi : i < 64) :
    (B s).getLsbD i = ((B a).getLsbD i ^^ ((B b).getLsbD i ^^ BitVec.carry i (B a) (B b) c)) := by
  rw [hs, BitVec.getLsbD_add_add_bool hi]
theorem code_sumC {s a b : Int} {c : Bool} (hs : B s = B a + B b + BitVec.setWidth 64 (BitVec.ofBool c)) (w : Int) :
    neg (bits .or .u64 (bits .and .u64 a b) (bits .andNot .u64 (bits .or .u64 a b) s)) w = sumC a b c w := by
  unfold neg sumC
  cases h : isW w
  · rfl
  · have ⟨_, h2, h3⟩ := nb_is h
    obtain ⟨i, hi⟩ : ∃ i, nb w = i + 1 := ⟨nb w - 1, by omega⟩
    have hi' : i < 64 := by omega
    rw [hi, Nat.add_sub_cancel, BitVec.carry_succ, B_or, B_and, B_andNot, B_or]
    rw [BitVec.getLsbD_or, BitVec.getLsbD_and, BitVec.getLsbD_and, BitVec.getLsbD_or, BitVec.getLsbD_not, bit_sum hs i hi']
    simp only [hi', decide_true]
    generalize (B a).getLsbD i = p; generalize (B b).getLsbD i = q; generalize BitVec.carry i (B a) (B b) c = r
    cases p <;> cases q <;> cases r <;> rfl
theorem code_sumO {s a b : Int} {c : Bool} (hs : B s = B a + B b + BitVec.setWidth 64 (BitVec.ofBool c)) (w : Int) :
    neg (bits .and .u64 (bits .xor .u64 a s) (bits .xor .u64 b s)) w = sumO a b c w := by
  unfold neg sumO
  cases h : isW w
  · rfl
  · have ⟨_, h2, h3⟩ := nb_is h
    obtain ⟨i, hi⟩ : ∃ i, nb w = i + 1 := ⟨nb w - 1, by omega⟩
    have hi' : i < 64 := by omega
    rw [hi, Nat.add_sub_cancel, BitVec.carry_succ, B_and, B_xor, B_xor]
    rw [BitVec.getLsbD_and, BitVec.getLsbD_xor, BitVec.getLsbD_xor, bit_sum hs i hi']
    generalize (B a).getLsbD i = p; generalize (B b).getLsbD i = q; generalize BitVec.carry i (B a) (B b) c = r
    cases p <;> cases q <;> cases r <;> rfl
theorem code_sumB (a b : Int) (c : Bool) : B (IntKind.u64.wrap (IntKind.u64.wrap (a + b) + oneI c)) = B a + B b + BitVec.setWidth 64 (BitVec.ofBool c) := by
  rw [B_wrap, B_add, B_wrap, B_add, B_one]
theorem code_sumV (a b : Int) (c : Bool) (w : Int) : zx (IntKind.u64.wrap (IntKind.u64.wrap (a + b) + oneI c)) w = sumV a b c w := by
  rw [zx_wrap]; unfold zx sumV
  rw [Int.add_emod, IntKind.wrap_u64, Int.emod_emod_of_dvd _ (pow_dvd64 _ (nb_le w)), ← Int.add_emod]

/-- one column -/
theorem column (a b : Int) (ha : 0 ≤ a) (hb : 0 ≤ b) (c : Bool) (k : Nat) (hk : k < 64) :
    (a + b + oneI c) % 2 ^ k + (a / 2 ^ k % 2 + b / 2 ^ k % 2 + oneI (BitVec.carry k (B a) (B b) c)) % 2 * 2 ^ k = (a + b + oneI c) % 2 ^ (k + 1)
    ∧ (a / 2 ^ k % 2 + b / 2 ^ k % 2 + oneI (BitVec.carry k (B a) (B b) c)) / 2 = oneI (BitVec.carry (k + 1) (B a) (B b) c) := by
  have hc := oneI_01 c
  have hs0 : 0 ≤ a + b + oneI c := by omega
  have hs : B (a + b + oneI c) = B a + B b + BitVec.setWidth 64 (BitVec.ofBool c) := by rw [B_add, B_add, B_one]
  have hz := zx_step (a + b + oneI c) hs0 k
  rw [bit_B _ hs0 k hk, bit_sum hs k hk] at hz
  rw [bit_B a ha k hk, bit_B b hb k hk, BitVec.carry_succ, ← hz]
  generalize (B a).getLsbD k = p; generalize (B b).getLsbD k = q; generalize BitVec.carry k (B a) (B b) c = r
  cases p <;> cases q <;> cases r <;> simp [oneI, Bool.atLeastTwo]
theorem carry_zero (a b : Int) (c : Bool) : oneI (BitVec.carry 0 (B a) (B b) c) = oneI c := by
  cases c <;> simp [BitVec.carry, oneI, Nat.mod_one]

def lessV (a b : Int) (c : Bool) (w : Int) : Int := sumV a (18446744073709551615 - b) (!c) w
def lessC (a b : Int) (c : Bool) (w : Int) : Bool := isW w && !BitVec.carry (nb w) (B a) (~~~ B b) (!c)
def lessO (a b : Int) (c : Bool) (w : Int) : Bool := sumO a (18446744073709551615 - b) (!c) w
theorem B_compl (b : Int) : B (18446744073709551615 - b) = ~~~ B b := by
  have h1 : -(1#64) = BitVec.allOnes 64 := by decide
  rw [B_sub, B_ones, BitVec.not_eq_neg_add, BitVec.sub_eq_add_neg, BitVec.sub_eq_add_neg, h1, BitVec.add_comm]
theorem code_lessB (a b : Int) (c : Bool) : B (IntKind.u64.wrap (IntKind.u64.wrap (a - b) - oneI c)) = B a + B (18446744073709551615 - b) + BitVec.setWidth 64 (BitVec.ofBool !c) := by
  rw [B_wrap, B_sub, B_wrap, B_sub, ← B_one, B_compl, BitVec.not_eq_neg_add]
  cases c
  · have e1 : B (oneI false) = 0#64 := by decide
    have e2 : B (oneI !false) = 1#64 := by decide
    rw [e1, e2, BitVec.sub_zero, BitVec.sub_eq_add_neg, BitVec.add_assoc]
    rw [BitVec.sub_add_cancel]
  · have e1 : B (oneI true) = 1#64 := by decide
    have e2 : B (oneI !true) = 0#64 := by decide
    rw [e1, e2, BitVec.add_zero, BitVec.sub_eq_add_neg, BitVec.sub_eq_add_neg, BitVec.sub_eq_add_neg, BitVec.add_assoc]
theorem code_lessC {d a b : Int} {c : Bool} (hd : B d = B a + B (18446744073709551615 - b) + BitVec.setWidth 64 (BitVec.ofBool !c)) (w : Int) :
    neg (bits .or .u64 (bits .and .u64 (bits .xor .u64 18446744073709551615 a) b) (bits .and .u64 (bits .xor .u64 18446744073709551615 (bits .xor .u64 a b)) d)) w = lessC a b c w := by
  unfold neg lessC
  cases h : isW w
  · rfl
  · have ⟨_, h2, h3⟩ := nb_is h
    obtain ⟨i, hi⟩ : ∃ i, nb w = i + 1 := ⟨nb w - 1, by omega⟩
    have hi' : i < 64 := by omega
    have hb := bit_sum hd i hi'
    rw [B_compl] at hb
    rw [hi, Nat.add_sub_cancel, BitVec.carry_succ, B_or, B_and, B_not, B_and, B_not, B_xor]
    rw [BitVec.getLsbD_or, BitVec.getLsbD_and, BitVec.getLsbD_and, BitVec.getLsbD_not, BitVec.getLsbD_not, BitVec.getLsbD_xor, hb, BitVec.getLsbD_not]
    simp only [hi', decide_true]
    generalize (B a).getLsbD i = p; generalize (B b).getLsbD i = q; generalize BitVec.carry i (B a) (~~~ B b) (!c) = r
    cases p <;> cases q <;> cases r <;> rfl
theorem code_lessC' {d a b : Int} {c : Bool} (hd : B d = B a + B (18446744073709551615 - b) + BitVec.setWidth 64 (BitVec.ofBool !c)) (w : Int) :
    neg (bits .or .u64 (bits .and .u64 (bits .xor .u64 IntKind.u64.max a) b) (bits .and .u64 (bits .xor .u64 IntKind.u64.max (bits .xor .u64 a b)) d)) w = lessC a b c w := by
  have e : IntKind.u64.max = 18446744073709551615 := by decide
  rw [e]; exact code_lessC hd w
theorem code_lessO {d a b : Int} {c : Bool} (hd : B d = B a + B (18446744073709551615 - b) + BitVec.setWidth 64 (BitVec.ofBool !c)) (w : Int) :
    neg (bits .and .u64 (bits .xor .u64 a b) (bits .xor .u64 a d)) w = lessO a b c w := by
  unfold neg lessO sumO
  cases h : isW w
  · rfl
  · have ⟨_, h2, h3⟩ := nb_is h
    obtain ⟨i, hi⟩ : ∃ i, nb w = i + 1 := ⟨nb w - 1, by omega⟩
    have hi' : i < 64 := by omega
    have hb := bit_sum hd i hi'
    rw [B_compl] at hb
    rw [hi, Nat.add_sub_cancel, BitVec.carry_succ, B_and, B_xor, B_xor, B_compl]
    rw [BitVec.getLsbD_and, BitVec.getLsbD_xor, BitVec.getLsbD_xor, hb, BitVec.getLsbD_not]
    simp only [hi', decide_true]
    generalize (B a).getLsbD i = p; generalize (B b).getLsbD i = q; generalize BitVec.carry i (B a) (~~~ B b) (!c) = r
    cases p <;> cases q <;> cases r <;> rfl
theorem lessC_sumC (a b : Int) (c : Bool) (w : Int) : lessC a b c w = (isW w && !sumC a (18446744073709551615 - b) (!c) w) := by
  unfold lessC sumC; rw [B_compl]; cases isW w <;> simp
theorem code_lessV (a b : Int) (c : Bool) (w : Int) : zx (IntKind.u64.wrap (IntKind.u64.wrap (a - b) - oneI c)) w = lessV a b c w := by
  rw [zx_wrap]; unfold zx lessV sumV
  have e : 18446744073709551615 - b = 18446744073709551616 + (-1 - b) := by omega
  have e3 : (IntKind.u64.wrap (a - b) - oneI c) % 2 ^ nb w = (a - b - oneI c) % 2 ^ nb w := by
    rw [Int.sub_emod, IntKind.wrap_u64, Int.emod_emod_of_dvd _ (pow_dvd64 _ (nb_le w)), ← Int.sub_emod]
  rw [e3, e]
  obtain ⟨k, hk⟩ := pow_dvd64 (nb w) (nb_le w)
  have e2 : a + (18446744073709551616 + (-1 - b)) + oneI (!c) = (a - b - oneI c) + 2 ^ nb w * k := by
    rw [← hk]; cases c <;> simp [oneI] <;> omega
  rw [e2, Int.add_mul_emod_self_left]
/-- a sum is taken back -/
theorem back (a b w : Int) : lessV (sumV a b false w) b false w = zx a w := by
  unfold lessV sumV zx
  rcases nb_five w with h | h | h | h | h <;> rw [h] <;> simp [oneI] <;> omega
theorem back_carry (a b w : Int) (ha : U64 a) (hb : U64 b) : sumC a b false w = lessC (sumV a b false w) b false w := by
  unfold sumC lessC
  have hs : U64 (sumV a b false w) := by
    have ⟨p, q⟩ := pow_le (nb w) (nb_le w)
    unfold U64 sumV
    exact ⟨Int.emod_nonneg _ (by omega), by have := Int.emod_lt_of_pos (a + b + oneI false) p; omega⟩
  have h1 := B_nat ha; have h2 := B_nat hb; have h3 := B_nat hs
  cases hw : isW w
  · rfl
  · simp only [Bool.true_and, BitVec.carry, BitVec.toNat_not]
    generalize (B a).toNat = x at *; generalize (B b).toNat = y at *; generalize (B (sumV a b false w)).toNat = z at *
    rw [Bool.eq_iff_iff]
    unfold sumV oneI at h3
    unfold U64 at *
    simp
    rcases nb_five w with h | h | h | h | h <;> rw [h] at h3 ⊢ <;> simp at h3 ⊢ <;> omega
end Cq
