/- Plain mathematics of layer 8: what operations make of numbers and flags. No program is named here. -/
import Derived.Test.YtlbkmdmnijmieaaDoorBito
import Derived.Test.YtlbkmdmnijmieaaDoorBitr
namespace Cq
open Go

theorem emod_mul_self (x m c : Int) : x % m * c % m = x * c % m := by
  rw [Int.mul_emod, Int.emod_emod_of_dvd _ (Int.dvd_refl _), ← Int.mul_emod]
theorem zx_sumV (a b : Int) (c : Bool) (w : Int) : zx (sumV a b c w) w = sumV a b c w := by
  unfold sumV; exact zx_zx (a + b + oneI c) w
theorem zx_lessV (a b : Int) (c : Bool) (w : Int) : zx (lessV a b c w) w = lessV a b c w := zx_sumV _ _ _ _
theorem sumV_u64 (a b : Int) (c : Bool) (w : Int) : U64 (sumV a b c w) := by rw [← zx_sumV]; exact zx_u64 w
theorem lessV_u64 (a b : Int) (c : Bool) (w : Int) : U64 (lessV a b c w) := sumV_u64 _ _ _ _
theorem not_compl {a : Int} (h : U64 a) : bits .xor .u64 IntKind.u64.max a = 18446744073709551615 - a := by
  have e : IntKind.u64.max = 18446744073709551615 := by decide
  rw [e]
  apply eq_of_B (bits_u64 _ _ _) (by unfold U64 at *; omega)
  rw [B_not, B_compl]

theorem wrap_small {x y : Int} (h : x = y) (h0 : 0 ≤ y) (h1 : y < 18446744073709551616) : IntKind.u64.wrap x = y := by
  subst h; exact wrap_of_u64 ⟨h0, h1⟩
/-- one bit more -/
theorem put_round {v : Int} (h : U64 v) (k : Nat) (hk : k < 64) :
    (bit v (k : Int) = 1 → IntKind.u64.wrap (v % 2 ^ k + IntKind.u64.wrap (2 ^ k)) = v % 2 ^ (k + 1)) ∧ (bit v (k : Int) = 0 → v % 2 ^ k = v % 2 ^ (k + 1)) := by
  have e := zx_round h k hk
  refine ⟨fun h1 => ?_, fun h0 => ?_⟩
  · rw [h1, Int.one_mul] at e
    exact e
  · rw [h0, Int.zero_mul] at e
    have ⟨p, q⟩ := pow_le k (by omega)
    have r1 := Int.emod_nonneg v (b := 2 ^ k) (by omega)
    have r2 := Int.emod_lt_of_pos v p
    rw [wrap_of_u64 (n := 0) ⟨by omega, by omega⟩, Int.add_zero, wrap_of_u64 ⟨r1, by omega⟩] at e
    exact e
theorem bit_is {v : Int} (h : U64 v) (k : Nat) (hk : k < 64) : bit v (k : Int) = oneI ((B v).getLsbD k) := bit_B v h.1 k hk
theorem bit_and {a b : Int} (k : Nat) (hk : k < 64) : bit (bits .and .u64 a b) (k : Int) = oneI ((B a).getLsbD k && (B b).getLsbD k) := by
  rw [bit_is (bits_u64 _ _ _) k hk, B_and, BitVec.getLsbD_and]
theorem bit_or' {a b : Int} (k : Nat) (hk : k < 64) : bit (bits .or .u64 a b) (k : Int) = oneI ((B a).getLsbD k || (B b).getLsbD k) := by
  rw [bit_is (bits_u64 _ _ _) k hk, B_or, BitVec.getLsbD_or]
theorem bit_xor {a b : Int} (k : Nat) (hk : k < 64) : bit (bits .xor .u64 a b) (k : Int) = oneI ((B a).getLsbD k ^^ (B b).getLsbD k) := by
  rw [bit_is (bits_u64 _ _ _) k hk, B_xor, BitVec.getLsbD_xor]

/-! shifts and rotations -/
theorem neg_ge {w : Int} (v : Int) (h : isW w = true) : neg v w = decide (2 ^ (nb w - 1) ≤ zx v w) := by
  have hz := zx_u64 (v := v) w
  have hb := bit_neg hz h
  rw [neg_zx] at hb
  have hl := zx_lt v w
  generalize zx v w = z at *
  generalize neg v w = n at *
  rcases isW_cases h with rfl | rfl | rfl | rfl <;> cases n <;> simp [nb, bit, oneI] at * <;> omega
/-- the number with its sign -/
def sg (v w : Int) : Int := if neg v w then zx v w - 2 ^ nb w else zx v w
theorem sg_bd {w : Int} (v : Int) (h : isW w = true) : -(2 ^ (nb w - 1)) ≤ sg v w ∧ sg v w < 2 ^ (nb w - 1) := by
  unfold sg
  rw [neg_ge v h]
  have hl := zx_lt v w
  generalize zx v w = z at *
  rcases isW_cases h with rfl | rfl | rfl | rfl <;> simp [nb] at * <;> split <;> omega
theorem zx_sg (v w : Int) : zx (sg v w) w = zx v w := by
  unfold sg
  split
  · show (zx v w - 2 ^ nb w) % 2 ^ nb w = _
    rw [Int.sub_emod_right]; exact zx_zx v w
  · exact zx_zx v w
theorem i64_sx {w : Int} (v : Int) (h : isW w = true) : IntKind.i64.wrap (sx v w) = sg v w := by
  unfold sx sg
  rw [neg_ge v h]
  have hl := zx_lt v w
  generalize zx v w = z at *
  rw [IntKind.wrap_i64]
  rcases isW_cases h with rfl | rfl | rfl | rfl <;> simp [nb] at * <;> split <;> omega
theorem sg_i64 (v w : Int) : I64 (sg v w) := by
  cases h : isW w
  · unfold sg neg; rw [h]; unfold zx; rw [nb_not h]; simp [I64, Int.emod_one]
  · have ⟨p, q⟩ := sg_bd v h
    rcases isW_cases h with rfl | rfl | rfl | rfl <;> simp [nb] at * <;> unfold I64 <;> omega

theorem shl_step (a w : Int) (j : Nat) : zx (IntKind.u64.wrap (zx (zx a w * 2 ^ j) w * 2)) w = zx (zx a w * 2 ^ (j + 1)) w := by
  rw [zx_wrap]
  show (zx a w * 2 ^ j) % 2 ^ nb w * 2 % 2 ^ nb w = zx a w * 2 ^ (j + 1) % 2 ^ nb w
  rw [emod_mul_self, Int.mul_assoc, ← Int.pow_succ]
theorem neg_wrap (v w : Int) : neg (IntKind.u64.wrap v) w = neg v w := by unfold neg; rw [B_wrap]
theorem shl_c (a w : Int) (j : Nat) : neg (IntKind.u64.wrap (zx a w * 2 ^ j)) w = neg (zx (zx a w * 2 ^ j) w) w := by
  rw [neg_zx, neg_wrap]
theorem shl_r (a w : Int) (j : Nat) : zx (IntKind.u64.wrap (IntKind.u64.wrap (zx a w * 2 ^ j) * 2)) w = zx (zx a w * 2 ^ (j + 1)) w := by
  rw [zx_wrap, ← shl_step a w j, zx_wrap]
  show IntKind.u64.wrap (zx a w * 2 ^ j) * 2 % 2 ^ nb w = (zx a w * 2 ^ j) % 2 ^ nb w * 2 % 2 ^ nb w
  rw [emod_mul_self, Int.mul_emod, IntKind.wrap_u64, Int.emod_emod_of_dvd _ (pow_dvd64 _ (nb_le w)), ← Int.mul_emod]
theorem half_half (v : Int) (j : Nat) : v / 2 ^ j / 2 = v / 2 ^ (j + 1) := by
  rw [Int.pow_succ, Int.ediv_ediv_of_nonneg (Int.le_of_lt (Int.pow_pos (by decide)))]
theorem shr_zx (a w : Int) (j : Nat) : zx (zx a w / 2 ^ j) w = zx a w / 2 ^ j := by
  have hl := zx_lt a w
  have p : (0 : Int) < 2 ^ j := Int.pow_pos (by decide)
  exact Int.emod_eq_of_lt (Int.ediv_nonneg hl.1 (by omega)) (Int.lt_of_le_of_lt (Int.ediv_le_self _ hl.1) hl.2)
theorem shr_u64 {v : Int} (h : U64 v) (j : Nat) : U64 (v / 2 ^ j) := by
  have p : (0 : Int) < 2 ^ j := Int.pow_pos (by decide)
  exact ⟨Int.ediv_nonneg h.1 (by omega), Int.lt_of_le_of_lt (Int.ediv_le_self _ h.1) h.2⟩
theorem half_bd2 {x : Int} {m : Int} (h : -m ≤ x ∧ x < m) (j : Nat) : -m ≤ x / 2 ^ j ∧ x / 2 ^ j < m := by
  have p : (0 : Int) < 2 ^ j := Int.pow_pos (by decide)
  by_cases g : 0 ≤ x
  · have := Int.ediv_nonneg g (Int.le_of_lt p)
    have := Int.ediv_le_self (2 ^ j) g
    omega
  · have h1 := Int.ediv_neg_of_neg_of_pos (by omega : x < 0) p
    have h2 : x ≤ x / 2 ^ j := by
      rw [Int.le_ediv_iff_mul_le p]
      have := Int.mul_le_mul_of_nonpos_left (a := x) (b := 2 ^ j) (c := 1) (by omega) (by omega)
      omega
    omega
/-- the arithmetic shift, place by place -/
def sarV (a w : Int) (j : Nat) : Int := zx (sg a w / 2 ^ j) w
theorem sar_at (a w : Int) : sarV a w 0 = zx a w := by unfold sarV; simp [zx_sg]
theorem sar_lo {w : Int} (a : Int) (h : isW w = true) (j : Nat) : bit (sarV a w j) 0 = sg a w / 2 ^ j % 2 := by
  unfold sarV bit zx
  generalize sg a w / 2 ^ j = x
  rcases isW_cases h with rfl | rfl | rfl | rfl <;> simp [nb] <;> omega
theorem sar_step {w : Int} (a : Int) (h : isW w = true) (j : Nat) :
    IntKind.u64.wrap (sarV a w j / 2 + IntKind.u64.wrap (bit (sarV a w j) (8 * w - 1) * 2 ^ (8 * w - 1).toNat)) = sarV a w (j + 1) := by
  have hb := half_bd2 (sg_bd a h) j
  unfold sarV
  rw [← half_half]
  generalize sg a w / 2 ^ j = x at *
  unfold zx bit
  rw [IntKind.wrap_u64, IntKind.wrap_u64]
  by_cases hx : 0 ≤ x <;> rcases isW_cases h with rfl | rfl | rfl | rfl <;> simp [nb] at * <;> omega
theorem sar_c {w : Int} (a : Int) (j : Nat) : zx (IntKind.u64.wrap (sg a w / 2 ^ (j + 1))) w = sarV a w (j + 1) := by
  rw [zx_wrap]; rfl

/-- one bit more to the left -/
theorem rot_step (v m n : Nat) (hm : m < n) : rot v m n % 2 ^ (n - 1) * 2 + rot v m n / 2 ^ (n - 1) = rot v ((m + 1) % n) n := by
  obtain ⟨d, rfl⟩ : ∃ d, n = m + 1 + d := ⟨n - (m + 1), by omega⟩
  rw [← rot_mod v m, ← rot_mod v ((m + 1) % _)]
  generalize hx : v % 2 ^ (m + 1 + d) = x
  have hlt : x < 2 ^ (m + 1 + d) := by rw [← hx]; exact Nat.mod_lt _ (Nat.two_pow_pos _)
  have e0 : rot x m (m + 1 + d) = x % 2 ^ (d + 1) * 2 ^ m + x / 2 ^ (d + 1) := by
    unfold rot; rw [Nat.mod_eq_of_lt hlt, show m + 1 + d - m = d + 1 by omega]
  have hs : x % 2 ^ (d + 1) = x / 2 ^ d % 2 * 2 ^ d + x % 2 ^ d := by rw [Nat.mod_pow_succ, Nat.mul_comm]; omega
  have hd2 : x / 2 ^ d = 2 * (x / 2 ^ (d + 1)) + x / 2 ^ d % 2 := by rw [Nat.pow_succ, ← Nat.div_div_eq_div_mul]; omega
  have hhi : x / 2 ^ (d + 1) < 2 ^ m := by
    rw [Nat.div_lt_iff_lt_mul (Nat.two_pow_pos _), ← Nat.pow_add]; rw [show m + (d + 1) = m + 1 + d by omega]; exact hlt
  have hpm : 2 ^ (m + 1 + d - 1) = 2 ^ d * 2 ^ m := by rw [← Nat.pow_add]; congr 1; omega
  have hlow : x % 2 ^ d * 2 ^ m + x / 2 ^ (d + 1) < 2 ^ d * 2 ^ m := by
    have h1 : x % 2 ^ d < 2 ^ d := Nat.mod_lt _ (Nat.two_pow_pos _)
    have : (x % 2 ^ d + 1) * 2 ^ m ≤ 2 ^ d * 2 ^ m := Nat.mul_le_mul_right _ h1
    rw [Nat.add_mul] at this; omega
  have e1 : rot x m (m + 1 + d) = (2 ^ d * 2 ^ m) * (x / 2 ^ d % 2) + (x % 2 ^ d * 2 ^ m + x / 2 ^ (d + 1)) := by
    rw [e0, hs, Nat.add_mul, Nat.mul_assoc, Nat.mul_comm (x / 2 ^ d % 2)]; omega
  rw [hpm, e1, Nat.mul_add_mod, Nat.mod_eq_of_lt hlow, Nat.mul_add_div (Nat.mul_pos (Nat.two_pow_pos _) (Nat.two_pow_pos _)), Nat.div_eq_of_lt hlow]
  by_cases hz : d = 0
  · subst hz
    have : (m + 1) % (m + 1 + 0) = 0 := by rw [Nat.add_zero]; exact Nat.mod_self _
    rw [this, rot_zero, Nat.mod_eq_of_lt hlt]
    simp [Nat.mod_one] at *
    omega
  · rw [Nat.mod_eq_of_lt (by omega : m + 1 < m + 1 + d)]
    unfold rot
    rw [Nat.mod_eq_of_lt hlt, show m + 1 + d - (m + 1) = d by omega, Nat.pow_succ 2 m, ← Nat.mul_assoc]
    generalize x % 2 ^ d * 2 ^ m = y at *
    omega
theorem turn_zx {a w : Int} (h : isW w = true) (ha : 0 ≤ a) : turn a 0 w = zx a w := by
  rw [turn_is h, Int.zero_emod, zx_nat ha]; exact congrArg _ (rot_zero _ _)
theorem turn_lt {w : Int} (a k : Int) (h : isW w = true) : 0 ≤ turn a k w ∧ turn a k w < 2 ^ nb w := by
  have ⟨hn, h8, h64⟩ := nb_is h
  have h0 := Int.emod_nonneg k (b := (nb w : Int)) (by omega)
  have h1 := Int.emod_lt_of_pos k (b := (nb w : Int)) (by omega)
  have h2 := rot_lt a.toNat (k % (nb w : Int)).toNat (nb w) (by omega)
  rw [turn_is h]
  have e : ((2 ^ nb w : Nat) : Int) = (2 : Int) ^ nb w := by simp
  omega
theorem turn_next {w : Int} (a k : Int) (h : isW w = true) :
    turn a k w % 2 ^ (nb w - 1) * 2 + turn a k w / 2 ^ (nb w - 1) = turn a (k + 1) w := by
  have ⟨hn, h8, h64⟩ := nb_is h
  have h0 := Int.emod_nonneg k (b := (nb w : Int)) (by omega)
  have h1 := Int.emod_lt_of_pos k (b := (nb w : Int)) (by omega)
  rw [turn_is h, turn_is h]
  have e := rot_step a.toNat (k % (nb w : Int)).toNat (nb w) (by omega)
  have e2 : ((k + 1) % (nb w : Int)).toNat = ((k % (nb w : Int)).toNat + 1) % nb w := by
    have : (k + 1) % (nb w : Int) = ((((k % (nb w : Int)).toNat + 1) % nb w : Nat) : Int) := by
      rw [Int.natCast_emod, Int.natCast_add, Int.toNat_of_nonneg h0]
      show _ = (k % (nb w : Int) + 1) % (nb w : Int)
      rw [Int.emod_add_emod]
    rw [this, Int.toNat_natCast]
  rw [e2, ← e, Int.natCast_add, Int.natCast_mul, Int.natCast_emod, Int.natCast_ediv, Int.natCast_pow]; rfl
theorem rol_step {w : Int} (a k : Int) (h : isW w = true) :
    IntKind.u64.wrap (zx (IntKind.u64.wrap (turn a k w * 2)) w + bit (turn a k w) (8 * w - 1)) = turn a (k + 1) w
    ∧ bit (turn a k w) (8 * w - 1) = bit (turn a (k + 1) w) 0 := by
  have e := turn_next a k h
  have hl := turn_lt a k h
  have hl' := turn_lt a (k + 1) h
  rw [← e] at hl' ⊢
  generalize turn a k w = x at *
  rw [zx_wrap]
  unfold zx bit
  refine ⟨wrap_small ?_ ?_ ?_, ?_⟩ <;> rcases isW_cases h with rfl | rfl | rfl | rfl <;> simp [nb] at *
  · rcases (by omega : x / 128 = 0 ∨ x / 128 = 1) with g | g <;> omega
  · rcases (by omega : x / 32768 = 0 ∨ x / 32768 = 1) with g | g <;> omega
  · rcases (by omega : x / 2147483648 = 0 ∨ x / 2147483648 = 1) with g | g <;> omega
  · rcases (by omega : x / 9223372036854775808 = 0 ∨ x / 9223372036854775808 = 1) with g | g <;> omega
  all_goals omega
theorem ror_step {w : Int} (a k : Int) (h : isW w = true) :
    IntKind.u64.wrap (turn a k w / 2 + IntKind.u64.wrap (bit (turn a k w) 0 * 2 ^ (8 * w - 1).toNat)) = turn a (k - 1) w
    ∧ bit (turn a k w) 0 = oneI (neg (turn a (k - 1) w) w) := by
  have e := turn_next a (k - 1) h
  rw [show k - 1 + 1 = k by omega] at e
  have hl' := turn_lt a (k - 1) h
  have hb := bit_neg (turn_u64 a (k - 1) w) h
  rw [← hb, ← e]
  generalize turn a (k - 1) w = x at *
  have hw : IntKind.u64.wrap (bit (x % 2 ^ (nb w - 1) * 2 + x / 2 ^ (nb w - 1)) 0 * 2 ^ (8 * w - 1).toNat) = x / 2 ^ (nb w - 1) * 2 ^ (nb w - 1) := by
    unfold bit
    refine wrap_small ?_ ?_ ?_ <;> rcases isW_cases h with rfl | rfl | rfl | rfl <;> simp [nb] at * <;> omega
  rw [hw]
  unfold bit
  refine ⟨wrap_small ?_ ?_ ?_, ?_⟩ <;> rcases isW_cases h with rfl | rfl | rfl | rfl <;> simp [nb] at * <;> omega
theorem ror_o {w : Int} (a k : Int) (h : isW w = true) : neg (IntKind.u64.wrap (turn a k w * 2)) w = (bit (turn a k w) (8 * w - 1 - 1) == 1) := by
  have hl := turn_lt a k h
  rw [neg_ge _ h]
  generalize turn a k w = x at *
  rw [zx_wrap]
  unfold zx bit
  rcases isW_cases h with rfl | rfl | rfl | rfl <;> simp [nb] at * <;> rw [Bool.eq_iff_iff] <;> simp <;> omega
theorem low1 (n : Int) : bits .and .i64 n 1 = n % 2 := by
  have h1 : (BitVec.ofInt 64 1).toNat = 2 ^ 1 - 1 := by decide
  have key : (BitVec.ofInt 64 n &&& BitVec.ofInt 64 1).toNat = (n % ((2 ^ 64 : Nat) : Int)).toNat % 2 ^ 1 := by
    rw [BitVec.toNat_and, BitVec.toNat_ofInt, h1, Nat.and_two_pow_sub_one_eq_mod]
  show IntKind.i64.wrap ((BitVec.ofInt 64 n &&& BitVec.ofInt 64 1).toNat : Nat) = n % 2
  rw [key, IntKind.wrap_i64]
  omega
theorem low31 (n : Int) : bits .and .i64 n 31 = n % 32 := by
  have h31 : (BitVec.ofInt 64 31).toNat = 2 ^ 5 - 1 := by decide
  have key : (BitVec.ofInt 64 n &&& BitVec.ofInt 64 31).toNat = (n % ((2 ^ 64 : Nat) : Int)).toNat % 2 ^ 5 := by
    rw [BitVec.toNat_and, BitVec.toNat_ofInt, h31, Nat.and_two_pow_sub_one_eq_mod]
  show IntKind.i64.wrap ((BitVec.ofInt 64 n &&& BitVec.ofInt 64 31).toNat : Nat) = n % 32
  rw [key, IntKind.wrap_i64]
  omega
theorem low63 (n : Int) : bits .and .i64 n 63 = n % 64 := by
  have h63 : (BitVec.ofInt 64 63).toNat = 2 ^ 6 - 1 := by decide
  have key : (BitVec.ofInt 64 n &&& BitVec.ofInt 64 63).toNat = (n % ((2 ^ 64 : Nat) : Int)).toNat % 2 ^ 6 := by
    rw [BitVec.toNat_and, BitVec.toNat_ofInt, h63, Nat.and_two_pow_sub_one_eq_mod]
  show IntKind.i64.wrap ((BitVec.ofInt 64 n &&& BitVec.ofInt 64 63).toNat : Nat) = n % 64
  rw [key, IntKind.wrap_i64]
  omega
end Cq
