/- Plain mathematics of layer 1: products of two words. -/
import Derived.Test.YtebbokaocobmgaaGreatDoorBitn
namespace Cq
open Go

def mhi (x : Int) : Int := x / 18446744073709551616
def mlo (x : Int) : Int := x % 18446744073709551616
theorem mul_bd {a b : Int} (ha : U64 a) (hb : U64 b) : 0 ≤ a * b ∧ a * b ≤ 18446744073709551615 * 18446744073709551615 := by
  unfold U64 at *
  refine ⟨Int.mul_nonneg ha.1 hb.1, ?_⟩
  exact Int.mul_le_mul (by omega) (by omega) hb.1 (by omega)
theorem mlo_u64 (x : Int) : U64 (mlo x) := by unfold U64 mlo; omega
theorem mhi_u64 {a b : Int} (ha : U64 a) (hb : U64 b) : U64 (mhi (a * b)) := by
  have := mul_bd ha hb; unfold U64 mhi; omega
theorem zx4 (v : Int) : zx v 4 = v % 4294967296 := by unfold zx; rw [show nb 4 = 32 from rfl]; rfl
theorem half_bd {x y : Int} (hx : 0 ≤ x ∧ x ≤ 4294967295) (hy : 0 ≤ y ∧ y ≤ 4294967295) : 0 ≤ x * y ∧ x * y ≤ 18446744065119617025 :=
  ⟨Int.mul_nonneg hx.1 hy.1, Int.mul_le_mul hx.2 hy.2 hy.1 (by omega)⟩
theorem halves (a b : Int) : a * b = (a / 4294967296) * (b / 4294967296) * 18446744073709551616
    + ((a / 4294967296) * (b % 4294967296) + (a % 4294967296) * (b / 4294967296)) * 4294967296 + (a % 4294967296) * (b % 4294967296) := by
  have h1 : a = a / 4294967296 * 4294967296 + a % 4294967296 := by omega
  have h2 : b = b / 4294967296 * 4294967296 + b % 4294967296 := by omega
  generalize a / 4294967296 = ah at *; generalize a % 4294967296 = al at *
  generalize b / 4294967296 = bh at *; generalize b % 4294967296 = bl at *
  subst h1 h2
  rw [Int.add_mul, Int.mul_add, Int.mul_add, Int.add_mul]
  have e1 : ah * 4294967296 * (bh * 4294967296) = ah * bh * 18446744073709551616 := by
    rw [Int.mul_assoc, Int.mul_left_comm 4294967296, ← Int.mul_assoc ah]; rfl
  have e2 : ah * 4294967296 * bl = ah * bl * 4294967296 := by rw [Int.mul_assoc, Int.mul_comm 4294967296, ← Int.mul_assoc]
  have e3 : al * (bh * 4294967296) = al * bh * 4294967296 := by rw [← Int.mul_assoc]
  rw [e1, e2, e3]; omega
def cLow (a b : Int) : Int := IntKind.u64.wrap (zx a 4 * zx b 4)
def cMid (a b : Int) : Int := IntKind.u64.wrap (IntKind.u64.wrap (a / 4294967296 * zx b 4) + cLow a b / 4294967296)
def cCross (a b : Int) : Int := IntKind.u64.wrap (IntKind.u64.wrap (zx a 4 * (b / 4294967296)) + zx (cMid a b) 4)
theorem code_mul {a b : Int} (ha : U64 a) (hb : U64 b) :
    IntKind.u64.wrap (IntKind.u64.wrap (IntKind.u64.wrap (a / 4294967296 * (b / 4294967296)) + cMid a b / 4294967296) + cCross a b / 4294967296) = mhi (a * b)
    ∧ IntKind.u64.wrap (cCross a b * 4294967296) + zx (cLow a b) 4 = mlo (a * b) := by
  unfold U64 at ha hb
  have e := halves a b
  have b1 := half_bd (x := a / 4294967296) (y := b / 4294967296) (by omega) (by omega)
  have b2 := half_bd (x := a / 4294967296) (y := b % 4294967296) (by omega) (by omega)
  have b3 := half_bd (x := a % 4294967296) (y := b / 4294967296) (by omega) (by omega)
  have b4 := half_bd (x := a % 4294967296) (y := b % 4294967296) (by omega) (by omega)
  unfold cCross cMid cLow mhi mlo
  simp only [zx4, IntKind.wrap_u64]
  rw [e]
  generalize a / 4294967296 * (b / 4294967296) = s at *
  generalize a / 4294967296 * (b % 4294967296) = q at *
  generalize a % 4294967296 * (b / 4294967296) = r at *
  generalize a % 4294967296 * (b % 4294967296) = p at *
  clear e ha hb
  constructor <;> omega
theorem code_mulLo {a b : Int} (ha : U64 a) (hb : U64 b) :
    bits .or .u64 (IntKind.u64.wrap (cCross a b * 4294967296)) (zx (cLow a b) 4) = mlo (a * b) := by
  rw [← (code_mul ha hb).2]
  have hx := u64_wrap (cCross a b * 4294967296)
  have hy : U64 (zx (cLow a b) 4) := zx_u64 4
  have hx1 : IntKind.u64.wrap (cCross a b * 4294967296) % 4294967296 = 0 := by rw [IntKind.wrap_u64]; omega
  have hy1 : zx (cLow a b) 4 < 4294967296 := by rw [zx4]; omega
  generalize IntKind.u64.wrap (cCross a b * 4294967296) = x at *
  generalize zx (cLow a b) 4 = y at *
  unfold U64 at hx hy
  rw [u64_or x y hx.1 hx.2 hy.1 hy.2, nat_join 32 _ _ (by omega) (by omega)]
  omega
/-- one bit of the other number more -/
theorem mul_round {a h l : Int} (ha : U64 a) (hl : U64 l) (hh : 0 ≤ h ∧ h < 9223372036854775808) (X : Int) (hX : X = h * 18446744073709551616 + l) :
    IntKind.u64.wrap (IntKind.u64.wrap (h * 2) + bit l 63) = mhi (2 * X) ∧ IntKind.u64.wrap (l * 2) = mlo (2 * X)
    ∧ IntKind.u64.wrap (IntKind.u64.wrap (l * 2) + a) = mlo (2 * X + a)
    ∧ (IntKind.u64.wrap (IntKind.u64.wrap (l * 2) + a) < a → mhi (2 * X) + 1 = mhi (2 * X + a))
    ∧ (a ≤ IntKind.u64.wrap (IntKind.u64.wrap (l * 2) + a) → mhi (2 * X) = mhi (2 * X + a)) := by
  subst hX
  unfold U64 at *
  have e : bit l 63 = l / 9223372036854775808 % 2 := rfl
  rw [e]
  simp only [IntKind.wrap_u64, mhi, mlo]
  refine ⟨?_, ?_, ?_, ?_, ?_⟩ <;> omega
theorem mul_step {a b : Int} (j : Nat) : a * (b / 2 ^ j) = 2 * (a * (b / 2 ^ (j + 1))) + bit b (j : Int) * a := by
  have e : b / 2 ^ j = 2 * (b / 2 ^ (j + 1)) + bit b (j : Int) := by
    have h1 : b / 2 ^ (j + 1) = b / 2 ^ j / 2 := by
      rw [Int.pow_succ, Int.ediv_ediv_of_nonneg (Int.le_of_lt (Int.pow_pos (by decide)))]
    have h2 : bit b (j : Int) = b / 2 ^ j % 2 := rfl
    rw [h1, h2]; omega
  rw [e, Int.mul_add, Int.mul_left_comm, Int.mul_comm a (bit b j)]
theorem mul_high {a b : Int} (ha : U64 a) (hb : U64 b) (j : Nat) : 0 ≤ mhi (a * (b / 2 ^ (j + 1))) ∧ mhi (a * (b / 2 ^ (j + 1))) < 9223372036854775808 := by
  unfold U64 at *
  have h2 : b / 2 ^ (j + 1) ≤ 9223372036854775807 := by
    rw [Int.pow_succ, Int.mul_comm, ← Int.ediv_ediv_of_nonneg (by decide)]
    have := Int.ediv_le_self (a := b / 2) (2 ^ j) (by omega)
    omega
  have h3 : 0 ≤ b / 2 ^ (j + 1) := Int.ediv_nonneg hb.1 (Int.le_of_lt (Int.pow_pos (by decide)))
  have h4 : 0 ≤ a * (b / 2 ^ (j + 1)) := Int.mul_nonneg ha.1 h3
  have h5 : a * (b / 2 ^ (j + 1)) ≤ 18446744073709551615 * 9223372036854775807 := Int.mul_le_mul (by omega) h2 h3 (by omega)
  generalize a * (b / 2 ^ (j + 1)) = x at *
  unfold mhi; omega
/-- the same, at the number's own bits -/
theorem mul_turn {a b : Int} (ha : U64 a) (hb : U64 b) (j : Nat) :
    let h := mhi (a * (b / 2 ^ (j + 1))); let l := mlo (a * (b / 2 ^ (j + 1)))
    (bit b (j : Int) = 0 → IntKind.u64.wrap (IntKind.u64.wrap (h * 2) + bit l 63) = mhi (a * (b / 2 ^ j)) ∧ IntKind.u64.wrap (l * 2) = mlo (a * (b / 2 ^ j)))
    ∧ (bit b (j : Int) = 1 → IntKind.u64.wrap (IntKind.u64.wrap (l * 2) + a) = mlo (a * (b / 2 ^ j))
      ∧ (IntKind.u64.wrap (IntKind.u64.wrap (l * 2) + a) < a → IntKind.u64.wrap (IntKind.u64.wrap (IntKind.u64.wrap (h * 2) + bit l 63) + 1) = mhi (a * (b / 2 ^ j)))
      ∧ (a ≤ IntKind.u64.wrap (IntKind.u64.wrap (l * 2) + a) → IntKind.u64.wrap (IntKind.u64.wrap (h * 2) + bit l 63) = mhi (a * (b / 2 ^ j)))) := by
  intro h l
  have hb' : U64 (b / 2 ^ j) := ⟨Int.ediv_nonneg hb.1 (Int.le_of_lt (Int.pow_pos (by decide))), Int.lt_of_le_of_lt (Int.ediv_le_self _ hb.1) hb.2⟩
  have hm := mhi_u64 ha hb'
  have hX : a * (b / 2 ^ (j + 1)) = h * 18446744073709551616 + l := by
    show _ = mhi _ * _ + mlo _
    unfold mhi mlo; omega
  have ⟨r1, r2, r3, r4, r5⟩ := mul_round ha (mlo_u64 _) (mul_high ha hb j) _ hX
  have hs := mul_step (a := a) (b := b) j
  refine ⟨fun h0 => ?_, fun h1 => ?_⟩
  · rw [h0, Int.zero_mul, Int.add_zero] at hs
    rw [hs]; exact ⟨r1, r2⟩
  · rw [h1, Int.one_mul] at hs
    rw [hs] at hm ⊢
    refine ⟨r3, fun g => ?_, fun g => ?_⟩
    · rw [r1, r4 g, wrap_of_u64 hm]
    · rw [r1, r5 g]
theorem neg8 {v : Int} (h : U64 v) : neg v 8 = decide (9223372036854775808 ≤ v) := by
  rw [← neg_code8 h]
  have hx : U64 (v / 9223372036854775808) := by unfold U64 at *; omega
  rw [and_one _ hx]
  unfold U64 at h
  by_cases g : 9223372036854775808 ≤ v
  · have : v / 9223372036854775808 % 2 = 1 := by omega
    rw [this, decide_eq_true g]; rfl
  · have : v / 9223372036854775808 % 2 = 0 := by omega
    rw [this, decide_eq_false g]; rfl
/-- the upper half of the product of the numbers with signs -/
def shi (a b : Int) : Int := (mhi (a * b) - (if neg a 8 then b else 0) - (if neg b 8 then a else 0)) % 18446744073709551616
theorem shi_u64 (a b : Int) : U64 (shi a b) := by unfold U64 shi; omega
/-- of a word below 0 the number without its sign -/
theorem mulS_pos {a b : Int} (ha : neg a 8 = false) (hb : neg b 8 = false) (ua : U64 a) (ub : U64 b) : mhi (a * b) = shi a b := by
  have h := mhi_u64 ua ub
  unfold shi; rw [ha, hb]; unfold U64 at h; simp; omega
theorem mulS_both {a b : Int} (ha : neg a 8 = true) (hb : neg b 8 = true) (ua : U64 a) (ub : U64 b) :
    mhi (IntKind.u64.wrap (-a) * IntKind.u64.wrap (-b)) = shi a b ∧ mlo (IntKind.u64.wrap (-a) * IntKind.u64.wrap (-b)) = mlo (a * b) := by
  have h := mul_bd ua ub
  rw [neg8 ua] at ha; rw [neg8 ub] at hb
  unfold shi; rw [neg8 ua, neg8 ub, ha, hb]
  have ha' := of_decide_eq_true ha
  have hb' := of_decide_eq_true hb
  unfold U64 at ua ub
  have e1 : IntKind.u64.wrap (-a) = 18446744073709551616 - a := by rw [IntKind.wrap_u64]; omega
  have e2 : IntKind.u64.wrap (-b) = 18446744073709551616 - b := by rw [IntKind.wrap_u64]; omega
  have e : (18446744073709551616 - a) * (18446744073709551616 - b) = 340282366920938463463374607431768211456 - 18446744073709551616 * b - 18446744073709551616 * a + a * b := by
    rw [Int.sub_mul, Int.mul_sub, Int.mul_sub, Int.mul_comm a 18446744073709551616]; omega
  have h2 := mul_bd (a := 18446744073709551616 - a) (b := 18446744073709551616 - b) ⟨by omega, by omega⟩ ⟨by omega, by omega⟩
  rw [e] at h2
  rw [e1, e2, e]
  generalize a * b = x at *
  unfold mhi mlo
  simp only [if_true]
  constructor <;> omega
theorem mulS_left {a b : Int} (ha : neg a 8 = true) (hb : neg b 8 = false) (ua : U64 a) (ub : U64 b) :
    IntKind.u64.wrap (-mlo (IntKind.u64.wrap (-a) * b)) = mlo (a * b)
    ∧ (mlo (a * b) = 0 → IntKind.u64.wrap (IntKind.u64.wrap (18446744073709551615 - mhi (IntKind.u64.wrap (-a) * b)) + 1) = shi a b)
    ∧ (mlo (a * b) ≠ 0 → IntKind.u64.wrap (18446744073709551615 - mhi (IntKind.u64.wrap (-a) * b)) = shi a b) := by
  have h := mul_bd ua ub
  rw [neg8 ua] at ha; rw [neg8 ub] at hb
  unfold shi; rw [neg8 ua, neg8 ub, ha, hb]
  have ha' := of_decide_eq_true ha
  have hb' := of_decide_eq_false hb
  unfold U64 at ua ub
  have e1 : IntKind.u64.wrap (-a) = 18446744073709551616 - a := by rw [IntKind.wrap_u64]; omega
  have e : (18446744073709551616 - a) * b = 18446744073709551616 * b - a * b := by rw [Int.sub_mul]
  have h2 := mul_bd (a := 18446744073709551616 - a) (b := b) ⟨by omega, by omega⟩ ub
  rw [e] at h2
  rw [e1, e]
  generalize a * b = x at *
  unfold mhi mlo
  simp only [IntKind.wrap_u64, if_true]
  refine ⟨?_, ?_, ?_⟩ <;> simp <;> omega
theorem shi_comm (a b : Int) : shi a b = shi b a := by unfold shi; rw [Int.mul_comm]; omega
theorem mulS_right {a b : Int} (ha : neg a 8 = false) (hb : neg b 8 = true) (ua : U64 a) (ub : U64 b) :
    IntKind.u64.wrap (-mlo (a * IntKind.u64.wrap (-b))) = mlo (a * b)
    ∧ (mlo (a * b) = 0 → IntKind.u64.wrap (IntKind.u64.wrap (18446744073709551615 - mhi (a * IntKind.u64.wrap (-b))) + 1) = shi a b)
    ∧ (mlo (a * b) ≠ 0 → IntKind.u64.wrap (18446744073709551615 - mhi (a * IntKind.u64.wrap (-b))) = shi a b) := by
  have := mulS_left hb ha ub ua
  rw [Int.mul_comm a (IntKind.u64.wrap (-b)), Int.mul_comm a b, shi_comm a b]; exact this
theorem code_mulS (a b : Int) : (neg a 8 = false → neg b 8 = false → U64 a → U64 b → mhi (a * b) = shi a b)
    ∧ (neg a 8 = true → neg b 8 = false → IntKind.u64.wrap (mhi (a * b) - b) = shi a b)
    ∧ (neg a 8 = false → neg b 8 = true → IntKind.u64.wrap (mhi (a * b) - a) = shi a b)
    ∧ (neg a 8 = true → neg b 8 = true → IntKind.u64.wrap (IntKind.u64.wrap (mhi (a * b) - b) - a) = shi a b) := by
  refine ⟨mulS_pos, ?_, ?_, ?_⟩ <;> (intro ha hb; unfold shi; rw [ha, hb]; simp only [IntKind.wrap_u64, if_true]; (try simp); (try omega))
end Cq
