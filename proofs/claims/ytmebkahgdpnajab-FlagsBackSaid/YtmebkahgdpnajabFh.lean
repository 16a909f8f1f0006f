/- Plain mathematics of layer 8: what a comparison tells; sums of two words and back. -/
import Derived.Test.YtmebkahgdpnajabFa
namespace Cq
open Go

theorem neg_sx8 {w : Int} (v : Int) (h : isW w = true) : neg (sx v w) 8 = neg v w := by
  have hl := zx_lt v w
  have hu := sx_u64 (v := v) w
  rw [neg8 hu]
  unfold sx at *
  rw [neg_ge v h] at *
  generalize zx v w = z at *
  rcases isW_cases h with rfl | rfl | rfl | rfl <;> simp [nb] at * <;> split <;> rename_i g <;> simp [g] at * <;> omega
theorem cmp_c {w : Int} (a b : Int) (ha : U64 a) (hb : U64 b) (h : isW w = true) : lessC a b false w = decide (zx a w < zx b w) := by
  unfold lessC zx
  have h1 := B_nat ha; have h2 := B_nat hb
  rw [h]
  simp only [Bool.true_and, BitVec.carry, BitVec.toNat_not]
  generalize (B a).toNat = x at *; generalize (B b).toNat = y at *
  rw [Bool.eq_iff_iff]
  unfold U64 at *
  rcases isW_cases h with rfl | rfl | rfl | rfl <;> simp [nb] <;> omega
theorem cmp_z {w : Int} (a b : Int) (h : isW w = true) : (sx (lessV a b false w) w == 0) = (zx a w == zx b w) := by
  have e : (sx (lessV a b false w) w == 0) = (lessV a b false w == 0) := by
    have hl := zx_lt (lessV a b false w) w
    rw [zx_lessV] at hl
    unfold sx
    rw [zx_lessV, neg_ge _ h, zx_lessV]
    generalize lessV a b false w = z at *
    rw [Bool.eq_iff_iff]
    rcases isW_cases h with rfl | rfl | rfl | rfl <;> simp [nb] at * <;> split <;> omega
  rw [e]
  unfold lessV sumV zx
  rw [Bool.eq_iff_iff]
  rcases isW_cases h with rfl | rfl | rfl | rfl <;> simp [nb, oneI] <;> omega
theorem lt_sign {w : Int} (a b : Int) (h : isW w = true) : decide (sg a w < sg b w) = (decide (zx a w < zx b w) != (neg a w != neg b w)) := by
  have h1 := zx_lt a w
  have h2 := zx_lt b w
  unfold sg
  rw [neg_ge a h, neg_ge b h]
  generalize zx a w = x at *
  generalize zx b w = y at *
  have key : ∀ M H : Int, 0 < H → M = 2 * H → 0 ≤ x ∧ x < M → 0 ≤ y ∧ y < M →
      decide ((if decide (H ≤ x) = true then x - M else x) < (if decide (H ≤ y) = true then y - M else y)) = (decide (x < y) != (decide (H ≤ x) != decide (H ≤ y))) := by
    intro M H hH hM hx hy
    by_cases p : H ≤ x <;> by_cases q : H ≤ y
    · rw [decide_eq_true p, decide_eq_true q]; simp
    · rw [decide_eq_true p, decide_eq_false q]; simp; rw [decide_eq_false (by omega : ¬ x < y)]; simp; omega
    · rw [decide_eq_false p, decide_eq_true q]; simp; rw [decide_eq_true (by omega : x < y)]; simp; omega
    · rw [decide_eq_false p, decide_eq_false q]; simp
  refine key _ _ (Int.pow_pos (by decide)) ?_ h1 h2
  rcases isW_cases h with rfl | rfl | rfl | rfl <;> simp [nb]
theorem cmp_s {w : Int} (a b : Int) (ha : U64 a) (hb : U64 b) (h : isW w = true) : (neg (lessV a b false w) w != lessO a b false w) = decide (sg a w < sg b w) := by
  rw [lt_sign a b h, ← cmp_c a b ha hb h]
  have ⟨_, h2, h3⟩ := nb_is h
  have e1 : neg (lessV a b false w) w = neg (IntKind.u64.wrap (IntKind.u64.wrap (a - b) - oneI false)) w := by
    rw [← code_lessV a b false w, neg_zx]
  rw [e1, lessC_sumC]
  unfold lessO sumO sumC neg
  rw [h]
  have hs := bit_sum (code_lessB a b false) (nb w - 1) (by omega)
  rw [hs]
  have hb2 : (B (18446744073709551615 - b)).getLsbD (nb w - 1) = !(B b).getLsbD (nb w - 1) := by
    rw [B_compl, BitVec.getLsbD_not]; simp; omega
  rw [hb2]
  simp only [Bool.true_and, Bool.not_false]
  generalize BitVec.carry (nb w - 1) (B a) (B (18446744073709551615 - b)) true = c1
  generalize BitVec.carry (nb w) (B a) (B (18446744073709551615 - b)) true = c2
  generalize (B a).getLsbD (nb w - 1) = x
  generalize (B b).getLsbD (nb w - 1) = y
  cases c1 <;> cases c2 <;> cases x <;> cases y <;> rfl

theorem back_c (a b : Int) (c : Bool) (w : Int) : lessV (sumV a b c w) b c w = zx a w := by
  unfold lessV sumV zx
  rcases nb_five w with h | h | h | h | h <;> rw [h] <;> cases c <;> simp [oneI] <;> omega
theorem zx_full {a : Int} (h : U64 a) : zx a 8 = a := by
  unfold zx; rw [show nb 8 = 64 from rfl]; unfold U64 at h; omega
theorem neg_sum (a : Int) : sumV (lessV 0 a false 8) a false 8 = 0 := by
  unfold lessV sumV; rw [show nb 8 = 64 from rfl]; simp [oneI]; omega
theorem neg_c {a : Int} (h : U64 a) : lessC 0 a false 8 = (a != 0) := by
  rw [cmp_c 0 a ⟨by decide, by decide⟩ h rfl, zx_full h, zx_full ⟨by decide, by decide⟩]
  unfold U64 at h
  rw [Bool.eq_iff_iff]; simp; omega
end Cq
