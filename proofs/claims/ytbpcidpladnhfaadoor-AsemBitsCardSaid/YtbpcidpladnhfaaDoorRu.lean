/- Layer 22: what is told of two words: rules, by mathematics of words. -/
import Derived.Test.YtbpcidpladnhfaaDoorBitv
import Derived.Test.YtbpcidpladnhfaaDoorCXiz
namespace Cq
open Go
theorem B_shl (a : Int) (k : Nat) : B (a * 2 ^ k) = B a <<< k := by
  apply BitVec.eq_of_toNat_eq
  rw [BitVec.toNat_shiftLeft, Nat.shiftLeft_eq]
  unfold B
  rw [BitVec.toNat_ofInt, BitVec.toNat_ofInt]
  have e : ((2 ^ 64 : Nat) : Int) = 18446744073709551616 := rfl
  rw [e]
  have h0 : 0 ≤ a % 18446744073709551616 := Int.emod_nonneg _ (by decide)
  have h1 : 0 ≤ a * 2 ^ k % 18446744073709551616 := Int.emod_nonneg _ (by decide)
  apply Int.ofNat.inj
  show ((a * 2 ^ k % 18446744073709551616).toNat : Int) = (((a % 18446744073709551616).toNat * 2 ^ k % 2 ^ 64 : Nat) : Int)
  rw [Int.toNat_of_nonneg h1, Int.natCast_emod, Int.natCast_mul, Int.toNat_of_nonneg h0, Int.natCast_pow]
  show a * 2 ^ k % 18446744073709551616 = a % 18446744073709551616 * 2 ^ k % 18446744073709551616
  rw [Int.mul_emod (a % 18446744073709551616), Int.emod_emod_of_dvd _ (Int.dvd_refl _), ← Int.mul_emod]
theorem B_shr {a : Int} (h : U64 a) (k : Nat) : B (a / 2 ^ k) = B a >>> k := by
  apply BitVec.eq_of_toNat_eq
  obtain ⟨n, rfl⟩ := Int.eq_ofNat_of_zero_le h.1
  have hn : n < 2 ^ 64 := by have := h.2; omega
  rw [BitVec.toNat_ushiftRight, Nat.shiftRight_eq_div_pow]
  have e : ((n : Int) / 2 ^ k) = ((n / 2 ^ k : Nat) : Int) := by simp
  rw [e]
  unfold B
  rw [BitVec.ofInt_natCast, BitVec.ofInt_natCast, BitVec.toNat_ofNat, BitVec.toNat_ofNat, Nat.mod_eq_of_lt hn, Nat.mod_eq_of_lt]
  exact Nat.lt_of_le_of_lt (Nat.div_le_self _ _) hn
theorem getB (n i : Nat) (hi : i < 64) : (B (n : Int)).getLsbD i = n.testBit i := by
  unfold B; rw [BitVec.ofInt_natCast, BitVec.getLsbD_ofNat]; simp [hi]
theorem split_mask (g N : BitVec 64) : g - (g &&& N) = g &&& ~~~ N := by
  have h : (g &&& ~~~ N) + (g &&& N) = g := by
    rw [BitVec.add_eq_or_of_and_eq_zero]
    · apply BitVec.eq_of_getLsbD_eq
      intro i hi
      simp only [BitVec.getLsbD_or, BitVec.getLsbD_and, BitVec.getLsbD_not, hi, decide_true, Bool.true_and]
      cases g.getLsbD i <;> cases N.getLsbD i <;> rfl
    · apply BitVec.eq_of_getLsbD_eq
      intro i hi
      simp only [BitVec.getLsbD_and, BitVec.getLsbD_not, hi, decide_true, Bool.true_and, BitVec.getLsbD_zero]
      cases g.getLsbD i <;> cases N.getLsbD i <;> rfl
  have h2 : g - (g &&& N) = (g &&& ~~~ N) + (g &&& N) - (g &&& N) := by rw [h]
  rw [h2, BitVec.add_sub_cancel]
theorem put16 (g : BitVec 64) (x k : Nat) (hx : x < 65536) : (g &&& ~~~ (B ((65535 * 2 ^ k : Nat) : Int))) ||| B ((x * 2 ^ k : Nat) : Int) = (g &&& ~~~ (B ((65535 * 2 ^ k : Nat) : Int))) + B ((x * 2 ^ k : Nat) : Int) := by
  refine (BitVec.add_eq_or_of_and_eq_zero _ _ ?_).symm
  apply BitVec.eq_of_getLsbD_eq
  intro i hi
  rw [BitVec.getLsbD_and, BitVec.getLsbD_and, BitVec.getLsbD_not, getB _ _ hi, getB _ _ hi, BitVec.getLsbD_zero]
  rw [← Nat.shiftLeft_eq, ← Nat.shiftLeft_eq, Nat.testBit_shiftLeft, Nat.testBit_shiftLeft]
  by_cases h1 : k ≤ i
  · by_cases h2 : i - k < 16
    · have : Nat.testBit 65535 (i - k) = true := by
        rw [show (65535 : Nat) = 2 ^ 16 - 1 from rfl, Nat.testBit_two_pow_sub_one]; simp [h2]
      simp [h1, this]
    · have : Nat.testBit x (i - k) = false := Nat.testBit_lt_two_pow (Nat.lt_of_lt_of_le (show x < 2 ^ 16 from hx) (Nat.pow_le_pow_right (by decide) (by omega)))
      simp [this]
  · simp [h1]
theorem take16 (G k : Nat) : B ((G / 2 ^ k % 65536 * 2 ^ k : Nat) : Int) = B (G : Int) &&& B ((65535 * 2 ^ k : Nat) : Int) := by
  apply BitVec.eq_of_getLsbD_eq
  intro i hi
  rw [BitVec.getLsbD_and, getB _ _ hi, getB _ _ hi, getB _ _ hi, ← Nat.shiftLeft_eq, ← Nat.shiftLeft_eq, Nat.testBit_shiftLeft, Nat.testBit_shiftLeft,
    show (65536 : Nat) = 2 ^ 16 from rfl, Nat.testBit_mod_two_pow, Nat.testBit_div_two_pow, show (65535 : Nat) = 2 ^ 16 - 1 from rfl, Nat.testBit_two_pow_sub_one]
  by_cases h1 : k ≤ i
  · rw [show i - k + k = i by omega]
    by_cases h2 : i - k < 16 <;> simp [h1, h2]
  · simp [h1]
end Cq
namespace Go.Proofs.YtbpcidpladnhfaaDoor
open Go Go.Proofs Go.RowKit Go.CX Go.SX
open Cq (U64 B)
section
variable {ρ : Nat → Value} {φ : Nat → List Value → List Value} {cx : Cx}
theorem u64_of (F : Fits cx.Γ cx.S ρ φ) {x : E} (h : (cx.so x == .int .u64) = true) : ∃ n, x.den ρ φ = .int .u64 n ∧ U64 n := by
  obtain ⟨n, hn, h0, h1⟩ := so_num F (so_eq h)
  have h0 : 0 ≤ n := h0
  have h1 : n ≤ 18446744073709551615 := h1
  exact ⟨n, hn, h0, by omega⟩
theorem notR_ok (F : Fits cx.Γ cx.S ρ φ) : RuleOk ρ φ (notR cx) := by
  intro fs op a b v hf h
  unfold notR at h
  split at h
  · rename_i x y
    split at h
    · rename_i hc
      simp only [Option.some.injEq] at h
      subst h
      rw [Bool.and_eq_true] at hc
      rw [← E.eqv_eq hc.1]
      obtain ⟨n, hn, hu⟩ := u64_of F hc.2
      show Value.bool (bits .xor .u64 18446744073709551615 (vint (x.den ρ φ)) == IntKind.u64.wrap (18446744073709551615 - vint (x.den ρ φ))) = .bool true
      rw [hn]
      congr 1
      rw [beq_iff_eq]
      refine Cq.eq_of_B (Cq.bits_u64 _ _ _) (Cq.u64_wrap _) ?_
      show B (bits .xor .u64 18446744073709551615 n) = B (IntKind.u64.wrap (18446744073709551615 - n))
      rw [Cq.B_not, Cq.B_wrap, Cq.B_sub, Cq.B_ones]
      exact (BitVec.allOnes_sub_eq_not _).symm
    · cases h
  · cases h
theorem backR_ok (F : Fits cx.Γ cx.S ρ φ) : RuleOk ρ φ (backR cx) := by
  intro fs op a b v hf h
  unfold backR at h
  split at h
  · rename_i p y q
    split at h
    · rename_i hc
      simp only [Option.some.injEq] at h
      subst h
      simp only [Bool.and_eq_true] at hc
      obtain ⟨⟨h1, h2⟩, h3⟩ := hc
      rw [E.eqv_eq h2, ← E.eqv_eq h1]
      obtain ⟨n, hn, h0, h1⟩ := u64_of F h3
      show Value.bool (vint (y.den ρ φ) == IntKind.u64.wrap (vint (p.den ρ φ) + IntKind.u64.wrap (vint (y.den ρ φ) - vint (p.den ρ φ)))) = .bool true
      rw [hn]
      generalize vint (p.den ρ φ) = m
      congr 1
      rw [beq_iff_eq, IntKind.wrap_u64, IntKind.wrap_u64]
      simp only [vint_int]
      omega
    · cases h
  · cases h
theorem movkR_ok (F : Fits cx.Γ cx.S ρ φ) : RuleOk ρ φ (movkR cx) := by
  intro fs op a b v hf h
  unfold movkR at h
  split at h
  · rename_i g _ x k
    split at h
    · rename_i hc
      simp only [Option.some.injEq] at h
      subst h
      simp only [Bool.and_eq_true] at hc
      obtain ⟨⟨⟨⟨⟨hk, hg⟩, hv⟩, hlt⟩, ha⟩, hb⟩ := hc
      have hk := Nat.le_of_ble_eq_true hk
      rw [E.eqv_eq ha, E.eqv_eq hb]
      obtain ⟨n, hn, hun⟩ := u64_of F hg
      obtain ⟨m, hm, hum⟩ := u64_of F hv
      have hlt := dec_sound F hf (eq_of_beq hlt)
      have hlt : Value.bool (decide (vint (x.den ρ φ) < 65536)) = .bool true := hlt
      have hlt := of_decide_eq_true (Value.bool.inj hlt)
      rw [hm] at hlt
      have hlt : m < 65536 := hlt
      obtain ⟨G, rfl⟩ := Int.eq_ofNat_of_zero_le hun.1
      obtain ⟨X, rfl⟩ := Int.eq_ofNat_of_zero_le hum.1
      have e : min (Int.ofNat k).toNat IntKind.u64.bits = k := by
        show min k 64 = k
        omega
      have e1 : ((G : Int).fdiv (2 ^ k)).tmod 65536 = ((G / 2 ^ k % 65536 : Nat) : Int) := by
        rw [Int.fdiv_eq_ediv_of_nonneg _ (Int.le_of_lt (Int.pow_pos (by decide))), Int.tmod_eq_emod_of_nonneg (Int.ediv_nonneg (by omega) (Int.le_of_lt (Int.pow_pos (by decide))))]
        simp
      show Value.bool (bits .or .u64 (bits .andNot .u64 (vint (g.den ρ φ)) (Int.ofNat (65535 * 2 ^ k))) (IntKind.u64.wrap (vint (x.den ρ φ) * 2 ^ (min (Int.ofNat k).toNat IntKind.u64.bits))) ==
        IntKind.u64.wrap (IntKind.u64.wrap (vint (g.den ρ φ) - IntKind.u64.wrap (((vint (g.den ρ φ)).fdiv (2 ^ (min (Int.ofNat k).toNat IntKind.u64.bits))).tmod 65536 * 2 ^ (min (Int.ofNat k).toNat IntKind.u64.bits))) + IntKind.u64.wrap (vint (x.den ρ φ) * 2 ^ (min (Int.ofNat k).toNat IntKind.u64.bits)))) = .bool true
      rw [hn, hm, e]
      show Value.bool (bits .or .u64 (bits .andNot .u64 (G : Int) (Int.ofNat (65535 * 2 ^ k))) (IntKind.u64.wrap ((X : Int) * 2 ^ k)) ==
        IntKind.u64.wrap (IntKind.u64.wrap ((G : Int) - IntKind.u64.wrap (((G : Int).fdiv (2 ^ k)).tmod 65536 * 2 ^ k)) + IntKind.u64.wrap ((X : Int) * 2 ^ k))) = .bool true
      rw [e1]
      congr 1
      rw [beq_iff_eq]
      refine Cq.eq_of_B (Cq.bits_u64 _ _ _) (Cq.u64_wrap _) ?_
      have c1 : ((X : Int) * 2 ^ k) = ((X * 2 ^ k : Nat) : Int) := by simp
      have c2 : ((G / 2 ^ k % 65536 : Nat) : Int) * 2 ^ k = ((G / 2 ^ k % 65536 * 2 ^ k : Nat) : Int) := by simp
      rw [c1, c2, Cq.B_or, Cq.B_andNot, Cq.B_wrap, Cq.B_wrap, Cq.B_add, Cq.B_wrap, Cq.B_sub, Cq.B_wrap, Cq.B_wrap, Cq.take16, Cq.split_mask]
      exact Cq.put16 _ X k (by omega)
    · cases h
  · cases h
noncomputable def rulesD (cx : Cx) : RuleT := ruleOr sameR (ruleOr (backR cx) (ruleOr (notR cx) (movkR cx)))
theorem rulesD_ok (F : Fits cx.Γ cx.S ρ φ) : RuleOk ρ φ (rulesD cx) := ruleOr_ok sameR_ok (ruleOr_ok (backR_ok F) (ruleOr_ok (notR_ok F) (movkR_ok F)))
end
end Go.Proofs.YtbpcidpladnhfaaDoor
