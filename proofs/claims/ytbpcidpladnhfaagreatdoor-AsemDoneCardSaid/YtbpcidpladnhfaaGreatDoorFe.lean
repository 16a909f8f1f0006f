/- Layer 22: what is told of two words: rules, by mathematics of words. -/
import Derived.Test.YtbpcidpladnhfaaGreatDoorBitv
import Derived.Test.YtbpcidpladnhfaaGreatDoorCXiz
import Derived.Test.YtbpcidpladnhfaaGreatDoorBity
import Derived.Test.YtbpcidpladnhfaaGreatDoorLq
import Derived.BigFrame
namespace Cq
open Go
theorem B_shl (a : Int) (k : Nat) : B (a * 2 ^ k) = B a <<< k := by
  apply BitVec.eq_of_toNat_eq
  rw [BitVec.toNat_shiftLeft, Nat.shiftLeft_eq]
  unfold B
  rw [BitVec.toNat_ofInt, BitVec.toNat_ofInt]
  have e : ((2 ^ 64 : Nat) : Int) = 18446744073709551616 := rfl
  rw [e]
  have h0 : 0 ≤ a % 18446744073709551616 := Int.emod_nonneg _ (by decide)
  have h1 : 0 ≤ a * 2 ^ k % 18446744073709551616 := Int.emod_nonneg _ (by decide)
  apply Int.ofNat.inj
  show ((a * 2 ^ k % 18446744073709551616).toNat : Int) = (((a % 18446744073709551616).toNat * 2 ^ k % 2 ^ 64 : Nat) : Int)
  rw [Int.toNat_of_nonneg h1, Int.natCast_emod, Int.natCast_mul, Int.toNat_of_nonneg h0, Int.natCast_pow]
  show a * 2 ^ k % 18446744073709551616 = a % 18446744073709551616 * 2 ^ k % 18446744073709551616
  rw [Int.mul_emod (a % 18446744073709551616), Int.emod_emod_of_dvd _ (Int.dvd_refl _), ← Int.mul_emod]
theorem B_shr {a : Int} (h : U64 a) (k : Nat) : B (a / 2 ^ k) = B a >>> k := by
  apply BitVec.eq_of_toNat_eq
  obtain ⟨n, rfl⟩ := Int.eq_ofNat_of_zero_le h.1
  have hn : n < 2 ^ 64 := by have := h.2; omega
  rw [BitVec.toNat_ushiftRight, Nat.shiftRight_eq_div_pow]
  have e : ((n : Int) / 2 ^ k) = ((n / 2 ^ k : Nat) : Int) := by simp
  rw [e]
  unfold B
  rw [BitVec.ofInt_natCast, BitVec.ofInt_natCast, BitVec.toNat_ofNat, BitVec.toNat_ofNat, Nat.mod_eq_of_lt hn, Nat.mod_eq_of_lt]
  exact Nat.lt_of_le_of_lt (Nat.div_le_self _ _) hn
theorem getB (n i : Nat) (hi : i < 64) : (B (n : Int)).getLsbD i = n.testBit i := by
  unfold B; rw [BitVec.ofInt_natCast, BitVec.getLsbD_ofNat]; simp [hi]
theorem split_mask (g N : BitVec 64) : g - (g &&& N) = g &&& ~~~ N := by
  have h : (g &&& ~~~ N) + (g &&& N) = g := by
    rw [BitVec.add_eq_or_of_and_eq_zero]
    · apply BitVec.eq_of_getLsbD_eq
      intro i hi
      simp only [BitVec.getLsbD_or, BitVec.getLsbD_and, BitVec.getLsbD_not, hi, decide_true, Bool.true_and]
      cases g.getLsbD i <;> cases N.getLsbD i <;> rfl
    · apply BitVec.eq_of_getLsbD_eq
      intro i hi
      simp only [BitVec.getLsbD_and, BitVec.getLsbD_not, hi, decide_true, Bool.true_and, BitVec.getLsbD_zero]
      cases g.getLsbD i <;> cases N.getLsbD i <;> rfl
  have h2 : g - (g &&& N) = (g &&& ~~~ N) + (g &&& N) - (g &&& N) := by rw [h]
  rw [h2, BitVec.add_sub_cancel]
theorem put16 (g : BitVec 64) (x k : Nat) (hx : x < 65536) : (g &&& ~~~ (B ((65535 * 2 ^ k : Nat) : Int))) ||| B ((x * 2 ^ k : Nat) : Int) = (g &&& ~~~ (B ((65535 * 2 ^ k : Nat) : Int))) + B ((x * 2 ^ k : Nat) : Int) := by
  refine (BitVec.add_eq_or_of_and_eq_zero _ _ ?_).symm
  apply BitVec.eq_of_getLsbD_eq
  intro i hi
  rw [BitVec.getLsbD_and, BitVec.getLsbD_and, BitVec.getLsbD_not, getB _ _ hi, getB _ _ hi, BitVec.getLsbD_zero]
  rw [← Nat.shiftLeft_eq, ← Nat.shiftLeft_eq, Nat.testBit_shiftLeft, Nat.testBit_shiftLeft]
  by_cases h1 : k ≤ i
  · by_cases h2 : i - k < 16
    · have : Nat.testBit 65535 (i - k) = true := by
        rw [show (65535 : Nat) = 2 ^ 16 - 1 from rfl, Nat.testBit_two_pow_sub_one]; simp [h2]
      simp [h1, this]
    · have : Nat.testBit x (i - k) = false := Nat.testBit_lt_two_pow (Nat.lt_of_lt_of_le (show x < 2 ^ 16 from hx) (Nat.pow_le_pow_right (by decide) (by omega)))
      simp [this]
  · simp [h1]
theorem take16 (G k : Nat) : B ((G / 2 ^ k % 65536 * 2 ^ k : Nat) : Int) = B (G : Int) &&& B ((65535 * 2 ^ k : Nat) : Int) := by
  apply BitVec.eq_of_getLsbD_eq
  intro i hi
  rw [BitVec.getLsbD_and, getB _ _ hi, getB _ _ hi, getB _ _ hi, ← Nat.shiftLeft_eq, ← Nat.shiftLeft_eq, Nat.testBit_shiftLeft, Nat.testBit_shiftLeft,
    show (65536 : Nat) = 2 ^ 16 from rfl, Nat.testBit_mod_two_pow, Nat.testBit_div_two_pow, show (65535 : Nat) = 2 ^ 16 - 1 from rfl, Nat.testBit_two_pow_sub_one]
  by_cases h1 : k ≤ i
  · rw [show i - k + k = i by omega]
    by_cases h2 : i - k < 16 <;> simp [h1, h2]
  · simp [h1]
end Cq
namespace Go.Proofs.YtbpcidpladnhfaaGreatDoor
open Go Go.Proofs Go.RowKit Go.CX Go.SX
open Cq (U64 B)
section
variable {ρ : Nat → Value} {φ : Nat → List Value → List Value} {cx : Cx}
theorem u64_of (F : Fits cx.Γ cx.S ρ φ) {x : E} (h : (cx.so x == .int .u64) = true) : ∃ n, x.den ρ φ = .int .u64 n ∧ U64 n := by
  obtain ⟨n, hn, h0, h1⟩ := so_num F (so_eq h)
  have h0 : 0 ≤ n := h0
  have h1 : n ≤ 18446744073709551615 := h1
  exact ⟨n, hn, h0, by omega⟩
theorem notR_ok (F : Fits cx.Γ cx.S ρ φ) : RuleOk ρ φ (notR cx) := by
  intro fs op a b v hf h
  unfold notR at h
  split at h
  · rename_i x y
    split at h
    · rename_i hc
      simp only [Option.some.injEq] at h
      subst h
      rw [Bool.and_eq_true] at hc
      rw [← E.eqv_eq hc.1]
      obtain ⟨n, hn, hu⟩ := u64_of F hc.2
      show Value.bool (bits .xor .u64 18446744073709551615 (vint (x.den ρ φ)) == IntKind.u64.wrap (18446744073709551615 - vint (x.den ρ φ))) = .bool true
      rw [hn]
      congr 1
      rw [beq_iff_eq]
      refine Cq.eq_of_B (Cq.bits_u64 _ _ _) (Cq.u64_wrap _) ?_
      show B (bits .xor .u64 18446744073709551615 n) = B (IntKind.u64.wrap (18446744073709551615 - n))
      rw [Cq.B_not, Cq.B_wrap, Cq.B_sub, Cq.B_ones]
      exact (BitVec.allOnes_sub_eq_not _).symm
    · cases h
  · cases h
theorem backR_ok (F : Fits cx.Γ cx.S ρ φ) : RuleOk ρ φ (backR cx) := by
  intro fs op a b v hf h
  unfold backR at h
  split at h
  · rename_i p y q
    split at h
    · rename_i hc
      simp only [Option.some.injEq] at h
      subst h
      simp only [Bool.and_eq_true] at hc
      obtain ⟨⟨h1, h2⟩, h3⟩ := hc
      rw [E.eqv_eq h2, ← E.eqv_eq h1]
      obtain ⟨n, hn, h0, h1⟩ := u64_of F h3
      show Value.bool (vint (y.den ρ φ) == IntKind.u64.wrap (vint (p.den ρ φ) + IntKind.u64.wrap (vint (y.den ρ φ) - vint (p.den ρ φ)))) = .bool true
      rw [hn]
      generalize vint (p.den ρ φ) = m
      congr 1
      rw [beq_iff_eq, IntKind.wrap_u64, IntKind.wrap_u64]
      simp only [vint_int]
      omega
    · cases h
  · cases h
theorem movkR_ok (F : Fits cx.Γ cx.S ρ φ) : RuleOk ρ φ (movkR cx) := by
  intro fs op a b v hf h
  unfold movkR at h
  split at h
  · rename_i g _ x k
    split at h
    · rename_i hc
      simp only [Option.some.injEq] at h
      subst h
      simp only [Bool.and_eq_true] at hc
      obtain ⟨⟨⟨⟨⟨hk, hg⟩, hv⟩, hlt⟩, ha⟩, hb⟩ := hc
      have hk := Nat.le_of_ble_eq_true hk
      rw [E.eqv_eq ha, E.eqv_eq hb]
      obtain ⟨n, hn, hun⟩ := u64_of F hg
      obtain ⟨m, hm, hum⟩ := u64_of F hv
      have hlt := dec_sound F hf (eq_of_beq hlt)
      have hlt : Value.bool (decide (vint (x.den ρ φ) < 65536)) = .bool true := hlt
      have hlt := of_decide_eq_true (Value.bool.inj hlt)
      rw [hm] at hlt
      have hlt : m < 65536 := hlt
      obtain ⟨G, rfl⟩ := Int.eq_ofNat_of_zero_le hun.1
      obtain ⟨X, rfl⟩ := Int.eq_ofNat_of_zero_le hum.1
      have e : min (Int.ofNat k).toNat IntKind.u64.bits = k := by
        show min k 64 = k
        omega
      have e1 : ((G : Int).fdiv (2 ^ k)).tmod 65536 = ((G / 2 ^ k % 65536 : Nat) : Int) := by
        rw [Int.fdiv_eq_ediv_of_nonneg _ (Int.le_of_lt (Int.pow_pos (by decide))), Int.tmod_eq_emod_of_nonneg (Int.ediv_nonneg (by omega) (Int.le_of_lt (Int.pow_pos (by decide))))]
        simp
      show Value.bool (bits .or .u64 (bits .andNot .u64 (vint (g.den ρ φ)) (Int.ofNat (65535 * 2 ^ k))) (IntKind.u64.wrap (vint (x.den ρ φ) * 2 ^ (min (Int.ofNat k).toNat IntKind.u64.bits))) ==
        IntKind.u64.wrap (IntKind.u64.wrap (vint (g.den ρ φ) - IntKind.u64.wrap (((vint (g.den ρ φ)).fdiv (2 ^ (min (Int.ofNat k).toNat IntKind.u64.bits))).tmod 65536 * 2 ^ (min (Int.ofNat k).toNat IntKind.u64.bits))) + IntKind.u64.wrap (vint (x.den ρ φ) * 2 ^ (min (Int.ofNat k).toNat IntKind.u64.bits)))) = .bool true
      rw [hn, hm, e]
      show Value.bool (bits .or .u64 (bits .andNot .u64 (G : Int) (Int.ofNat (65535 * 2 ^ k))) (IntKind.u64.wrap ((X : Int) * 2 ^ k)) ==
        IntKind.u64.wrap (IntKind.u64.wrap ((G : Int) - IntKind.u64.wrap (((G : Int).fdiv (2 ^ k)).tmod 65536 * 2 ^ k)) + IntKind.u64.wrap ((X : Int) * 2 ^ k))) = .bool true
      rw [e1]
      congr 1
      rw [beq_iff_eq]
      refine Cq.eq_of_B (Cq.bits_u64 _ _ _) (Cq.u64_wrap _) ?_
      have c1 : ((X : Int) * 2 ^ k) = ((X * 2 ^ k : Nat) : Int) := by simp
      have c2 : ((G / 2 ^ k % 65536 : Nat) : Int) * 2 ^ k = ((G / 2 ^ k % 65536 * 2 ^ k : Nat) : Int) := by simp
      rw [c1, c2, Cq.B_or, Cq.B_andNot, Cq.B_wrap, Cq.B_wrap, Cq.B_add, Cq.B_wrap, Cq.B_sub, Cq.B_wrap, Cq.B_wrap, Cq.take16, Cq.split_mask]
      exact Cq.put16 _ X k (by omega)
    · cases h
  · cases h
noncomputable def rulesD (cx : Cx) : RuleT := ruleOr sameR (ruleOr (backR cx) (ruleOr (notR cx) (movkR cx)))
theorem rulesD_ok (F : Fits cx.Γ cx.S ρ φ) : RuleOk ρ φ (rulesD cx) := ruleOr_ok sameR_ok (ruleOr_ok (backR_ok F) (ruleOr_ok (notR_ok F) (movkR_ok F)))
end
end Go.Proofs.YtbpcidpladnhfaaGreatDoor

/- Layer 22: a field of bits of the document, as shifts. -/
namespace Cq
open Go
/-- Bits put one behind the other: of the first j rounds. -/
def psum (f : Nat → Bool) (act : Nat → Bool) (t : Nat) : Nat → Nat
  | 0 => 0
  | j + 1 => if act j then psum f act t j + (f j).toNat * 2 ^ (j + t) else psum f act t j
theorem psum_succ (f act : Nat → Bool) (t j : Nat) : psum f act t (j + 1) = if act j then psum f act t j + (f j).toNat * 2 ^ (j + t) else psum f act t j := rfl
theorem psum_lt (f act : Nat → Bool) (t : Nat) : ∀ j, psum f act t j < 2 ^ (j + t)
  | 0 => Nat.two_pow_pos _
  | j + 1 => by
    have h := psum_lt f act t j
    have e : 2 ^ (j + 1 + t) = 2 ^ (j + t) + 2 ^ (j + t) := by rw [show j + 1 + t = j + t + 1 by omega, Nat.pow_succ]; omega
    rw [psum_succ]
    split
    · cases f j
      · simp; omega
      · simp; omega
    · omega
theorem or_one {b k : Nat} (h : b < 2 ^ k) : b + 1 * 2 ^ k = 2 ^ k ||| b := by
  have := Nat.two_pow_add_eq_or_of_lt h 1
  rw [Nat.mul_one] at this
  rw [← this]; omega
theorem psum_bit (f act : Nat → Bool) (t i : Nat) : ∀ j, (psum f act t j).testBit i = (decide (t ≤ i ∧ i < j + t) && act (i - t) && f (i - t))
  | 0 => by
    rw [decide_eq_false (show ¬ (t ≤ i ∧ i < 0 + t) by omega)]
    simp [psum]
  | j + 1 => by
    have ih := psum_bit f act t i j
    have hl := psum_lt f act t j
    have hi : (psum f act t j).testBit (j + t) = false := Nat.testBit_lt_two_pow hl
    rw [psum_succ]
    by_cases e : i = j + t
    · subst e
      have a1 : (t ≤ j + t ∧ j + t < j + 1 + t) := by omega
      rw [show j + t - t = j by omega, decide_eq_true a1]
      cases ha : act j
      · simp [hi]
      · cases hf : f j
        · simp [hi]
        · simp only [if_true, Bool.toNat_true]
          rw [or_one hl, Nat.testBit_or, Nat.testBit_two_pow_self]
          rfl
    · have hd : decide (t ≤ i ∧ i < j + 1 + t) = decide (t ≤ i ∧ i < j + t) := by
        apply decide_eq_decide.2; omega
      rw [hd, ← ih]
      split
      · cases f j
        · simp
        · simp only [Bool.toNat_true]
          rw [or_one hl, Nat.testBit_or, Nat.testBit_two_pow, decide_eq_false (fun h => e h.symm), Bool.false_or]
      · rfl
/-- which bit a round takes -/
def fbit (n f m : Nat) (k : Nat) : Bool := n.testBit (f + min k (m - 1))
def fact (m t : Nat) (sg : Bool) (k : Nat) : Bool := (decide (k < m) || sg) && decide (k + t < 64)
/-- what the document's loop comes to -/
def fieldV (n f m t : Nat) (sg : Bool) : Nat := psum (fbit n f m) (fact m t sg) t 64
theorem psum_lt64 (f act : Nat → Bool) (t : Nat) (h : ∀ k, act k = true → k + t < 64) : ∀ j, psum f act t j < 2 ^ 64
  | 0 => by simp [psum]
  | j + 1 => by
    cases ha : act j
    · have := psum_lt64 f act t h j
      simp only [psum, ha]; exact this
    · have h1 := psum_lt f act t (j + 1)
      have h2 := h j ha
      exact Nat.lt_of_lt_of_le h1 (Nat.pow_le_pow_right (by decide) (by omega))
theorem fact_t {m t : Nat} {sg : Bool} (k : Nat) (h : fact m t sg k = true) : k + t < 64 := by
  unfold fact at h
  rw [Bool.and_eq_true] at h
  exact of_decide_eq_true h.2
/-- The code's way: cut out, unsigned or signed. -/
def cutB (x : BitVec 64) (f m t : Nat) (sg : Bool) : BitVec 64 := (if sg then ((x >>> f) <<< (64 - m)).sshiftRight (64 - m) else ((x >>> f) <<< (64 - m)) >>> (64 - m)) <<< t
theorem field_cut (n f m t : Nat) (hn : n < 2 ^ 64) (hm : 1 ≤ m ∧ m ≤ 64) (sg : Bool) : B (fieldV n f m t sg : Int) = cutB (B (n : Int)) f m t sg := by
  have hb : ∀ j, (B (n : Int)).getLsbD j = n.testBit j := by
    intro j
    by_cases hj : j < 64
    · exact getB n j hj
    · rw [BitVec.getLsbD_of_ge _ _ (by omega), Nat.testBit_lt_two_pow (Nat.lt_of_lt_of_le hn (Nat.pow_le_pow_right (by decide) (by omega)))]
  have hs : ∀ k, (((B (n : Int)) >>> f) <<< (64 - m)).getLsbD k = (decide (k < 64) && !decide (k < 64 - m) && n.testBit (f + (k - (64 - m)))) := by
    intro k
    rw [BitVec.getLsbD_shiftLeft, BitVec.getLsbD_ushiftRight, hb]
  apply BitVec.eq_of_getLsbD_eq
  intro i hi
  rw [getB _ _ hi]
  unfold fieldV cutB
  rw [psum_bit, BitVec.getLsbD_shiftLeft]
  by_cases ht : t ≤ i
  · have h3 : i - t + t < 64 := by omega
    rw [decide_eq_true (show t ≤ i ∧ i < 64 + t by omega), decide_eq_true hi, decide_eq_false (show ¬ i < t by omega)]
    unfold fact fbit
    rw [decide_eq_true h3]
    cases sg
    · simp only [Bool.or_false, Bool.and_true, Bool.true_and, Bool.not_false, Bool.false_eq_true, if_false]
      rw [BitVec.getLsbD_ushiftRight, hs]
      by_cases hk : i - t < m
      · rw [decide_eq_true hk, decide_eq_true (show 64 - m + (i - t) < 64 by omega), decide_eq_false (show ¬ 64 - m + (i - t) < 64 - m by omega), show 64 - m + (i - t) - (64 - m) = i - t by omega, show min (i - t) (m - 1) = i - t by omega]
        rfl
      · rw [decide_eq_false hk, decide_eq_false (show ¬ 64 - m + (i - t) < 64 by omega)]
        rfl
    · simp only [Bool.or_true, Bool.and_true, Bool.true_and, Bool.not_false, if_true]
      rw [BitVec.getLsbD_sshiftRight, BitVec.msb_eq_getLsbD_last, hs]
      rw [decide_eq_false (show ¬ 64 ≤ i - t by omega)]
      by_cases hk : 64 - m + (i - t) < 64
      · rw [if_pos hk, decide_eq_true hk, decide_eq_false (show ¬ 64 - m + (i - t) < 64 - m by omega), show 64 - m + (i - t) - (64 - m) = i - t by omega, show min (i - t) (m - 1) = i - t by omega]
        rfl
      · rw [if_neg hk, hs, decide_eq_true (show 64 - 1 < 64 by omega), decide_eq_false (show ¬ 64 - 1 < 64 - m by omega), show 64 - 1 - (64 - m) = m - 1 by omega, show min (i - t) (m - 1) = m - 1 by omega]
        rfl
  · rw [decide_eq_false (show ¬ (t ≤ i ∧ i < 64 + t) by omega), decide_eq_true (show i < t by omega)]
    simp
theorem B_sar {T : Int} (h : U64 T) (c : Nat) : B ((IntKind.i64.wrap T).fdiv (2 ^ c)) = (B T).sshiftRight c := by
  have hp : (0 : Int) ≤ 2 ^ c := Int.le_of_lt (Int.pow_pos (by decide))
  have e : IntKind.i64.wrap T = (B T).toInt := by
    rw [IntKind.wrap_i64, BitVec.toInt_eq_toNat_cond, B_toNat h]
    have h0 := h.1
    have h1 := h.2
    have ht : ((T.toNat : Nat) : Int) = T := Int.toNat_of_nonneg h0
    split <;> omega
  have e2 : ((2 : Int) ^ c) = ((2 ^ c : Nat) : Int) := by simp
  rw [e, Int.fdiv_eq_ediv_of_nonneg _ hp, e2, ← Int.shiftRight_eq_div_pow, ← BitVec.toInt_sshiftRight]
  exact BitVec.ofInt_toInt
theorem cut_num {N : Int} (hN : U64 N) (f m t : Nat) (sg : Bool) :
    (if sg then IntKind.u64.wrap (IntKind.u64.wrap ((IntKind.i64.wrap (IntKind.u64.wrap (N.fdiv (2 ^ f) * 2 ^ (64 - m)))).fdiv (2 ^ (64 - m))) * 2 ^ t) else IntKind.u64.wrap ((IntKind.u64.wrap (N.fdiv (2 ^ f) * 2 ^ (64 - m))).fdiv (2 ^ (64 - m)) * 2 ^ t)) = ((cutB (B N) f m t sg).toNat : Int) := by
  have hp : ∀ c : Nat, (0 : Int) ≤ 2 ^ c := fun c => Int.le_of_lt (Int.pow_pos (by decide))
  have hT : B (IntKind.u64.wrap (N.fdiv (2 ^ f) * 2 ^ (64 - m))) = (B N >>> f) <<< (64 - m) := by
    rw [B_wrap, B_shl, Int.fdiv_eq_ediv_of_nonneg _ (hp f), B_shr hN]
  have hU : U64 (IntKind.u64.wrap (N.fdiv (2 ^ f) * 2 ^ (64 - m))) := u64_wrap _
  cases sg
  · simp only [Bool.false_eq_true, if_false]
    refine eq_of_B (u64_wrap _) (u64_toNat _) ?_
    rw [B_wrap, B_shl, Int.fdiv_eq_ediv_of_nonneg _ (hp _), B_shr hU, hT, B_of]
    rfl
  · simp only [if_true]
    refine eq_of_B (u64_wrap _) (u64_toNat _) ?_
    rw [B_wrap, B_shl, B_wrap, B_sar hU, hT, B_of]
    rfl
end Cq
namespace Go.Proofs.YtbpcidpladnhfaaGreatDoor
open Go Go.Proofs Go.RowKit Go.CX Go.SX
open Cq (U64 I64 B bit fieldV psum fbit fact cutB)
/-- The code's term of a field. -/
def cT (r s : E) : E := .cmp .lss s r
def wT (r s : E) : E := .bin .sub .u64 (.int .u64 64) (.ite (cT r s) (.conv .u64 (.bin .add .i64 s (.int .i64 1))) (.conv .u64 (.bin .add .i64 (.bin .sub .i64 s r) (.int .i64 1))))
def upT (r s : E) : E := .ite (cT r s) (.conv .u64 (.bin .sub .i64 (.int .i64 64) r)) (.int .u64 0)
def frT (r s : E) : E := .ite (cT r s) (.int .u64 0) (.conv .u64 r)
def topT (n r s : E) : E := .shf .shl .u64 (.shf .shr .u64 n (frT r s)) (wT r s)
def cutT (sg : Bool) (n r s : E) : E := if sg then .shf .shl .u64 (.conv .u64 (.shf .shr .i64 (.conv .i64 (topT n r s)) (wT r s))) (upT r s) else .shf .shl .u64 (.shf .shr .u64 (topT n r s) (wT r s)) (upT r s)
def fF (R S : Nat) : Nat := if S < R then 0 else R
def mF (R S : Nat) : Nat := if S < R then S + 1 else S - R + 1
def tF (R S : Nat) : Nat := if S < R then 64 - R else 0
theorem fF_lt {R S : Nat} (hR : R < 64) : fF R S < 64 := by unfold fF; split <;> omega
theorem tF_le (R S : Nat) : tF R S ≤ 64 := by unfold tF; split <;> omega
section
variable {ρ : Nat → Value} {φ : Nat → List Value → List Value} {n r s : E} {N : Int} {R S : Nat} (hr : r.den ρ φ = .int .i64 (R : Int)) (hs : s.den ρ φ = .int .i64 (S : Int)) (hR : R < 64) (hS : S < 64)
 include hr hs
theorem cT_den : vbool ((cT r s).den ρ φ) = decide (S < R) := by
  show decide (vint (s.den ρ φ) < vint (r.den ρ φ)) = _
  rw [hr, hs]
  exact decide_eq_decide.2 (by simp only [vint_int]; omega)
theorem ite_cT (a b : E) : (E.ite (cT r s) a b).den ρ φ = if S < R then a.den ρ φ else b.den ρ φ := by
  show (if vbool ((cT r s).den ρ φ) then a.den ρ φ else b.den ρ φ) = _
  rw [cT_den hr hs]
  by_cases h : S < R <;> simp [h]
 include hR hS
theorem wT_den : (wT r s).den ρ φ = .int .u64 ((64 - mF R S : Nat) : Int) := by
  show Value.int .u64 (IntKind.u64.wrap (64 - vint ((E.ite (cT r s) _ _).den ρ φ))) = _
  rw [ite_cT hr hs]
  unfold mF
  congr 1
  split
  · show IntKind.u64.wrap (64 - IntKind.u64.wrap (IntKind.i64.wrap (vint (s.den ρ φ) + 1))) = _
    rw [hs]
    show IntKind.u64.wrap (64 - IntKind.u64.wrap (IntKind.i64.wrap ((S : Int) + 1))) = _
    rw [IntKind.wrap_i64, IntKind.wrap_u64, IntKind.wrap_u64]; omega
  · show IntKind.u64.wrap (64 - IntKind.u64.wrap (IntKind.i64.wrap (IntKind.i64.wrap (vint (s.den ρ φ) - vint (r.den ρ φ)) + 1))) = _
    rw [hs, hr]
    show IntKind.u64.wrap (64 - IntKind.u64.wrap (IntKind.i64.wrap (IntKind.i64.wrap ((S : Int) - R) + 1))) = _
    rw [IntKind.wrap_i64, IntKind.wrap_i64, IntKind.wrap_u64, IntKind.wrap_u64]; omega
theorem upT_den : (upT r s).den ρ φ = .int .u64 ((tF R S : Nat) : Int) := by
  unfold upT
  rw [ite_cT hr hs]
  unfold tF
  split
  · show Value.int .u64 (IntKind.u64.wrap (IntKind.i64.wrap (64 - vint (r.den ρ φ)))) = _
    rw [hr]
    show Value.int .u64 (IntKind.u64.wrap (IntKind.i64.wrap (64 - (R : Int)))) = _
    congr 1
    rw [IntKind.wrap_i64, IntKind.wrap_u64]; omega
  · rfl
theorem frT_den : (frT r s).den ρ φ = .int .u64 ((fF R S : Nat) : Int) := by
  unfold frT
  rw [ite_cT hr hs]
  unfold fF
  split
  · rfl
  · show Value.int .u64 (IntKind.u64.wrap (vint (r.den ρ φ))) = _
    rw [hr]
    show Value.int .u64 (IntKind.u64.wrap (R : Int)) = _
    congr 1
    rw [IntKind.wrap_u64]; omega
theorem topT_den (hn : n.den ρ φ = .int .u64 N) : (topT n r s).den ρ φ = .int .u64 (IntKind.u64.wrap (N.fdiv (2 ^ fF R S) * 2 ^ (64 - mF R S))) := by
  show Value.int .u64 (IntKind.u64.wrap (((vint (n.den ρ φ)).fdiv (2 ^ (min (vint ((frT r s).den ρ φ)).toNat 64))) * 2 ^ (min (vint ((wT r s).den ρ φ)).toNat 64))) = _
  rw [hn, frT_den hr hs hR hS, wT_den hr hs hR hS]
  have h1 := fF_lt (S := S) hR
  show Value.int .u64 (IntKind.u64.wrap ((N.fdiv (2 ^ (min (fF R S) 64))) * 2 ^ (min (64 - mF R S) 64))) = _
  rw [show min (fF R S) 64 = fF R S by omega, show min (64 - mF R S) 64 = 64 - mF R S by omega]
theorem cutT_den (hN : U64 N) (hn : n.den ρ φ = .int .u64 N) (sg : Bool) : (cutT sg n r s).den ρ φ = .int .u64 ((cutB (B N) (fF R S) (mF R S) (tF R S) sg).toNat : Int) := by
  rw [← Cq.cut_num hN]
  have ht := tF_le R S
  have eu : min (vint ((upT r s).den ρ φ)).toNat 64 = tF R S := by
    rw [upT_den hr hs hR hS]
    show min (tF R S) 64 = _
    omega
  have ew : min (vint ((wT r s).den ρ φ)).toNat 64 = 64 - mF R S := by
    rw [wT_den hr hs hR hS]
    show min (64 - mF R S) 64 = _
    omega
  cases sg
  · show Value.int .u64 (IntKind.u64.wrap (((vint ((topT n r s).den ρ φ)).fdiv (2 ^ (min (vint ((wT r s).den ρ φ)).toNat 64))) * 2 ^ (min (vint ((upT r s).den ρ φ)).toNat 64))) = _
    rw [eu, ew, topT_den hr hs hR hS hn]
    rfl
  · show Value.int .u64 (IntKind.u64.wrap ((IntKind.u64.wrap ((IntKind.i64.wrap (vint ((topT n r s).den ρ φ))).fdiv (2 ^ (min (vint ((wT r s).den ρ φ)).toNat 64)))) * 2 ^ (min (vint ((upT r s).den ρ φ)).toNat 64))) = _
    rw [eu, ew, topT_den hr hs hR hS hn]
    rfl
end
end Go.Proofs.YtbpcidpladnhfaaGreatDoor

/- Layer 22: a field of bits of the document: its loop. -/
namespace Go.Proofs.YtbpcidpladnhfaaGreatDoor
open Go.RowKit
open Cq (U64 I64 isW bit oneI fieldV psum fbit fact)
theorem psum_round {N : Int} (hN : U64 N) (f m t j : Nat) (sg : Bool) (hf : f + min j (m - 1) < 64) (ha : fact m t sg j = true) {q : Int} (hq : q = ((f + min j (m - 1) : Nat) : Int)) :
    IntKind.u64.wrap ((psum (fbit N.toNat f m) (fact m t sg) t j : Int) + IntKind.u64.wrap (bit N q * 2 ^ (j + t))) = (psum (fbit N.toNat f m) (fact m t sg) t (j + 1) : Int) := by
  subst hq
  have hlt := Cq.psum_lt64 (fbit N.toNat f m) (fact m t sg) t (fun k h => Cq.fact_t k h) (j + 1)
  have hb : bit N ((f + min j (m - 1) : Nat) : Int) = ((fbit N.toNat f m j).toNat : Int) := by
    show N / 2 ^ (f + min j (m - 1)) % 2 = _
    rw [Cq.bit_B N hN.1 _ hf]
    obtain ⟨n, rfl⟩ := Int.eq_ofNat_of_zero_le hN.1
    rw [show Cq.B (n : Int) = Cq.B ((n : Nat) : Int) from rfl, Cq.getB _ _ hf]
    show oneI (n.testBit (f + min j (m - 1))) = ((n.testBit (f + min j (m - 1))).toNat : Int)
    cases n.testBit (f + min j (m - 1)) <;> rfl
  rw [hb]
  rw [Cq.psum_succ] at hlt ⊢
  rw [ha] at hlt ⊢
  simp only [if_true] at hlt ⊢
  have e : ((fbit N.toNat f m j).toNat : Int) * 2 ^ (j + t) = (((fbit N.toNat f m j).toNat * 2 ^ (j + t) : Nat) : Int) := by simp
  rw [e]
  generalize (fbit N.toNat f m j).toNat * 2 ^ (j + t) = x at *
  generalize psum (fbit N.toNat f m) (fact m t sg) t j = y at *
  have hlt : y + x < 18446744073709551616 := hlt
  rw [IntKind.wrap_u64, IntKind.wrap_u64]
  omega
theorem psum_skip (N : Nat) (f m t j : Nat) (sg : Bool) (ha : fact m t sg j = false) : psum (fbit N f m) (fact m t sg) t (j + 1) = psum (fbit N f m) (fact m t sg) t j := by
  rw [Cq.psum_succ, ha]; rfl
theorem field_lo {N : Int} (hN : U64 N) (R S : Nat) (hR : R < 64) (hS : S < 64) (h : S < R) (m t : Nat) (em : m = S + 1) (et : t = 64 - R) (sg : Bool) (W : World) : Calls Tryz.prog 58 #[.int .u64 N, .int .i64 R, .int .i64 S, .bool sg] W
    fun e W' => e = .returned (.int .u64 (fieldV N.toNat 0 m t sg : Int)) ∧ Drawn W W' := by
  go_enter Tryz.func58, Tryz.ntmps58
  go_wp2_with fail
  rw [show decide (R ≤ S) = false from decide_eq_false (by omega), show (S : Int) + 1 = (m : Int) by omega, show 64 - (R : Int) = (t : Int) by omega]
  have hm1 : 1 ≤ m := by omega
  have hmt : m + t ≤ 64 := by omega
  clear em et
  go_loopw [9, 13] (fun r i wr => ∃ j : Nat, j ≤ 64 ∧ i = .int .i64 j ∧ r = .int .u64 (psum (fbit N.toNat 0 m) (fact m t sg) t j : Int) ∧ Drawn W wr) (fun _ i _ => 64 - (intOf i).toNat)
  case atStart => exact ⟨0, by omega, rfl, rfl, Drawn.refl _⟩
  case round =>
    obtain ⟨j, hj, rfl, rfl, hd⟩ := hrel
    by_cases hlt : j < 64
    · by_cases ht : j + t < 64
      · have et : IntKind.i64.wrap ((j : Int) + (t : Int)) = ((j + t : Nat) : Int) := by rw [IntKind.wrap_i64]; omega
        by_cases hk : j < m
        · have ha : fact m t sg j = true := by unfold fact; simp [hk, ht]
          have HP := Lib.hid (psum_round hN 0 m t j sg (by omega) ha (q := (j : Int)) (by omega))
          go_wp2_with fail
          refine (bit_any N _ (by omega) hN _).mono ?_; rintro e w' ⟨rfl, rfl⟩
          go_wp2_with fail
          go_roundw
          case rel => exact ⟨j + 1, by omega, by go_num, congrArg (Value.int .u64) HP.out, hd⟩
          case measure => simp [intOf]; omega
        · have hk' : m ≤ j := Nat.not_lt.mp hk
          clear hk
          cases sg
          · have ha : fact m t false j = false := by unfold fact; rw [decide_eq_false (show ¬ j < m by omega)]; rfl
            have HP := Lib.hid (psum_skip N.toNat 0 m t j false ha)
            go_wp2_with fail
            go_roundw
            case rel => exact ⟨j + 1, by omega, by go_num, by rw [HP.out], hd⟩
            case measure => simp [intOf]; omega
          · have ha : fact m t true j = true := by unfold fact; simp [ht]
            have HP := Lib.hid (psum_round hN 0 m t j true (by omega) ha (q := (m : Int) - 1) (by omega))
            go_wp2_with fail
            refine (bit_any N _ (by omega) hN _).mono ?_; rintro e w' ⟨rfl, rfl⟩
            go_wp2_with fail
            go_roundw
            case rel => exact ⟨j + 1, by omega, by go_num, congrArg (Value.int .u64) HP.out, hd⟩
            case measure => simp [intOf]; omega
      · have et : IntKind.i64.wrap ((j : Int) + (t : Int)) = ((j + t : Nat) : Int) := by rw [IntKind.wrap_i64]; omega
        have hk' : m ≤ j := by omega
        have ht' : 64 ≤ j + t := by omega
        have ha : fact m t sg j = false := by unfold fact; rw [decide_eq_false (show ¬ j + t < 64 by omega), Bool.and_false]
        clear ht
        cases sg
        · have HP := Lib.hid (psum_skip N.toNat 0 m t j false ha)
          go_wp2_with fail
          go_roundw
          case rel => exact ⟨j + 1, by omega, by go_num, by rw [HP.out], hd⟩
          case measure => simp [intOf]; omega
        · have HP := Lib.hid (psum_skip N.toNat 0 m t j true ha)
          go_wp2_with fail
          go_roundw
          case rel => exact ⟨j + 1, by omega, by go_num, by rw [HP.out], hd⟩
          case measure => simp [intOf]; omega
    · have hj8 : j = 64 := by omega
      subst hj8
      go_wp2_with fail
      go_ret
      exact ⟨rfl, hd⟩
theorem field_hi {N : Int} (hN : U64 N) (R S : Nat) (hR : R < 64) (hS : S < 64) (h : R ≤ S) (m : Nat) (em : m = S - R + 1) (sg : Bool) (W : World) : Calls Tryz.prog 58 #[.int .u64 N, .int .i64 R, .int .i64 S, .bool sg] W
    fun e W' => e = .returned (.int .u64 (fieldV N.toNat R m 0 sg : Int)) ∧ Drawn W W' := by
  go_enter Tryz.func58, Tryz.ntmps58
  go_wp2_with fail
  rw [show (S : Int) - (R : Int) + 1 = (m : Int) by omega]
  have hm1 : 1 ≤ m := by omega
  have hmt : R + m ≤ 64 := by omega
  clear em
  go_loopw [9, 13] (fun r i wr => ∃ j : Nat, j ≤ 64 ∧ i = .int .i64 j ∧ r = .int .u64 (psum (fbit N.toNat R m) (fact m 0 sg) 0 j : Int) ∧ Drawn W wr) (fun _ i _ => 64 - (intOf i).toNat)
  case atStart => exact ⟨0, by omega, rfl, rfl, Drawn.refl _⟩
  case round =>
    obtain ⟨j, hj, rfl, rfl, hd⟩ := hrel
    by_cases hlt : j < 64
    · by_cases hk : j < m
      · have ha : fact m 0 sg j = true := by unfold fact; simp [hk, hlt]
        have HP := Lib.hid (psum_round hN R m 0 j sg (by omega) ha (q := (R : Int) + (j : Int)) (by omega))
        go_wp2_with fail
        refine (bit_any N _ (by omega) hN _).mono ?_; rintro e w' ⟨rfl, rfl⟩
        go_wp2_with fail
        go_roundw
        case rel => exact ⟨j + 1, by omega, by go_num, congrArg (Value.int .u64) HP.out, hd⟩
        case measure => simp [intOf]; omega
      · have hk' : m ≤ j := Nat.not_lt.mp hk
        clear hk
        cases sg
        · have ha : fact m 0 false j = false := by unfold fact; rw [decide_eq_false (show ¬ j < m by omega)]; rfl
          have HP := Lib.hid (psum_skip N.toNat R m 0 j false ha)
          go_wp2_with fail
          go_roundw
          case rel => exact ⟨j + 1, by omega, by go_num, by rw [HP.out], hd⟩
          case measure => simp [intOf]; omega
        · have ha : fact m 0 true j = true := by unfold fact; simp [hlt]
          have HP := Lib.hid (psum_round hN R m 0 j true (by omega) ha (q := (R : Int) + ((m : Int) - 1)) (by omega))
          go_wp2_with fail
          refine (bit_any N _ (by omega) hN _).mono ?_; rintro e w' ⟨rfl, rfl⟩
          go_wp2_with fail
          go_roundw
          case rel => exact ⟨j + 1, by omega, by go_num, congrArg (Value.int .u64) HP.out, hd⟩
          case measure => simp [intOf]; omega
    · have hj8 : j = 64 := by omega
      subst hj8
      go_wp2_with fail
      go_ret
      exact ⟨rfl, hd⟩
theorem fieldR_any {N : Int} (hN : U64 N) (R S : Nat) (hR : R < 64) (hS : S < 64) (sg : Bool) (W : World) : Calls Tryz.prog 58 #[.int .u64 N, .int .i64 R, .int .i64 S, .bool sg] W
    fun e W' => e = .returned (.int .u64 ((Cq.cutB (Cq.B N) (fF R S) (mF R S) (tF R S) sg).toNat : Int)) ∧ Below W.heap.size W W' := by
  have hn : N.toNat < 2 ^ 64 := by have := hN.2; have := hN.1; omega
  have hb : Cq.B ((N.toNat : Nat) : Int) = Cq.B N := by rw [Int.toNat_of_nonneg hN.1]
  have fin : ∀ f m t : Nat, 1 ≤ m ∧ m ≤ 64 → (fieldV N.toNat f m t sg : Int) = ((Cq.cutB (Cq.B N) f m t sg).toNat : Int) := by
    intro f m t hm
    have := Cq.field_cut N.toNat f m t hn hm sg
    rw [hb] at this
    have hl := Cq.psum_lt64 (fbit N.toNat f m) (fact m t sg) t (fun k h => Cq.fact_t k h) 64
    refine Cq.eq_of_B ⟨Int.natCast_nonneg _, ?_⟩ (Cq.u64_toNat _) (this.trans (Cq.B_of _).symm)
    have hl : fieldV N.toNat f m t sg < 18446744073709551616 := hl
    omega
  by_cases h : S < R
  · rw [show fF R S = 0 from if_pos h, show mF R S = S + 1 from if_pos h, show tF R S = 64 - R from if_pos h, ← fin 0 (S + 1) (64 - R) (by omega)]
    exact (field_lo hN R S hR hS h _ _ rfl rfl sg W).mono fun e w' ⟨h1, h2⟩ => ⟨h1, h2.below⟩
  · rw [show fF R S = R from if_neg h, show mF R S = S - R + 1 from if_neg h, show tF R S = 0 from if_neg h, ← fin R (S - R + 1) 0 (by omega)]
    exact (field_hi hN R S hR hS (Nat.not_lt.mp h) _ rfl sg W).mono fun e w' ⟨h1, h2⟩ => ⟨h1, h2.below⟩
end Go.Proofs.YtbpcidpladnhfaaGreatDoor
