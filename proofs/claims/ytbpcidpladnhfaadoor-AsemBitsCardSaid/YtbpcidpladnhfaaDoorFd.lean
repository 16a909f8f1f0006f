/- Layer 22: a field of bits of the document, as shifts. -/
import Derived.Test.YtbpcidpladnhfaaDoorBitv
import Derived.Test.YtbpcidpladnhfaaDoorRu
namespace Cq
open Go
/-- Bits put one behind the other: of the first j rounds. -/
def psum (f : Nat → Bool) (act : Nat → Bool) (t : Nat) : Nat → Nat
  | 0 => 0
  | j + 1 => if act j then psum f act t j + (f j).toNat * 2 ^ (j + t) else psum f act t j
theorem psum_succ (f act : Nat → Bool) (t j : Nat) : psum f act t (j + 1) = if act j then psum f act t j + (f j).toNat * 2 ^ (j + t) else psum f act t j := rfl
theorem psum_lt (f act : Nat → Bool) (t : Nat) : ∀ j, psum f act t j < 2 ^ (j + t)
  | 0 => Nat.two_pow_pos _
  | j + 1 => by
    have h := psum_lt f act t j
    have e : 2 ^ (j + 1 + t) = 2 ^ (j + t) + 2 ^ (j + t) := by rw [show j + 1 + t = j + t + 1 by omega, Nat.pow_succ]; omega
    rw [psum_succ]
    split
    · cases f j
      · simp; omega
      · simp; omega
    · omega
theorem or_one {b k : Nat} (h : b < 2 ^ k) : b + 1 * 2 ^ k = 2 ^ k ||| b := by
  have := Nat.two_pow_add_eq_or_of_lt h 1
  rw [Nat.mul_one] at this
  rw [← this]; omega
theorem psum_bit (f act : Nat → Bool) (t i : Nat) : ∀ j, (psum f act t j).testBit i = (decide (t ≤ i ∧ i < j + t) && act (i - t) && f (i - t))
  | 0 => by
    rw [decide_eq_false (show ¬ (t ≤ i ∧ i < 0 + t) by omega)]
    simp [psum]
  | j + 1 => by
    have ih := psum_bit f act t i j
    have hl := psum_lt f act t j
    have hi : (psum f act t j).testBit (j + t) = false := Nat.testBit_lt_two_pow hl
    rw [psum_succ]
    by_cases e : i = j + t
    · subst e
      have a1 : (t ≤ j + t ∧ j + t < j + 1 + t) := by omega
      rw [show j + t - t = j by omega, decide_eq_true a1]
      cases ha : act j
      · simp [hi]
      · cases hf : f j
        · simp [hi]
        · simp only [if_true, Bool.toNat_true]
          rw [or_one hl, Nat.testBit_or, Nat.testBit_two_pow_self]
          rfl
    · have hd : decide (t ≤ i ∧ i < j + 1 + t) = decide (t ≤ i ∧ i < j + t) := by
        apply decide_eq_decide.2; omega
      rw [hd, ← ih]
      split
      · cases f j
        · simp
        · simp only [Bool.toNat_true]
          rw [or_one hl, Nat.testBit_or, Nat.testBit_two_pow, decide_eq_false (fun h => e h.symm), Bool.false_or]
      · rfl
/-- which bit a round takes -/
def fbit (n f m : Nat) (k : Nat) : Bool := n.testBit (f + min k (m - 1))
def fact (m t : Nat) (sg : Bool) (k : Nat) : Bool := (decide (k < m) || sg) && decide (k + t < 64)
/-- what the document's loop comes to -/
def fieldV (n f m t : Nat) (sg : Bool) : Nat := psum (fbit n f m) (fact m t sg) t 64
theorem psum_lt64 (f act : Nat → Bool) (t : Nat) (h : ∀ k, act k = true → k + t < 64) : ∀ j, psum f act t j < 2 ^ 64
  | 0 => by simp [psum]
  | j + 1 => by
    cases ha : act j
    · have := psum_lt64 f act t h j
      simp only [psum, ha]; exact this
    · have h1 := psum_lt f act t (j + 1)
      have h2 := h j ha
      exact Nat.lt_of_lt_of_le h1 (Nat.pow_le_pow_right (by decide) (by omega))
theorem fact_t {m t : Nat} {sg : Bool} (k : Nat) (h : fact m t sg k = true) : k + t < 64 := by
  unfold fact at h
  rw [Bool.and_eq_true] at h
  exact of_decide_eq_true h.2
/-- The code's way: cut out, unsigned or signed. -/
def cutB (x : BitVec 64) (f m t : Nat) (sg : Bool) : BitVec 64 := (if sg then ((x >>> f) <<< (64 - m)).sshiftRight (64 - m) else ((x >>> f) <<< (64 - m)) >>> (64 - m)) <<< t
theorem field_cut (n f m t : Nat) (hn : n < 2 ^ 64) (hm : 1 ≤ m ∧ m ≤ 64) (sg : Bool) : B (fieldV n f m t sg : Int) = cutB (B (n : Int)) f m t sg := by
  have hb : ∀ j, (B (n : Int)).getLsbD j = n.testBit j := by
    intro j
    by_cases hj : j < 64
    · exact getB n j hj
    · rw [BitVec.getLsbD_of_ge _ _ (by omega), Nat.testBit_lt_two_pow (Nat.lt_of_lt_of_le hn (Nat.pow_le_pow_right (by decide) (by omega)))]
  have hs : ∀ k, (((B (n : Int)) >>> f) <<< (64 - m)).getLsbD k = (decide (k < 64) && !decide (k < 64 - m) && n.testBit (f + (k - (64 - m)))) := by
    intro k
    rw [BitVec.getLsbD_shiftLeft, BitVec.getLsbD_ushiftRight, hb]
  apply BitVec.eq_of_getLsbD_eq
  intro i hi
  rw [getB _ _ hi]
  unfold fieldV cutB
  rw [psum_bit, BitVec.getLsbD_shiftLeft]
  by_cases ht : t ≤ i
  · have h3 : i - t + t < 64 := by omega
    rw [decide_eq_true (show t ≤ i ∧ i < 64 + t by omega), decide_eq_true hi, decide_eq_false (show ¬ i < t by omega)]
    unfold fact fbit
    rw [decide_eq_true h3]
    cases sg
    · simp only [Bool.or_false, Bool.and_true, Bool.true_and, Bool.not_false, Bool.false_eq_true, if_false]
      rw [BitVec.getLsbD_ushiftRight, hs]
      by_cases hk : i - t < m
      · rw [decide_eq_true hk, decide_eq_true (show 64 - m + (i - t) < 64 by omega), decide_eq_false (show ¬ 64 - m + (i - t) < 64 - m by omega), show 64 - m + (i - t) - (64 - m) = i - t by omega, show min (i - t) (m - 1) = i - t by omega]
        rfl
      · rw [decide_eq_false hk, decide_eq_false (show ¬ 64 - m + (i - t) < 64 by omega)]
        rfl
    · simp only [Bool.or_true, Bool.and_true, Bool.true_and, Bool.not_false, if_true]
      rw [BitVec.getLsbD_sshiftRight, BitVec.msb_eq_getLsbD_last, hs]
      rw [decide_eq_false (show ¬ 64 ≤ i - t by omega)]
      by_cases hk : 64 - m + (i - t) < 64
      · rw [if_pos hk, decide_eq_true hk, decide_eq_false (show ¬ 64 - m + (i - t) < 64 - m by omega), show 64 - m + (i - t) - (64 - m) = i - t by omega, show min (i - t) (m - 1) = i - t by omega]
        rfl
      · rw [if_neg hk, hs, decide_eq_true (show 64 - 1 < 64 by omega), decide_eq_false (show ¬ 64 - 1 < 64 - m by omega), show 64 - 1 - (64 - m) = m - 1 by omega, show min (i - t) (m - 1) = m - 1 by omega]
        rfl
  · rw [decide_eq_false (show ¬ (t ≤ i ∧ i < 64 + t) by omega), decide_eq_true (show i < t by omega)]
    simp
theorem B_sar {T : Int} (h : U64 T) (c : Nat) : B ((IntKind.i64.wrap T).fdiv (2 ^ c)) = (B T).sshiftRight c := by
  have hp : (0 : Int) ≤ 2 ^ c := Int.le_of_lt (Int.pow_pos (by decide))
  have e : IntKind.i64.wrap T = (B T).toInt := by
    rw [IntKind.wrap_i64, BitVec.toInt_eq_toNat_cond, B_toNat h]
    have h0 := h.1
    have h1 := h.2
    have ht : ((T.toNat : Nat) : Int) = T := Int.toNat_of_nonneg h0
    split <;> omega
  have e2 : ((2 : Int) ^ c) = ((2 ^ c : Nat) : Int) := by simp
  rw [e, Int.fdiv_eq_ediv_of_nonneg _ hp, e2, ← Int.shiftRight_eq_div_pow, ← BitVec.toInt_sshiftRight]
  exact BitVec.ofInt_toInt
theorem cut_num {N : Int} (hN : U64 N) (f m t : Nat) (sg : Bool) :
    (if sg then IntKind.u64.wrap (IntKind.u64.wrap ((IntKind.i64.wrap (IntKind.u64.wrap (N.fdiv (2 ^ f) * 2 ^ (64 - m)))).fdiv (2 ^ (64 - m))) * 2 ^ t) else IntKind.u64.wrap ((IntKind.u64.wrap (N.fdiv (2 ^ f) * 2 ^ (64 - m))).fdiv (2 ^ (64 - m)) * 2 ^ t)) = ((cutB (B N) f m t sg).toNat : Int) := by
  have hp : ∀ c : Nat, (0 : Int) ≤ 2 ^ c := fun c => Int.le_of_lt (Int.pow_pos (by decide))
  have hT : B (IntKind.u64.wrap (N.fdiv (2 ^ f) * 2 ^ (64 - m))) = (B N >>> f) <<< (64 - m) := by
    rw [B_wrap, B_shl, Int.fdiv_eq_ediv_of_nonneg _ (hp f), B_shr hN]
  have hU : U64 (IntKind.u64.wrap (N.fdiv (2 ^ f) * 2 ^ (64 - m))) := u64_wrap _
  cases sg
  · simp only [Bool.false_eq_true, if_false]
    refine eq_of_B (u64_wrap _) (u64_toNat _) ?_
    rw [B_wrap, B_shl, Int.fdiv_eq_ediv_of_nonneg _ (hp _), B_shr hU, hT, B_of]
    rfl
  · simp only [if_true]
    refine eq_of_B (u64_wrap _) (u64_toNat _) ?_
    rw [B_wrap, B_shl, B_wrap, B_sar hU, hT, B_of]
    rfl
end Cq
namespace Go.Proofs.YtbpcidpladnhfaaDoor
open Go Go.Proofs Go.RowKit Go.CX Go.SX
open Cq (U64 I64 B bit fieldV psum fbit fact cutB)
/-- The code's term of a field. -/
def cT (r s : E) : E := .cmp .lss s r
def wT (r s : E) : E := .bin .sub .u64 (.int .u64 64) (.ite (cT r s) (.conv .u64 (.bin .add .i64 s (.int .i64 1))) (.conv .u64 (.bin .add .i64 (.bin .sub .i64 s r) (.int .i64 1))))
def upT (r s : E) : E := .ite (cT r s) (.conv .u64 (.bin .sub .i64 (.int .i64 64) r)) (.int .u64 0)
def frT (r s : E) : E := .ite (cT r s) (.int .u64 0) (.conv .u64 r)
def topT (n r s : E) : E := .shf .shl .u64 (.shf .shr .u64 n (frT r s)) (wT r s)
def cutT (sg : Bool) (n r s : E) : E := if sg then .shf .shl .u64 (.conv .u64 (.shf .shr .i64 (.conv .i64 (topT n r s)) (wT r s))) (upT r s) else .shf .shl .u64 (.shf .shr .u64 (topT n r s) (wT r s)) (upT r s)
def fF (R S : Nat) : Nat := if S < R then 0 else R
def mF (R S : Nat) : Nat := if S < R then S + 1 else S - R + 1
def tF (R S : Nat) : Nat := if S < R then 64 - R else 0
theorem fF_lt {R S : Nat} (hR : R < 64) : fF R S < 64 := by unfold fF; split <;> omega
theorem tF_le (R S : Nat) : tF R S ≤ 64 := by unfold tF; split <;> omega
section
variable {ρ : Nat → Value} {φ : Nat → List Value → List Value} {n r s : E} {N : Int} {R S : Nat} (hr : r.den ρ φ = .int .i64 (R : Int)) (hs : s.den ρ φ = .int .i64 (S : Int)) (hR : R < 64) (hS : S < 64)
 include hr hs
theorem cT_den : vbool ((cT r s).den ρ φ) = decide (S < R) := by
  show decide (vint (s.den ρ φ) < vint (r.den ρ φ)) = _
  rw [hr, hs]
  exact decide_eq_decide.2 (by simp only [vint_int]; omega)
theorem ite_cT (a b : E) : (E.ite (cT r s) a b).den ρ φ = if S < R then a.den ρ φ else b.den ρ φ := by
  show (if vbool ((cT r s).den ρ φ) then a.den ρ φ else b.den ρ φ) = _
  rw [cT_den hr hs]
  by_cases h : S < R <;> simp [h]
 include hR hS
theorem wT_den : (wT r s).den ρ φ = .int .u64 ((64 - mF R S : Nat) : Int) := by
  show Value.int .u64 (IntKind.u64.wrap (64 - vint ((E.ite (cT r s) _ _).den ρ φ))) = _
  rw [ite_cT hr hs]
  unfold mF
  congr 1
  split
  · show IntKind.u64.wrap (64 - IntKind.u64.wrap (IntKind.i64.wrap (vint (s.den ρ φ) + 1))) = _
    rw [hs]
    show IntKind.u64.wrap (64 - IntKind.u64.wrap (IntKind.i64.wrap ((S : Int) + 1))) = _
    rw [IntKind.wrap_i64, IntKind.wrap_u64, IntKind.wrap_u64]; omega
  · show IntKind.u64.wrap (64 - IntKind.u64.wrap (IntKind.i64.wrap (IntKind.i64.wrap (vint (s.den ρ φ) - vint (r.den ρ φ)) + 1))) = _
    rw [hs, hr]
    show IntKind.u64.wrap (64 - IntKind.u64.wrap (IntKind.i64.wrap (IntKind.i64.wrap ((S : Int) - R) + 1))) = _
    rw [IntKind.wrap_i64, IntKind.wrap_i64, IntKind.wrap_u64, IntKind.wrap_u64]; omega
theorem upT_den : (upT r s).den ρ φ = .int .u64 ((tF R S : Nat) : Int) := by
  unfold upT
  rw [ite_cT hr hs]
  unfold tF
  split
  · show Value.int .u64 (IntKind.u64.wrap (IntKind.i64.wrap (64 - vint (r.den ρ φ)))) = _
    rw [hr]
    show Value.int .u64 (IntKind.u64.wrap (IntKind.i64.wrap (64 - (R : Int)))) = _
    congr 1
    rw [IntKind.wrap_i64, IntKind.wrap_u64]; omega
  · rfl
theorem frT_den : (frT r s).den ρ φ = .int .u64 ((fF R S : Nat) : Int) := by
  unfold frT
  rw [ite_cT hr hs]
  unfold fF
  split
  · rfl
  · show Value.int .u64 (IntKind.u64.wrap (vint (r.den ρ φ))) = _
    rw [hr]
    show Value.int .u64 (IntKind.u64.wrap (R : Int)) = _
    congr 1
    rw [IntKind.wrap_u64]; omega
theorem topT_den (hn : n.den ρ φ = .int .u64 N) : (topT n r s).den ρ φ = .int .u64 (IntKind.u64.wrap (N.fdiv (2 ^ fF R S) * 2 ^ (64 - mF R S))) := by
  show Value.int .u64 (IntKind.u64.wrap (((vint (n.den ρ φ)).fdiv (2 ^ (min (vint ((frT r s).den ρ φ)).toNat 64))) * 2 ^ (min (vint ((wT r s).den ρ φ)).toNat 64))) = _
  rw [hn, frT_den hr hs hR hS, wT_den hr hs hR hS]
  have h1 := fF_lt (S := S) hR
  show Value.int .u64 (IntKind.u64.wrap ((N.fdiv (2 ^ (min (fF R S) 64))) * 2 ^ (min (64 - mF R S) 64))) = _
  rw [show min (fF R S) 64 = fF R S by omega, show min (64 - mF R S) 64 = 64 - mF R S by omega]
theorem cutT_den (hN : U64 N) (hn : n.den ρ φ = .int .u64 N) (sg : Bool) : (cutT sg n r s).den ρ φ = .int .u64 ((cutB (B N) (fF R S) (mF R S) (tF R S) sg).toNat : Int) := by
  rw [← Cq.cut_num hN]
  have ht := tF_le R S
  have eu : min (vint ((upT r s).den ρ φ)).toNat 64 = tF R S := by
    rw [upT_den hr hs hR hS]
    show min (tF R S) 64 = _
    omega
  have ew : min (vint ((wT r s).den ρ φ)).toNat 64 = 64 - mF R S := by
    rw [wT_den hr hs hR hS]
    show min (64 - mF R S) 64 = _
    omega
  cases sg
  · show Value.int .u64 (IntKind.u64.wrap (((vint ((topT n r s).den ρ φ)).fdiv (2 ^ (min (vint ((wT r s).den ρ φ)).toNat 64))) * 2 ^ (min (vint ((upT r s).den ρ φ)).toNat 64))) = _
    rw [eu, ew, topT_den hr hs hR hS hn]
    rfl
  · show Value.int .u64 (IntKind.u64.wrap ((IntKind.u64.wrap ((IntKind.i64.wrap (vint ((topT n r s).den ρ φ))).fdiv (2 ^ (min (vint ((wT r s).den ρ φ)).toNat 64)))) * 2 ^ (min (vint ((upT r s).den ρ φ)).toNat 64))) = _
    rw [eu, ew, topT_den hr hs hR hS hn]
    rfl
end
end Go.Proofs.YtbpcidpladnhfaaDoor
