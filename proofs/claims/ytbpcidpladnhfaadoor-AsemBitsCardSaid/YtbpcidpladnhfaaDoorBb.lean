/- Layer 22: what is turned is turned back, what is cut out, what is put together: the law. -/
import Derived.Test.YtbpcidpladnhfaaDoorBa
import Derived.Test.YtbpcidpladnhfaaDoorFt
namespace Cq
open Go
theorem low63 (n : Int) : bits .and .i64 n 63 = n % 64 := by
  have h63 : (BitVec.ofInt 64 63).toNat = 2 ^ 6 - 1 := by decide
  have key : (BitVec.ofInt 64 n &&& BitVec.ofInt 64 63).toNat = (n % ((2 ^ 64 : Nat) : Int)).toNat % 2 ^ 6 := by
    rw [BitVec.toNat_and, BitVec.toNat_ofInt, h63, Nat.and_two_pow_sub_one_eq_mod]
  show IntKind.i64.wrap ((BitVec.ofInt 64 n &&& BitVec.ofInt 64 63).toNat : Nat) = n % 64
  rw [key, IntKind.wrap_i64]
  omega
theorem low16 {n : Nat} : bits .and .u64 (n : Int) 65535 = ((n % 65536 : Nat) : Int) := by
  refine eq_of_B (bits_u64 _ _ _) ⟨by omega, by omega⟩ ?_
  rw [B_and]
  apply BitVec.eq_of_getLsbD_eq
  intro i hi
  rw [BitVec.getLsbD_and, getB _ _ hi, show B 65535 = B ((65535 : Nat) : Int) from rfl, getB _ _ hi, getB _ _ hi, show (65536 : Nat) = 2 ^ 16 from rfl, Nat.testBit_mod_two_pow, show (65535 : Nat) = 2 ^ 16 - 1 from rfl, Nat.testBit_two_pow_sub_one]
  exact Bool.and_comm _ _
theorem mask_bit (k i : Nat) (hi : i < 64) : (B ((65535 * 2 ^ k : Nat) : Int)).getLsbD i = (decide (k ≤ i) && decide (i - k < 16)) := by
  rw [getB _ _ hi, ← Nat.shiftLeft_eq, Nat.testBit_shiftLeft, show (65535 : Nat) = 2 ^ 16 - 1 from rfl, Nat.testBit_two_pow_sub_one]
/-- Sixteen bits of a word at their place. -/
theorem part_bit (n k i : Nat) (hi : i < 64) : (B ((n / 2 ^ k % 65536 * 2 ^ k : Nat) : Int)).getLsbD i = (n.testBit i && (decide (k ≤ i) && decide (i - k < 16))) := by
  rw [take16, BitVec.getLsbD_and, getB _ _ hi, mask_bit k i hi]
def prt (n k : Nat) : BitVec 64 := B ((n / 2 ^ k % 65536 * 2 ^ k : Nat) : Int)
def msk (k : Nat) : BitVec 64 := B ((65535 * 2 ^ k : Nat) : Int)
theorem four (n : Nat) : (((prt n 0 &&& ~~~ msk 16 ||| prt n 16) &&& ~~~ msk 32 ||| prt n 32) &&& ~~~ msk 48 ||| prt n 48) = B (n : Int) := by
  apply BitVec.eq_of_getLsbD_eq
  intro i hi
  simp only [BitVec.getLsbD_or, BitVec.getLsbD_and, BitVec.getLsbD_not, hi, decide_true, Bool.true_and]
  unfold prt msk
  rw [part_bit n 0 i hi, part_bit n 16 i hi, part_bit n 32 i hi, part_bit n 48 i hi, mask_bit 16 i hi, mask_bit 32 i hi, mask_bit 48 i hi, getB n i hi]
  cases n.testBit i
  · simp
  · rw [Bool.eq_iff_iff]
    simp only [Bool.true_and, Bool.or_eq_true, Bool.and_eq_true, Bool.not_eq_true', Bool.and_eq_false_iff, decide_eq_true_eq, decide_eq_false_iff_not, iff_true]
    omega
end Cq
namespace Go.Proofs.YtbpcidpladnhfaaDoor
open Go Go.Proofs Go.RowKit Go.CX Go.SX Go.CX.Cp
open Cq (U64 B turn)
def w64 (n : Int) : Value := .int .u64 (IntKind.u64.wrap n)
noncomputable def phB (f : Nat) (fl : List Value) : List Value := match f with
  | 9 => [.bool (okB fl)]
  | 45 => [w64 (turn (vint (fl.getD 0 undef)) (vint (fl.getD 1 undef)) (vint (fl.getD 2 undef)))]
  | _ => []
theorem fitB : ∀ f j args, (symS syB f j).has ((phB f args).getD j undef) := by
  intro f j args
  by_cases h9 : f = 9
  · subst h9; match j with
    | 0 => exact ⟨_, rfl⟩
    | j + 1 => exact trivial
  by_cases h45 : f = 45
  · subst h45; match j with
    | 0 => exact ⟨_, rfl, wrap_range .u64 _⟩
    | j + 1 => exact trivial
  have nb : ∀ k, ¬ f = k → Nat.beq k f = false := fun k h => nbeq_no (fun e => h e.symm)
  have : lookA f syB = none := by
    unfold syB
    simp only [lookA, nb 9 h9, nb 45 h45, Bool.false_eq_true, if_false]
  unfold symS
  rw [this]; exact trivial
/-- The numbers. -/
structure NumsB (ρ : Nat → Value) (n K A M : Nat) : Prop where
  ln : n < 18446744073709551616
  hn : ρ 0 = .int .u64 (n : Int)
  lK : K < 64
  lA : A < 64
  lM : A + M < 64
  hK : kE.den ρ phB = .int .i64 (K : Int)
  hA : atE.den ρ phB = .int .i64 (A : Int)
  hf : freeE.den ρ phB = .int .i64 ((64 - A : Nat) : Int)
  hM : manyE.den ρ phB = .int .i64 (M : Int)
  hS : sE.den ρ phB = .int .i64 ((A + M : Nat) : Int)
theorem nums_of {ρ : Nat → Value} {n k a m : Int} (h0 : ρ 0 = .int .u64 n) (h1 : ρ 1 = .int .i64 k) (h2 : ρ 2 = .int .i64 a) (h3 : ρ 3 = .int .i64 m) (hn : U64 n) : ∃ n' K A M, NumsB ρ n' K A M := by
  obtain ⟨N, rfl⟩ := Int.eq_ofNat_of_zero_le hn.1
  have hn2 := hn.2
  have eK : kE.den ρ phB = .int .i64 (k % 64) := by
    show Value.int .i64 (bits .and .i64 (vint (ρ 1)) 63) = _
    rw [h1]
    show Value.int .i64 (bits .and .i64 k 63) = _
    rw [Cq.low63]
  have eA : atE.den ρ phB = .int .i64 (a % 64) := by
    show Value.int .i64 (bits .and .i64 (vint (ρ 2)) 63) = _
    rw [h2]
    show Value.int .i64 (bits .and .i64 a 63) = _
    rw [Cq.low63]
  obtain ⟨K, hK⟩ := Int.eq_ofNat_of_zero_le (Int.emod_nonneg k (show (64 : Int) ≠ 0 by decide))
  obtain ⟨A, hA⟩ := Int.eq_ofNat_of_zero_le (Int.emod_nonneg a (show (64 : Int) ≠ 0 by decide))
  have lK := Int.emod_lt_of_pos k (show (0 : Int) < 64 by decide)
  have lA := Int.emod_lt_of_pos a (show (0 : Int) < 64 by decide)
  rw [hK] at eK lK
  rw [hA] at eA lA
  have ef : freeE.den ρ phB = .int .i64 ((64 - A : Nat) : Int) := by
    show Value.int .i64 (IntKind.i64.wrap (64 - vint (atE.den ρ phB))) = _
    rw [eA]
    show Value.int .i64 (IntKind.i64.wrap (64 - (A : Int))) = _
    congr 1
    rw [IntKind.wrap_i64]; omega
  obtain ⟨r, hr⟩ : ∃ r, r = m.tmod ((64 - A : Nat) : Int) := ⟨_, rfl⟩
  have er : remE.den ρ phB = .int .i64 r := by
    show Value.int .i64 ((vint (ρ 3)).tmod (vint (freeE.den ρ phB))) = _
    rw [h3, ef, hr]; rfl
  have r1 : -((64 - A : Nat) : Int) < r := by rw [hr]; exact Int.lt_tmod_of_pos m (by omega)
  have r2 : r < ((64 - A : Nat) : Int) := by rw [hr]; exact Int.tmod_lt_of_pos m (by omega)
  have em : manyE.den ρ phB = .int .i64 ((r.natAbs : Nat) : Int) := by
    show (if vbool (Value.bool (decide (vint (remE.den ρ phB) < 0))) then Value.int .i64 (IntKind.i64.wrap (0 - vint (remE.den ρ phB))) else remE.den ρ phB) = _
    rw [er]
    show (if decide (r < 0) = true then Value.int .i64 (IntKind.i64.wrap (0 - r)) else Value.int .i64 r) = _
    by_cases h : r < 0
    · rw [if_pos (decide_eq_true h)]
      congr 1
      rw [IntKind.wrap_i64]; omega
    · rw [if_neg (by rw [decide_eq_false h]; simp)]
      congr 1
      omega
  have lM : A + r.natAbs < 64 := by omega
  refine ⟨N, K, A, r.natAbs, ⟨by omega, h0, by omega, by omega, lM, eK, eA, ef, em, ?_⟩⟩
  show Value.int .i64 (IntKind.i64.wrap (vint (atE.den ρ phB) + vint (manyE.den ρ phB))) = _
  rw [eA, em]
  show Value.int .i64 (IntKind.i64.wrap ((A : Int) + (r.natAbs : Int))) = _
  congr 1
  rw [IntKind.wrap_i64]; omega
theorem turn_mod {v k k' : Int} (h : k % 64 = k' % 64) : turn v k 8 = turn v k' 8 := by
  unfold turn
  rw [show ((Cq.nb 8 : Nat) : Int) = 64 from rfl, h]
section
variable {ρ : Nat → Value} {n K A M : Nat} (N : NumsB ρ n K A M)
 include N
theorem left_den : leftE.den ρ phB = .int .u64 (IntKind.u64.wrap ((n : Int).fdiv (2 ^ A) * 2 ^ (63 - M))) := by
  have l1 := N.lA
  have l2 := N.lM
  show Value.int .u64 (IntKind.u64.wrap ((vint (ρ 0)).fdiv (2 ^ (min (IntKind.u64.wrap (vint (atE.den ρ phB))).toNat 64)) * 2 ^ (min (IntKind.u64.wrap (IntKind.i64.wrap (63 - vint (manyE.den ρ phB)))).toNat 64))) = _
  rw [N.hn, N.hA, N.hM]
  show Value.int .u64 (IntKind.u64.wrap ((n : Int).fdiv (2 ^ (min (IntKind.u64.wrap (A : Int)).toNat 64)) * 2 ^ (min (IntKind.u64.wrap (IntKind.i64.wrap (63 - (M : Int)))).toNat 64))) = _
  have e1 : min (IntKind.u64.wrap (A : Int)).toNat 64 = A := by rw [IntKind.wrap_u64]; omega
  have e2 : min (IntKind.u64.wrap (IntKind.i64.wrap (63 - (M : Int)))).toNat 64 = 63 - M := by rw [IntKind.wrap_i64, IntKind.wrap_u64]; omega
  rw [e1, e2]
theorem up_den : min (vint (up63.den ρ phB)).toNat 64 = 63 - M := by
  have l1 := N.lA
  have l2 := N.lM
  show min (IntKind.u64.wrap (IntKind.i64.wrap (63 - vint (manyE.den ρ phB)))).toNat 64 = _
  rw [N.hM]
  show min (IntKind.u64.wrap (IntKind.i64.wrap (63 - (M : Int)))).toNat 64 = _
  rw [IntKind.wrap_i64, IntKind.wrap_u64]; omega
theorem cut_eq (sg : Bool) : (cutT sg (.var 0) atE sE).den ρ phB = .int .u64 (if sg then IntKind.u64.wrap ((IntKind.i64.wrap (IntKind.u64.wrap ((n : Int).fdiv (2 ^ A) * 2 ^ (63 - M)))).fdiv (2 ^ (63 - M))) else (IntKind.u64.wrap ((n : Int).fdiv (2 ^ A) * 2 ^ (63 - M))).fdiv (2 ^ (63 - M))) := by
  have l1 := N.lA
  have l2 := N.lM
  have ln := N.ln
  have hU : U64 (n : Int) := ⟨by omega, by omega⟩
  rw [cutT_den N.hA N.hS l1 (show A + M < 64 from l2) hU (show (E.var 0).den ρ phB = _ from N.hn) sg, show fF A (A + M) = A from if_neg (by omega), show mF A (A + M) = M + 1 by unfold mF; rw [if_neg (by omega)]; omega, show tF A (A + M) = 0 from if_neg (by omega), ← Cq.cut_num hU, show 64 - (M + 1) = 63 - M by omega]
  have hT := Cq.u64_wrap ((n : Int).fdiv (2 ^ A) * 2 ^ (63 - M))
  generalize IntKind.u64.wrap ((n : Int).fdiv (2 ^ A) * 2 ^ (63 - M)) = T at *
  congr 1
  cases sg
  · simp only [Bool.false_eq_true, if_false]
    rw [show (2 : Int) ^ 0 = 1 from rfl, Int.mul_one]
    refine Cq.wrap_of_u64 ?_
    rw [Int.fdiv_eq_ediv_of_nonneg _ (Int.le_of_lt (Int.pow_pos (by decide)))]
    refine ⟨Int.ediv_nonneg hT.1 (Int.le_of_lt (Int.pow_pos (by decide))), Int.lt_of_le_of_lt (Int.ediv_le_self _ hT.1) hT.2⟩
  · simp only [if_true]
    rw [show (2 : Int) ^ 0 = 1 from rfl, Int.mul_one]
    exact Cq.wrap_of_u64 (Cq.u64_wrap _)
theorem eq2 : (E.cmp .eql (cutT false (.var 0) atE sE) (.shf .shr .u64 leftE up63)).den ρ phB = .bool true := by
  have e : (E.shf .shr .u64 leftE up63).den ρ phB = (cutT false (.var 0) atE sE).den ρ phB := by
    rw [cut_eq N]
    show Value.int .u64 ((vint (leftE.den ρ phB)).fdiv (2 ^ (min (vint (up63.den ρ phB)).toNat 64))) = _
    rw [left_den N, up_den N]; rfl
  show Value.bool (vint _ == vint _) = _
  rw [e]; simp
theorem eq3 : (E.cmp .eql (cutT true (.var 0) atE sE) (.conv .u64 (.shf .shr .i64 (.conv .i64 leftE) up63))).den ρ phB = .bool true := by
  have e : (E.conv .u64 (.shf .shr .i64 (.conv .i64 leftE) up63)).den ρ phB = (cutT true (.var 0) atE sE).den ρ phB := by
    rw [cut_eq N]
    show Value.int .u64 (IntKind.u64.wrap ((IntKind.i64.wrap (vint (leftE.den ρ phB))).fdiv (2 ^ (min (vint (up63.den ρ phB)).toNat 64)))) = _
    rw [left_den N, up_den N]; rfl
  show Value.bool (vint _ == vint _) = _
  rw [e]; simp
theorem back_den {x : E} {X : Nat} (h : x.den ρ phB = .int .i64 (X : Int)) (hX : X ≤ 64) : (backE x).den ρ phB = .int .i64 (-((X % 64 : Nat) : Int)) := by
  have _ := N.lK
  show Value.int .i64 (IntKind.i64.wrap (0 - IntKind.i64.wrap ((IntKind.u64.wrap (vint (x.den ρ phB))).tmod 64))) = _
  rw [h]
  show Value.int .i64 (IntKind.i64.wrap (0 - IntKind.i64.wrap ((IntKind.u64.wrap (X : Int)).tmod 64))) = _
  congr 1
  have e : IntKind.u64.wrap (X : Int) = X := by rw [IntKind.wrap_u64]; omega
  rw [e, Int.tmod_eq_emod_of_nonneg (by omega), IntKind.wrap_i64, IntKind.wrap_i64]
  omega
theorem turnE_den {v k : E} {a b : Int} (hv : v.den ρ phB = .int .u64 a) (hk : k.den ρ phB = .int .i64 b) : (turnE v k).den ρ phB = .int .u64 (turn a b 8) := by
  have _ := N.lK
  show (phB 45 (E.dens ρ phB (toL [v, k, iE 8]))).getD 0 undef = _
  rw [toL_dens]
  show w64 (turn (vint (v.den ρ phB)) (vint (k.den ρ phB)) 8) = _
  rw [hv, hk]
  exact congrArg (Value.int .u64) (Cq.wrap_of_u64 (Cq.turn_u64 _ _ _))
theorem eq1 : (E.cmp .eql (turnE (turnE (.var 0) (backE kE)) (backE (.bin .sub .i64 (iE 64) kE))) (.var 0)).den ρ phB = .bool true := by
  have lK := N.lK
  have ln := N.ln
  have hU : U64 (n : Int) := ⟨by omega, by omega⟩
  have h64 : (E.bin .sub .i64 (iE 64) kE).den ρ phB = .int .i64 ((64 - K : Nat) : Int) := by
    show Value.int .i64 (IntKind.i64.wrap (64 - vint (kE.den ρ phB))) = _
    rw [N.hK]
    show Value.int .i64 (IntKind.i64.wrap (64 - (K : Int))) = _
    congr 1
    rw [IntKind.wrap_i64]; omega
  have e1 := turnE_den N (show (E.var 0).den ρ phB = _ from N.hn) (back_den N N.hK (by omega))
  have e2 := turnE_den N e1 (back_den N h64 (by omega))
  have e3 : turn (turn (n : Int) (-((K % 64 : Nat) : Int)) 8) (-(((64 - K) % 64 : Nat) : Int)) 8 = (n : Int) := by
    rw [turn_mod (k' := ((K % 64 : Nat) : Int)) (by omega), Cq.turn_back hU (-((K % 64 : Nat) : Int)) _ 8 (by omega)]
    show (n : Int) % 2 ^ 64 = n
    omega
  show Value.bool (vint _ == vint (ρ 0)) = _
  rw [e2, N.hn, e3]; simp
theorem part_den (k : Nat) (hk : k < 65) : (partE k).den ρ phB = .int .u64 ((n / 2 ^ k % 65536 : Nat) : Int) := by
  show Value.int .u64 (bits .and .u64 ((vint (ρ 0)).fdiv (2 ^ (min (Int.ofNat k).toNat 64))) 65535) = _
  rw [N.hn, show min (Int.ofNat k).toNat 64 = k by show min k 64 = k; omega]
  show Value.int .u64 (bits .and .u64 ((n : Int).fdiv (2 ^ k)) 65535) = _
  rw [Int.fdiv_eq_ediv_of_nonneg _ (Int.le_of_lt (Int.pow_pos (by decide))), show (n : Int) / 2 ^ k = ((n / 2 ^ k : Nat) : Int) by simp, Cq.low16]
theorem put_den {g v : E} {a : Int} {x k : Nat} (hg : g.den ρ phB = .int .u64 a) (hv : v.den ρ phB = .int .u64 (x : Int)) (hk : k < 65) : ∃ b, (putE g v k).den ρ phB = .int .u64 b ∧ U64 b ∧ B b = (B a &&& ~~~ Cq.msk k ||| B ((x * 2 ^ k : Nat) : Int)) := by
  have _ := N.lK
  refine ⟨bits .or .u64 (bits .andNot .u64 a (Int.ofNat (65535 * 2 ^ k))) (IntKind.u64.wrap ((x : Int) * 2 ^ k)), ?_, Cq.bits_u64 _ _ _, ?_⟩
  · show Value.int .u64 (bits .or .u64 (bits .andNot .u64 (vint (g.den ρ phB)) (Int.ofNat (65535 * 2 ^ k))) (IntKind.u64.wrap (vint (v.den ρ phB) * 2 ^ (min (Int.ofNat k).toNat 64)))) = _
    rw [hg, hv, show min (Int.ofNat k).toNat 64 = k by show min k 64 = k; omega]; rfl
  · rw [Cq.B_or, Cq.B_andNot, Cq.B_wrap, show (x : Int) * 2 ^ k = ((x * 2 ^ k : Nat) : Int) by simp]; rfl
theorem eq4 : (E.cmp .eql (putE (putE (putE (.shf .shl .u64 lowE (uE 0)) (partE 16) 16) (partE 32) 32) topE 48) (.var 0)).den ρ phB = .bool true := by
  have ln := N.ln
  have hU : U64 (n : Int) := ⟨by omega, by omega⟩
  have h0 : (E.shf .shl .u64 lowE (uE 0)).den ρ phB = .int .u64 ((n / 2 ^ 0 % 65536 * 2 ^ 0 : Nat) : Int) := by
    show Value.int .u64 (IntKind.u64.wrap (bits .and .u64 (vint (ρ 0)) 65535 * 2 ^ 0)) = _
    rw [N.hn]
    show Value.int .u64 (IntKind.u64.wrap (bits .and .u64 (n : Int) 65535 * 2 ^ 0)) = _
    rw [Cq.low16]
    congr 1
    rw [IntKind.wrap_u64]; simp; omega
  have ht : topE.den ρ phB = .int .u64 ((n / 2 ^ 48 % 65536 : Nat) : Int) := by
    show Value.int .u64 ((vint (ρ 0)).fdiv (2 ^ 48)) = _
    rw [N.hn]
    show Value.int .u64 ((n : Int).fdiv (2 ^ 48)) = _
    congr 1
    rw [Int.fdiv_eq_ediv_of_nonneg _ (by decide)]
    omega
  obtain ⟨b1, d1, _, e1⟩ := put_den N h0 (part_den N 16 (by decide)) (k := 16) (by decide)
  obtain ⟨b2, d2, _, e2⟩ := put_den N d1 (part_den N 32 (by decide)) (k := 32) (by decide)
  obtain ⟨b3, d3, u3, e3⟩ := put_den N d2 ht (k := 48) (by decide)
  have : b3 = (n : Int) := by
    refine Cq.eq_of_B u3 hU ?_
    rw [e3, e2, e1]
    exact Cq.four n
  show Value.bool (vint _ == vint (ρ 0)) = _
  rw [d3, N.hn, this]; simp
theorem ruleB_ok : RuleOk ρ phB ruleB := by
  intro fs op a b v _ h
  unfold ruleB at h
  split at h
  · split at h
    · rename_i hc
      simp only [Option.some.injEq] at h
      subst h
      obtain ⟨p, hp, he⟩ := List.any_eq_true.1 hc
      rw [Bool.and_eq_true] at he
      rw [E.eqv_eq he.1, E.eqv_eq he.2]
      simp only [eqsB, List.mem_cons, List.not_mem_nil, or_false] at hp
      rcases hp with rfl | rfl | rfl | rfl
      · exact eq1 N
      · exact eq2 N
      · exact eq3 N
      · exact eq4 N
    · cases h
  · cases h
end
end Go.Proofs.YtbpcidpladnhfaaDoor
