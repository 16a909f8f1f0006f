/- Layer 23: the four parts of a number: what is known of them, what they make. -/
import Derived.Test.YthcncbbnjbhdkaaGreatDoorSf
import Derived.Test.YthcncbbnjbhdkaaGreatDoorBitv
namespace Cq
open Go
theorem low16n {n : Nat} : bits .and .u64 (n : Int) 65535 = ((n % 65536 : Nat) : Int) := by
  have h63 : (BitVec.ofInt 64 65535).toNat = 2 ^ 16 - 1 := by decide
  have key : (BitVec.ofInt 64 (n : Int) &&& BitVec.ofInt 64 65535).toNat = ((n : Int) % ((2 ^ 64 : Nat) : Int)).toNat % 2 ^ 16 := by
    rw [BitVec.toNat_and, BitVec.toNat_ofInt, h63, Nat.and_two_pow_sub_one_eq_mod]
  show IntKind.u64.wrap ((BitVec.ofInt 64 (n : Int) &&& BitVec.ofInt 64 65535).toNat : Nat) = _
  rw [key, IntKind.wrap_u64]
  omega
theorem xor_all {n : Nat} (h : n < 18446744073709551616) : bits .xor .u64 18446744073709551615 (n : Int) = ((18446744073709551615 - n : Nat) : Int) := by
  refine eq_of_B (bits_u64 _ _ _) ⟨by omega, by omega⟩ ?_
  have e : ((18446744073709551615 - n : Nat) : Int) = 18446744073709551615 - (n : Int) := by omega
  rw [B_not, e, B_sub, B_ones]
  exact (BitVec.allOnes_sub_eq_not _).symm
theorem or_nought {n : Int} (h : U64 n) : bits .or .u64 0 n = n := by
  refine eq_of_B (bits_u64 _ _ _) h ?_
  rw [B_or]
  have : B 0 = 0#64 := by decide
  rw [this]
  exact BitVec.zero_or
/-- A part of a number. -/
def P16 (n k : Nat) : Nat := n / 2 ^ (16 * k) % 65536
theorem P16_lt (n k : Nat) : P16 n k < 65536 := Nat.mod_lt _ (by decide)
theorem P16_not {n : Nat} (h : n < 18446744073709551616) {k : Nat} (hk : k < 4) : P16 (18446744073709551615 - n) k = 65535 - P16 n k := by
  unfold P16
  have : k = 0 ∨ k = 1 ∨ k = 2 ∨ k = 3 := by omega
  rcases this with rfl | rfl | rfl | rfl <;> simp only [Nat.reduceMul, Nat.reducePow] <;> omega
theorem P16_sum {n : Nat} (h : n < 18446744073709551616) : P16 n 0 + P16 n 1 * 65536 + P16 n 2 * 4294967296 + P16 n 3 * 281474976710656 = n := by
  unfold P16
  simp only [Nat.reduceMul, Nat.reducePow]
  omega
end Cq
namespace Go.Proofs.YthcncbbnjbhdkaaGreatDoor
open Go Go.Proofs Go.RowKit Go.CX Go.SX Go.CX.Cp
open Cq (U64 P16 P16_lt P16_not P16_sum)
section
variable {ρ : Nat → Value} {φ : Nat → List Value → List Value}
theorem shr_den {x : E} {m k : Nat} {c : E} (hx : x.den ρ φ = .int .u64 (m : Int)) (hc : vint (c.den ρ φ) = ((16 * k : Nat) : Int)) (hk : k < 4) : (mkShf .shr .u64 x c).den ρ φ = .int .u64 ((m / 2 ^ (16 * k) : Nat) : Int) := by
  rw [mkShf_den]
  show Value.int .u64 ((vint (x.den ρ φ)).fdiv (2 ^ (min (vint (c.den ρ φ)).toNat 64))) = _
  rw [hx, hc]
  show Value.int .u64 ((m : Int).fdiv (2 ^ (min (((16 * k : Nat) : Int)).toNat 64))) = _
  have e : min (((16 * k : Nat) : Int)).toNat 64 = 16 * k := by omega
  rw [e, Int.fdiv_eq_ediv_of_nonneg _ (Int.le_of_lt (Int.pow_pos (by decide)))]
  congr 1
theorem pc_den {x : E} {m k : Nat} (hx : x.den ρ φ = .int .u64 (m : Int)) (hk : k < 4) : (pc x k).den ρ φ = .int .u64 ((P16 m k : Nat) : Int) := by
  unfold pc
  rw [mkBin_den]
  show Value.int .u64 (bits .and .u64 (vint ((mkShf .shr .u64 x (iE (16 * k))).den ρ φ)) 65535) = _
  rw [shr_den hx (c := iE (16 * k)) rfl hk]
  show Value.int .u64 (bits .and .u64 ((m / 2 ^ (16 * k) : Nat) : Int) 65535) = _
  rw [Cq.low16n]
  rfl
variable {n : Nat} (hn : ρ 1 = .int .u64 (n : Int)) (ln : n < 18446744073709551616)
 include hn
theorem pd_den {k : Nat} (hk : k < 4) : (pd k).den ρ φ = .int .u64 ((P16 n k : Nat) : Int) := by
  unfold pd
  rw [mkBin_den]
  show Value.int .u64 ((vint ((mkShf .shr .u64 n1 (uE (16 * k))).den ρ φ)).tmod 65536) = _
  rw [shr_den (x := n1) hn (c := uE (16 * k)) rfl hk]
  show Value.int .u64 (((n / 2 ^ (16 * k) : Nat) : Int).tmod 65536) = _
  rw [Int.tmod_eq_emod_of_nonneg (Int.natCast_nonneg _)]
  unfold P16
  congr 1
theorem vz_den {k : Nat} (hk : k < 4) : (vz k).den ρ φ = .int .u64 ((P16 n k * 2 ^ (16 * k) : Nat) : Int) := by
  have hl := P16_lt n k
  unfold vz
  rw [mkShf_den]
  show Value.int .u64 (IntKind.u64.wrap (vint ((pc n1 k).den ρ φ) * 2 ^ (min (Int.ofNat (16 * k)).toNat 64))) = _
  rw [pc_den (x := n1) hn hk]
  show Value.int .u64 (IntKind.u64.wrap (((P16 n k : Nat) : Int) * 2 ^ (min (Int.ofNat (16 * k)).toNat 64))) = _
  have e : min (Int.ofNat (16 * k)).toNat 64 = 16 * k := by
    show min (16 * k) 64 = 16 * k
    omega
  rw [e]
  have e2 : ((P16 n k : Nat) : Int) * 2 ^ (16 * k) = ((P16 n k * 2 ^ (16 * k) : Nat) : Int) := by simp
  rw [e2, Cq.wrap_of_u64 ⟨by omega, ?_⟩]
  have : k = 0 ∨ k = 1 ∨ k = 2 ∨ k = 3 := by omega
  rcases this with rfl | rfl | rfl | rfl <;> simp only [Nat.reduceMul, Nat.reducePow] <;> omega
theorem put_den {old : E} {M k : Nat} (ho : old.den ρ φ = .int .u64 (M : Int)) (hk : k < 4) (hM : M < 2 ^ (16 * k)) : (putE old k).den ρ φ = .int .u64 ((M + P16 n k * 2 ^ (16 * k) : Nat) : Int) := by
  have hl := P16_lt n k
  have h0 : (mkBin .rem .u64 (mkShf .shr .u64 old (uE (16 * k))) (uE 65536)).den ρ φ = .int .u64 0 := by
    rw [mkBin_den]
    show Value.int .u64 ((vint ((mkShf .shr .u64 old (uE (16 * k))).den ρ φ)).tmod 65536) = _
    rw [shr_den ho (c := uE (16 * k)) rfl hk, Nat.div_eq_of_lt hM]
    rfl
  have h1 : (mkShf .shl .u64 (mkBin .rem .u64 (mkShf .shr .u64 old (uE (16 * k))) (uE 65536)) (uE (16 * k))).den ρ φ = .int .u64 0 := by
    rw [mkShf_den]
    show Value.int .u64 (IntKind.u64.wrap (vint ((mkBin .rem .u64 (mkShf .shr .u64 old (uE (16 * k))) (uE 65536)).den ρ φ) * 2 ^ (min (Int.ofNat (16 * k)).toNat 64))) = _
    rw [h0]
    show Value.int .u64 (IntKind.u64.wrap (0 * 2 ^ (min (Int.ofNat (16 * k)).toNat 64))) = _
    rw [Int.zero_mul]
    rfl
  have hM4 : M < 281474976710656 := by
    have : k = 0 ∨ k = 1 ∨ k = 2 ∨ k = 3 := by omega
    rcases this with rfl | rfl | rfl | rfl <;> simp only [Nat.reduceMul, Nat.reducePow] at hM <;> omega
  have h2 : (mkBin .sub .u64 old (mkShf .shl .u64 (mkBin .rem .u64 (mkShf .shr .u64 old (uE (16 * k))) (uE 65536)) (uE (16 * k)))).den ρ φ = .int .u64 (M : Int) := by
    rw [mkBin_den]
    show Value.int .u64 (IntKind.u64.wrap (vint (old.den ρ φ) - vint ((mkShf .shl .u64 (mkBin .rem .u64 (mkShf .shr .u64 old (uE (16 * k))) (uE 65536)) (uE (16 * k))).den ρ φ))) = _
    rw [ho, h1]
    show Value.int .u64 (IntKind.u64.wrap ((M : Int) - 0)) = _
    rw [Int.sub_zero, Cq.wrap_of_u64 ⟨by omega, by omega⟩]
  unfold putE
  rw [mkBin_den]
  show Value.int .u64 (IntKind.u64.wrap (vint ((mkBin .sub .u64 old (mkShf .shl .u64 (mkBin .rem .u64 (mkShf .shr .u64 old (uE (16 * k))) (uE 65536)) (uE (16 * k)))).den ρ φ) + vint ((vz k).den ρ φ))) = _
  rw [h2, vz_den hn hk]
  show Value.int .u64 (IntKind.u64.wrap ((M : Int) + ((P16 n k * 2 ^ (16 * k) : Nat) : Int))) = _
  have e : (M : Int) + ((P16 n k * 2 ^ (16 * k) : Nat) : Int) = ((M + P16 n k * 2 ^ (16 * k) : Nat) : Int) := by omega
  rw [e, Cq.wrap_of_u64 ⟨by omega, ?_⟩]
  have : k = 0 ∨ k = 1 ∨ k = 2 ∨ k = 3 := by omega
  rcases this with rfl | rfl | rfl | rfl <;> simp only [Nat.reduceMul, Nat.reducePow] at hM ⊢ <;> omega
/-- Rising parts. -/
def rising : Nat → List Nat → Prop
  | _, [] => True
  | lo, k :: ks => lo ≤ k ∧ k < 4 ∧ rising (k + 1) ks
def sumP (n : Nat) : List Nat → Nat
  | [] => 0
  | k :: ks => P16 n k * 2 ^ (16 * k) + sumP n ks
theorem fold_den : ∀ {ks : List Nat} {old : E} {q lo : Nat}, old.den ρ φ = .int .u64 (q : Int) → q < 2 ^ (16 * lo) → rising lo ks → (ks.foldl putE old).den ρ φ = .int .u64 ((q + sumP n ks : Nat) : Int)
  | [], _, q, _, ho, _, _ => ho
  | k :: ks, old, q, lo, ho, hM, hr => by
    obtain ⟨h1, h2, h3⟩ := hr
    have hMk : q < 2 ^ (16 * k) := Nat.lt_of_lt_of_le hM (Nat.pow_le_pow_right (by decide) (by omega))
    have hl := P16_lt n k
    have := fold_den (ks := ks) (lo := k + 1) (put_den hn ho h2 hMk) (by
      have : k = 0 ∨ k = 1 ∨ k = 2 ∨ k = 3 := by omega
      rcases this with rfl | rfl | rfl | rfl <;> simp only [Nat.reduceMul, Nat.reduceAdd, Nat.reducePow] at hMk ⊢ <;> omega) h3
    show (ks.foldl putE (putE old k)).den ρ φ = _
    rw [this]
    show _ = Value.int .u64 ((q + (P16 n k * 2 ^ (16 * k) + sumP n ks) : Nat) : Int)
    congr 2
    omega
theorem chain_den {ks : List Nat} (h : rising 0 ks) : (chainT ks).den ρ φ = .int .u64 ((if ks = [] then P16 n 0 else sumP n ks : Nat) : Int) := by
  cases ks with
  | nil =>
    show (vz 0).den ρ φ = _
    rw [vz_den hn (by decide)]
    simp
  | cons k ks =>
    obtain ⟨_, h2, h3⟩ := h
    have hl := P16_lt n k
    show (ks.foldl putE (vz k)).den ρ φ = _
    rw [fold_den hn (vz_den hn h2) (by
      have : k = 0 ∨ k = 1 ∨ k = 2 ∨ k = 3 := by omega
      rcases this with rfl | rfl | rfl | rfl <;> simp only [Nat.reduceMul, Nat.reduceAdd, Nat.reducePow] <;> omega) h3]
    rw [if_neg (by simp)]
    rfl
 include ln
theorem nn_den : nn.den ρ φ = .int .u64 ((18446744073709551615 - n : Nat) : Int) := by
  unfold nn
  rw [mkBin_den]
  show Value.int .u64 (bits .xor .u64 18446744073709551615 (vint (ρ 1))) = _
  rw [hn]
  show Value.int .u64 (bits .xor .u64 18446744073709551615 (n : Int)) = _
  rw [Cq.xor_all ln]
theorem nc_den {k : Nat} (hk : k < 4) : (pc nn k).den ρ φ = .int .u64 ((65535 - P16 n k : Nat) : Int) := by
  rw [pc_den (nn_den hn ln) hk, P16_not ln hk]
theorem vn_den {k : Nat} (hk : k < 4) (h : ∀ j, j < 4 → j ≠ k → P16 n j = 65535) : (vn k).den ρ φ = .int .u64 (n : Int) := by
  have hs := P16_sum ln
  have hl := P16_lt n k
  unfold vn
  rw [mkBin_den]
  have e1 : (mkShf .shl .u64 (pc nn k) (uE (16 * k))).den ρ φ = .int .u64 (((65535 - P16 n k) * 2 ^ (16 * k) : Nat) : Int) := by
    rw [mkShf_den]
    show Value.int .u64 (IntKind.u64.wrap (vint ((pc nn k).den ρ φ) * 2 ^ (min (Int.ofNat (16 * k)).toNat 64))) = _
    rw [nc_den hn ln hk]
    show Value.int .u64 (IntKind.u64.wrap (((65535 - P16 n k : Nat) : Int) * 2 ^ (min (Int.ofNat (16 * k)).toNat 64))) = _
    have e : min (Int.ofNat (16 * k)).toNat 64 = 16 * k := by
      show min (16 * k) 64 = 16 * k
      omega
    rw [e]
    have e2 : ((65535 - P16 n k : Nat) : Int) * 2 ^ (16 * k) = (((65535 - P16 n k) * 2 ^ (16 * k) : Nat) : Int) := by simp
    rw [e2, Cq.wrap_of_u64 ⟨by omega, ?_⟩]
    have : k = 0 ∨ k = 1 ∨ k = 2 ∨ k = 3 := by omega
    rcases this with rfl | rfl | rfl | rfl <;> simp only [Nat.reduceMul, Nat.reducePow] <;> omega
  show Value.int .u64 (IntKind.u64.wrap (18446744073709551615 - vint ((mkShf .shl .u64 (pc nn k) (uE (16 * k))).den ρ φ))) = _
  rw [e1]
  show Value.int .u64 (IntKind.u64.wrap (18446744073709551615 - (((65535 - P16 n k) * 2 ^ (16 * k) : Nat) : Int))) = _
  congr 1
  rw [IntKind.wrap_u64]
  have h0 := h 0 (by decide)
  have h1 := h 1 (by decide)
  have h2 := h 2 (by decide)
  have h3 := h 3 (by decide)
  have : k = 0 ∨ k = 1 ∨ k = 2 ∨ k = 3 := by omega
  rcases this with rfl | rfl | rfl | rfl <;> simp only [Nat.reduceMul, Nat.reducePow] at * <;> omega
end
/-- The kind of a part. -/
def kind (n k : Nat) : Nat := if P16 n k = 0 then 0 else if P16 n k = 65535 then 1 else 2
theorem kind_lt (n k : Nat) : kind n k < 3 := by unfold kind; split <;> (try split) <;> decide
theorem kind_0 (n k : Nat) : Nat.beq (kind n k) 0 = decide (P16 n k = 0) := by
  unfold kind
  by_cases h : P16 n k = 0
  · simp [h] <;> rfl
  · by_cases g : P16 n k = 65535 <;> simp [h, g] <;> rfl
theorem kind_1 (n k : Nat) : Nat.beq (kind n k) 1 = decide (P16 n k = 65535) := by
  unfold kind
  by_cases h : P16 n k = 0
  · simp [h] <;> rfl
  · by_cases g : P16 n k = 65535 <;> simp [h, g] <;> rfl
theorem hold_nil {ρ : Nat → Value} {φ : Nat → List Value → List Value} : Facts.hold ρ φ [] := fun p hp => by simp at hp
theorem hold_cons {ρ : Nat → Value} {φ : Nat → List Value → List Value} {p : E × Bool} (fs : Facts) (h : p.1.den ρ φ = .bool p.2) (hf : Facts.hold ρ φ fs) : Facts.hold ρ φ (p :: fs) := by
  intro q hq
  rcases List.mem_cons.1 hq with rfl | hq
  · exact h
  · exact hf q hq
theorem dTrue {p : Prop} [Decidable p] (h : p) : Value.bool (decide p) = .bool true := congrArg Value.bool (decide_eq_true h)
theorem dFalse {p : Prop} [Decidable p] (h : ¬ p) : Value.bool (decide p) = .bool false := congrArg Value.bool (decide_eq_false h)
theorem hold_app {ρ : Nat → Value} {φ : Nat → List Value → List Value} {a b : Facts} (ha : a.hold ρ φ) (hb : b.hold ρ φ) : Facts.hold ρ φ (a ++ b) := by
  intro p hp
  rcases List.mem_append.1 hp with h | h
  · exact ha p h
  · exact hb p h
section
variable {ρ : Nat → Value} {φ : Nat → List Value → List Value} {n : Nat} (hn : ρ 1 = .int .u64 (n : Int)) (ln : n < 18446744073709551616)
 include hn ln
theorem part_hold {k : Nat} (hk : k < 4) : Facts.hold ρ φ (partF k (kind n k)) := by
  have hl := P16_lt n k
  have eqb : ∀ (x : E) (a b : Nat), x.den ρ φ = .int .u64 (a : Int) → (E.cmp .eql x (uE b)).den ρ φ = .bool (decide (a = b)) := by
    intro x a b hx
    show Value.bool (vint (x.den ρ φ) == Int.ofNat b) = _
    rw [hx]
    show Value.bool ((a : Int) == (b : Int)) = _
    congr 1
    by_cases h : a = b
    · subst h; simp
    · have : ¬ (a : Int) = (b : Int) := by omega
      simp [h, this]
  unfold partF
  refine hold_cons _ ?_ (hold_cons _ ?_ (hold_cons _ ?_ (hold_cons _ ?_ (hold_cons _ ?_ (hold_cons _ ?_ (hold_cons _ ?_ (hold_cons _ ?_ hold_nil)))))))
  · rw [kind_0]; exact eqb _ _ 0 (pc_den (x := n1) hn hk)
  · rw [kind_0]; exact eqb _ _ 0 (pd_den hn hk)
  · rw [kind_1]
    refine (eqb _ _ 0 (nc_den hn ln hk)).trans ?_
    congr 1
    by_cases h : P16 n k = 65535
    · simp [h]
    · have : ¬ 65535 - P16 n k = 0 := by omega
      simp [h, this]
  · rw [kind_1]; exact eqb _ _ 65535 (pd_den hn hk)
  · show Value.bool (vint ((pc n1 k).den ρ φ) == vint ((pd k).den ρ φ)) = .bool true
    rw [pc_den (x := n1) hn hk, pd_den hn hk]
    simp
  · show Value.bool (vint ((pc nn k).den ρ φ) == vint ((mkBin .sub .u64 (uE 65535) (pd k)).den ρ φ)) = .bool true
    rw [nc_den hn ln hk, mkBin_den]
    show Value.bool (((65535 - P16 n k : Nat) : Int) == IntKind.u64.wrap (65535 - vint ((pd k).den ρ φ))) = .bool true
    rw [pd_den hn hk]
    show Value.bool (((65535 - P16 n k : Nat) : Int) == IntKind.u64.wrap (65535 - ((P16 n k : Nat) : Int))) = .bool true
    congr 1
    rw [beq_iff_eq, Cq.wrap_of_u64 ⟨by omega, by omega⟩]
    omega
  · show Value.bool (decide (vint ((pc n1 k).den ρ φ) < 65536)) = .bool true
    rw [pc_den (x := n1) hn hk]
    exact dTrue (by simp only [vint_int]; omega)
  · show Value.bool (decide (vint ((pc nn k).den ρ φ) < 65536)) = .bool true
    rw [nc_den hn ln hk]
    exact dTrue (by simp only [vint_int]; omega)
theorem eq_hold : Facts.hold ρ φ (eqF [kind n 0, kind n 1, kind n 2, kind n 3]) := by
  have hs := P16_sum ln
  have same : ∀ (x : E), x.den ρ φ = .int .u64 (n : Int) → (E.cmp .eql x n1).den ρ φ = .bool true := by
    intro x hx
    show Value.bool (vint (x.den ρ φ) == vint (ρ 1)) = .bool true
    rw [hx, hn]
    simp
  unfold eqF
  refine hold_cons _ ?_ (hold_cons _ ?_ ?_)
  · refine same _ ?_
    have r0 : Nat.beq (kind n 0) 0 = decide (P16 n 0 = 0) := kind_0 n 0
    have r1 : Nat.beq (kind n 1) 0 = decide (P16 n 1 = 0) := kind_0 n 1
    have r2 : Nat.beq (kind n 2) 0 = decide (P16 n 2 = 0) := kind_0 n 2
    have r3 : Nat.beq (kind n 3) 0 = decide (P16 n 3 = 0) := kind_0 n 3
    have hf : noz [kind n 0, kind n 1, kind n 2, kind n 3] = (List.range 4).filter fun k => !(decide (P16 n k = 0)) := by
      unfold noz
      apply List.filter_congr
      intro k hk
      have : k < 4 := List.mem_range.1 hk
      have : k = 0 ∨ k = 1 ∨ k = 2 ∨ k = 3 := by omega
      rcases this with rfl | rfl | rfl | rfl
      · exact congrArg (! ·) r0
      · exact congrArg (! ·) r1
      · exact congrArg (! ·) r2
      · exact congrArg (! ·) r3
    rw [hf]
    have hr4 : List.range 4 = [0, 1, 2, 3] := by decide
    rw [hr4]
    by_cases h0 : P16 n 0 = 0 <;> by_cases h1 : P16 n 1 = 0 <;> by_cases h2 : P16 n 2 = 0 <;> by_cases h3 : P16 n 3 = 0
    all_goals
      simp only [List.filter, h0, h1, h2, h3, decide_true, decide_false, Bool.not_true, Bool.not_false]
      rw [chain_den hn (by simp [rising])]
      congr 1
      simp only [sumP, reduceIte, Nat.reduceMul, Nat.reducePow, List.cons_ne_nil]
      omega
  · refine same _ ?_
    rw [mkBin_den]
    show Value.int .u64 (bits .or .u64 0 (vint (ρ 1))) = _
    rw [hn]
    show Value.int .u64 (bits .or .u64 0 (n : Int)) = _
    rw [Cq.or_nought ⟨by omega, by omega⟩]
  · have key : ∀ k : Nat, (∀ j, j ∈ nof [kind n 0, kind n 1, kind n 2, kind n 3] → j = k) → ∀ j, j < 4 → j ≠ k → P16 n j = 65535 := by
      intro k hk j hj hne
      have hb : Nat.beq ([kind n 0, kind n 1, kind n 2, kind n 3].getD j 0) 1 = decide (P16 n j = 65535) := by
        have : j = 0 ∨ j = 1 ∨ j = 2 ∨ j = 3 := by omega
        rcases this with rfl | rfl | rfl | rfl
        · exact kind_1 n 0
        · exact kind_1 n 1
        · exact kind_1 n 2
        · exact kind_1 n 3
      by_cases h : P16 n j = 65535
      · exact h
      · refine absurd (hk j ?_) hne
        unfold nof
        refine List.mem_filter.2 ⟨List.mem_range.2 hj, ?_⟩
        rw [hb, decide_eq_false h]
        rfl
    split
    · rename_i he
      exact hold_cons _ (same _ (vn_den hn ln (by decide) (key 0 (by rw [he]; intro j hj; simp at hj)))) hold_nil
    · rename_i k he
      have hk : k < 4 := by
        have : k ∈ nof [kind n 0, kind n 1, kind n 2, kind n 3] := by rw [he]; exact List.mem_singleton.2 rfl
        unfold nof at this
        exact List.mem_range.1 (List.mem_filter.1 this).1
      exact hold_cons _ (same _ (vn_den hn ln hk (key k (by rw [he]; intro j hj; exact List.mem_singleton.1 hj)))) hold_nil
    · exact hold_nil
theorem cls_hold : Facts.hold ρ φ (clsF [kind n 0, kind n 1, kind n 2, kind n 3]) :=
  hold_app (part_hold hn ln (k := 0) (by decide)) (hold_app (part_hold hn ln (k := 1) (by decide)) (hold_app (part_hold hn ln (k := 2) (by decide)) (part_hold hn ln (k := 3) (by decide))))
end
end Go.Proofs.YthcncbbnjbhdkaaGreatDoor

/- Layer 23: worlds, arguments. -/
namespace Go.Proofs.YthcncbbnjbhdkaaGreatDoor
open Go Go.Proofs Go.RowKit Go.CX Go.SX Go.CX.Cp
theorem TabsA.same {w w' : World} (h : TabsA w) (hb : ∀ k, k < w.heap.size → w'.heap[k]? = w.heap[k]?) : TabsA w' := by
  have one : ∀ {nm : String} {k : IntKind} {zs : List Int}, Lib.TabIs Tryz.prog w nm k zs → Lib.TabIs Tryz.prog w' nm k zs := by
    intro nm k zs h
    unfold Lib.TabIs World.var? at *
    cases hg : Tryz.prog.globalNamed nm with
    | none => rw [hg] at h; simp at h
    | some g =>
      rw [hg] at h
      simp only [Option.bind_some] at h ⊢
      have hlt : g < w.heap.size := by
        cases hq : w.heap[g]? with
        | none => rw [hq] at h; simp at h
        | some o => exact (Array.getElem?_eq_some_iff.1 hq).1
      rw [hb g hlt]
      exact h
  obtain ⟨h1, h2, h3, h4, h5⟩ := h
  exact ⟨one h1, one h2, one h3, one h4, one h5⟩
theorem trueA_ok {cx : Cx} {φ : Nat → List Value → List Value} {ws : Base} (hP : cx.P = Tryz.prog) (hT : TabsA ws.toWorld) : ExtOk ws cx φ (trueX 16) := by
  refine trueX_ok (by rw [hP]; exact enters Tryz.func16 (c := Tryz.f16.body.getD .skip) (by kernel_rfl) (by kernel_rfl)) fun w' h => ?_
  rw [hP]
  exact awake_any w' (hT.same h)
def rho (fl : List Value) : Nat → Value := fun i => fl.getD i undef
theorem all2_app {fl fl' : List Value} : ∀ {ss : List So} {ss' : List So}, All2 So.has ss fl → All2 So.has ss' fl' → All2 So.has (ss ++ ss') (fl ++ fl') := by
  intro ss
  induction ss generalizing fl with
  | nil => intro ss' h h'; cases fl with | nil => exact h' | cons _ _ => exact h.elim
  | cons s ss ih =>
    intro ss' h h'
    cases fl with
    | nil => exact h.elim
    | cons v fl => exact ⟨h.1, ih h.2 h'⟩
theorem vars_is {ρ : Nat → Value} {φ : Nat → List Value → List Value} {β : Bk} : ∀ (cs : List Value) (o : Nat), (∀ i, i < cs.length → ρ (o + i) = cs.getD i undef) → All2 (CX.SC.is ρ φ β) ((List.range' o cs.length).map fun i => .e (.var i)) cs
  | [], _, _ => trivial
  | c :: cs, o, h => by
    refine ⟨?_, vars_is cs (o + 1) fun i hi => ?_⟩
    · have := h 0 (by simp)
      exact this.symm
    · have := h (i + 1) (by simp only [List.length_cons]; omega)
      rw [show o + 1 + i = o + (i + 1) by omega, this]; rfl
end Go.Proofs.YthcncbbnjbhdkaaGreatDoor
