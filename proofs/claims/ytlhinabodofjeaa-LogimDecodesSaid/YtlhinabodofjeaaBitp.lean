/- Plain mathematics of layer 1: how many bits are 1. -/
import Derived.Test.YtlhinabodofjeaaBito
namespace Cq
open Go

/-- how many of the lowest bits are 1 -/
def popTo (v : Nat) : Nat → Nat
  | 0 => 0
  | i + 1 => popTo v i + v / 2 ^ i % 2
theorem popTo_front (v i : Nat) : popTo v (i + 1) = v % 2 + popTo (v / 2) i := by
  induction i with
  | zero => simp [popTo]
  | succ i ih =>
    rw [popTo, ih, popTo, Nat.div_div_eq_div_mul, Nat.pow_succ, Nat.mul_comm 2]
    omega
theorem popTo_le (v i : Nat) : popTo v i ≤ i := by
  induction i with
  | zero => simp [popTo]
  | succ i ih => rw [popTo]; omega
theorem popTo_zero (i : Nat) : popTo 0 i = 0 := by
  induction i with
  | zero => rfl
  | succ i ih => rw [popTo, ih]; simp
theorem popTo_less (k : Nat) : ∀ v, 0 < v → v < 2 ^ k → popTo (v &&& (v - 1)) k + 1 = popTo v k := by
  induction k with
  | zero => intro v h0 h1; simp at h1; omega
  | succ k ih =>
    intro v h0 h1
    rw [popTo_front, popTo_front, Nat.and_div_two]
    have hm : (v &&& (v - 1)) % 2 = v % 2 &&& (v - 1) % 2 := by
      have := @Nat.and_mod_two_pow v (v - 1) 1; simpa using this
    rw [hm]
    by_cases ho : v % 2 = 1
    · have e1 : (v - 1) % 2 = 0 := by omega
      have e2 : (v - 1) / 2 = v / 2 := by omega
      rw [ho, e1, e2, Nat.and_self]; simp; omega
    · have e0 : v % 2 = 0 := by omega
      have e2 : (v - 1) / 2 = v / 2 - 1 := by omega
      have := ih (v / 2) (by omega) (by rw [Nat.pow_succ] at h1; omega)
      rw [e0, e2]; simp; omega
def ones (v : Int) : Nat := popTo v.toNat 64
theorem ones_le (v : Int) : ones v ≤ 64 := popTo_le _ _
theorem ones_zero : ones 0 = 0 := popTo_zero _
theorem ones_less {v : Int} (h : U64 v) (h0 : 0 < v) : ones (bits .and .u64 v (v - 1)) + 1 = ones v := by
  unfold U64 at h
  rw [u64_and v (v - 1) h.1 h.2 (by omega) (by omega)]
  unfold ones
  have e : (v - 1).toNat = v.toNat - 1 := by omega
  rw [e, Int.toNat_natCast]
  exact popTo_less 64 _ (by omega) (by have : (2 : Nat) ^ 64 = 18446744073709551616 := by decide
                                       omega)
theorem ones_less' {v : Int} (h : U64 v) (h0 : 0 < v) : ones (bits .and .u64 v (IntKind.u64.wrap (v - 1))) + 1 = ones v := by
  rw [wrap_of_u64 (n := v - 1) ⟨by omega, by have := h.2; omega⟩]; exact ones_less h h0
theorem popTo_round {v : Int} (h : U64 v) (i : Nat) : (popTo v.toNat i : Int) + bit v i = (popTo v.toNat (i + 1) : Int) := by
  rw [popTo, Int.natCast_add, Int.natCast_emod, Int.natCast_ediv, Int.natCast_pow]
  have : ((v.toNat : Nat) : Int) = v := by have := h.1; omega
  rw [this]; rfl
end Cq
