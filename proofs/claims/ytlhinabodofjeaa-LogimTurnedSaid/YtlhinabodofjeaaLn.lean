/- Plain mathematics of layer 19: the least size of elements of which a word consists. -/
import Derived.Test.YtlhinabodofjeaaLm
namespace Lg
open Go
open Cq

/-- are the lowest 2 h bits two equal halves? -/
def per (v h : Nat) : Bool := (List.range h).all fun k => v.testBit k == v.testBit (k + h)
theorem per_is {v h : Nat} : per v h = true ↔ ∀ k, k < h → v.testBit k = v.testBit (k + h) := by
  unfold per; simp
theorem per_not {v h k : Nat} (hk : k < h) (hb : v.testBit k ≠ v.testBit (k + h)) : per v h = false := by
  cases g : per v h
  · rfl
  · exact absurd (per_is.1 g k hk) hb
def szO (v : Nat) : Nat := if !per v 32 then 64 else if !per v 16 then 32 else if !per v 8 then 16 else if !per v 4 then 8 else if !per v 2 then 4 else 2
theorem szO_is (v : Nat) : szO v = 2 ∨ szO v = 4 ∨ szO v = 8 ∨ szO v = 16 ∨ szO v = 32 ∨ szO v = 64 := by
  unfold szO; repeat' split
  all_goals omega
theorem bit_ne {v : Int} (hv : U64 v) (k h : Nat) : (bits .and .u64 (v / 2 ^ k) 1 != bits .and .u64 (v / 2 ^ h) 1) = (v.toNat.testBit k != v.toNat.testBit h) := by
  have h0 := hv.1
  have u : ∀ j : Nat, U64 (v / 2 ^ j) := fun j => by
    obtain ⟨n, rfl⟩ := Int.eq_ofNat_of_zero_le h0
    rw [div_nat]
    have h1 := Nat.div_le_self n (2 ^ j)
    have h2 := hv.2
    generalize n / 2 ^ j = q at *
    exact ⟨by omega, by omega⟩
  rw [and_one _ (u k), and_one _ (u h)]
  obtain ⟨n, rfl⟩ := Int.eq_ofNat_of_zero_le h0
  rw [show (((n : Nat) : Int)).toNat = n from rfl, bit_nat, bit_nat]
  cases n.testBit k <;> cases n.testBit h <;> decide
end Lg
