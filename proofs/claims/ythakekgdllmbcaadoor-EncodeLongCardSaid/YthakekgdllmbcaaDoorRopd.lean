/- Walks of layer 2: numbers read out of a store. -/
import Derived.Test.YthakekgdllmbcaaDoorRopc
namespace Go.Proofs.YthakekgdllmbcaaDoor
open Go.RowKit Rp

open Cq (U64 I64 isW)

/-- the number of the first k bytes, the lowest first -/
def val (p : List Int) : Nat → Int
  | 0 => 0
  | k + 1 => val p k + p.getD k 0 * 2 ^ (8 * k)
def Bytes8 (p : List Int) : Prop := ∀ x ∈ p, 0 ≤ x ∧ x ≤ 255
theorem Bytes8.get {p : List Int} (h : Bytes8 p) (k : Nat) : 0 ≤ p.getD k 0 ∧ p.getD k 0 ≤ 255 := by
  rw [List.getD_eq_getElem?_getD]
  by_cases g : k < p.length
  · rw [List.getElem?_eq_getElem g]; exact h _ (List.getElem_mem g)
  · rw [List.getElem?_eq_none (by omega)]; simp
theorem pow8 (k : Nat) : (2 : Int) ^ (8 * (k + 1)) = 256 * 2 ^ (8 * k) := by
  rw [Nat.mul_succ, Int.pow_add, Int.mul_comm]; rfl
theorem val_lt {p : List Int} (h : Bytes8 p) (k : Nat) : 0 ≤ val p k ∧ val p k < 2 ^ (8 * k) := by
  induction k with
  | zero => simp [val]
  | succ k ih =>
    have hb := h.get k
    have hp : (0 : Int) < 2 ^ (8 * k) := Int.pow_pos (by decide)
    have h1 : 0 ≤ p.getD k 0 * 2 ^ (8 * k) := Int.mul_nonneg hb.1 (by omega)
    have h2 : p.getD k 0 * 2 ^ (8 * k) ≤ 255 * 2 ^ (8 * k) := Int.mul_le_mul_of_nonneg_right hb.2 (by omega)
    rw [pow8, val]; omega
theorem val_round {p : List Int} (h : Bytes8 p) (k : Nat) (hk : k < 8) :
    bits .or .u64 (val p k) (IntKind.u64.wrap (p.getD k 0 * 2 ^ (8 * k))) = val p (k + 1) := by
  have hb := h.get k
  have ⟨v0, v1⟩ := val_lt h k
  have ⟨w0, w1⟩ := val_lt h (k + 1)
  have ⟨q0, q1⟩ := Cq.pow_le (8 * (k + 1)) (by omega)
  have ⟨r0, r1⟩ := Cq.pow_le (8 * k) (by omega)
  have h1 : 0 ≤ p.getD k 0 * 2 ^ (8 * k) := Int.mul_nonneg hb.1 (by omega)
  have e : val p (k + 1) = val p k + p.getD k 0 * 2 ^ (8 * k) := rfl
  rw [e] at w1 ⊢
  rw [Cq.wrap_of_u64 (n := p.getD k 0 * 2 ^ (8 * k)) ⟨h1, by omega⟩]
  rw [u64_or _ _ v0 (by omega) h1 (by omega), Nat.or_comm]
  obtain ⟨x, hx⟩ := Int.eq_ofNat_of_zero_le hb.1
  have e2 : (p.getD k 0 * 2 ^ (8 * k)).toNat = x * 2 ^ (8 * k) := by
    rw [hx]
    have : (x : Int) * 2 ^ (8 * k) = ((x * 2 ^ (8 * k) : Nat) : Int) := by rw [Int.natCast_mul, Int.natCast_pow]; rfl
    rw [this, Int.toNat_natCast]
  have e3 : (val p k).toNat < 2 ^ (8 * k) := by
    have : ((2 ^ (8 * k) : Nat) : Int) = (2 : Int) ^ (8 * k) := by rw [Int.natCast_pow]; rfl
    omega
  rw [nat_join (8 * k) _ _ (by rw [e2]; exact Nat.mul_mod_left _ _) e3]
  omega
theorem val_append (p q : List Int) (k : Nat) (h : k ≤ p.length) : val (p ++ q) k = val p k := by
  induction k with
  | zero => rfl
  | succ k ih =>
    rw [val, val, ih (by omega), List.getD_eq_getElem?_getD, List.getD_eq_getElem?_getD, List.getElem?_append_left (by omega)]
theorem val_zeros (p : List Int) (n m : Nat) : val (p ++ List.replicate n 0) (p.length + m) = val p p.length := by
  induction m with
  | zero => exact val_append p _ _ (Nat.le_refl _)
  | succ m ih =>
    rw [← Nat.add_assoc, val, ih, List.getD_eq_getElem?_getD, List.getElem?_append_right (by omega)]
    have : ((List.replicate n (0 : Int))[p.length + m - p.length]?).getD 0 = 0 := by
      rw [List.getElem?_replicate]; split <;> rfl
    rw [this]; simp
theorem index8 (p : List Int) (h : p.length = 8) (k : Nat) (hk : k < 8) (W : World) :
    (Instr.index 86 (.agg (cellsOf p).toArray) (.int .i64 (k : Int))).run Tryd.prog W = .ok (.int .u8 (p.getD k 0)) W := by
  match p, h with
  | [a0, a1, a2, a3, a4, a5, a6, a7], _ =>
    have hc : k = 0 ∨ k = 1 ∨ k = 2 ∨ k = 3 ∨ k = 4 ∨ k = 5 ∨ k = 6 ∨ k = 7 := by omega
    rcases hc with rfl | rfl | rfl | rfl | rfl | rfl | rfl | rfl <;> (show Sem.run _ _ _ = _; kernel_rfl)
theorem placeE_cases (a w : Int) (n : Nat) : (isW w = false ∧ placeE a w n = 2) ∨ (isW w = true ∧ hasB a w n = false ∧ placeE a w n = 7) ∨ (isW w = true ∧ hasB a w n = true ∧ placeE a w n = 0) := by
  unfold placeE
  cases isW w
  · exact .inl ⟨rfl, rfl⟩
  · cases hasB a w n
    · exact .inr (.inl ⟨rfl, rfl, rfl⟩)
    · exact .inr (.inr ⟨rfl, rfl, rfl⟩)
theorem hasB_is {a w : Int} {n : Nat} (h : hasB a w n = true) : 0 ≤ a ∧ 0 ≤ w ∧ a + w ≤ n := by
  simp [hasB, inB] at h; omega
/-- what At tells -/
def atV (bs : List Int) (a w : Int) : Int := if placeE a w bs.length = 0 then val (cut bs a.toNat w.toNat) w.toNat else 0
end Go.Proofs.YthakekgdllmbcaaDoor
