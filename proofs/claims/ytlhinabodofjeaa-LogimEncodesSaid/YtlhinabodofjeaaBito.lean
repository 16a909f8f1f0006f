/- Plain mathematics of layer 1: turning a number of n bits. -/
import Derived.Test.YtlhinabodofjeaaBitn
namespace Cq
open Go

theorem pow_split {m n : Nat} (h : m ≤ n) : 2 ^ n = 2 ^ (n - m) * 2 ^ m := by
  rw [← Nat.pow_add]; congr 1; omega
/-- turned to the left by m of n bits -/
def rot (v m n : Nat) : Nat := v % 2 ^ (n - m) * 2 ^ m + v % 2 ^ n / 2 ^ (n - m)
/-- as far as the lowest i bits reach -/
def rotTo (v m n i : Nat) : Nat := v % 2 ^ min i (n - m) * 2 ^ m + v % 2 ^ i / 2 ^ (n - m)
theorem rotTo_end (v m n : Nat) : rotTo v m n n = rot v m n := by
  unfold rotTo rot; rw [Nat.min_eq_right (by omega)]
theorem rotTo_zero (v m n : Nat) : rotTo v m n 0 = 0 := by
  unfold rotTo; simp [Nat.mod_one]
theorem mod_step (v i : Nat) : v % 2 ^ (i + 1) = v % 2 ^ i + v / 2 ^ i % 2 * 2 ^ i := by
  rw [Nat.mod_pow_succ, Nat.mul_comm]
theorem rotTo_step (v m n i : Nat) (hm : m < n) (hi : i < n) : rotTo v m n (i + 1) = rotTo v m n i + v / 2 ^ i % 2 * 2 ^ ((i + m) % n) := by
  unfold rotTo
  by_cases h : i < n - m
  · rw [Nat.min_eq_left (by omega), Nat.min_eq_left (by omega), Nat.mod_eq_of_lt (by omega : i + m < n)]
    have h1 : v % 2 ^ (i + 1) / 2 ^ (n - m) = 0 := Nat.div_eq_of_lt (Nat.lt_of_lt_of_le (Nat.mod_lt _ (Nat.two_pow_pos _)) (Nat.pow_le_pow_right (by decide) (by omega)))
    have h2 : v % 2 ^ i / 2 ^ (n - m) = 0 := Nat.div_eq_of_lt (Nat.lt_of_lt_of_le (Nat.mod_lt _ (Nat.two_pow_pos _)) (Nat.pow_le_pow_right (by decide) (by omega)))
    rw [h1, h2, mod_step, Nat.add_mul, Nat.pow_add, Nat.mul_assoc]; omega
  · rw [Nat.min_eq_right (by omega), Nat.min_eq_right (by omega)]
    have e : (i + m) % n = i - (n - m) := by
      rw [Nat.mod_eq_sub_mod (by omega), Nat.mod_eq_of_lt (by omega)]; omega
    rw [e, mod_step v i]
    have p : 2 ^ i = 2 ^ (i - (n - m)) * 2 ^ (n - m) := by rw [← Nat.pow_add]; congr 1; omega
    have q : v / 2 ^ i % 2 * 2 ^ i = v / 2 ^ i % 2 * 2 ^ (i - (n - m)) * 2 ^ (n - m) := by
      rw [Nat.mul_assoc, ← p]
    rw [q, Nat.add_mul_div_right _ _ (Nat.two_pow_pos _)]; omega
theorem rot_parts (v m n : Nat) (hm : m ≤ n) : v % 2 ^ n / 2 ^ (n - m) < 2 ^ m ∧ v % 2 ^ (n - m) < 2 ^ (n - m) ∧ v % 2 ^ n = v % 2 ^ n / 2 ^ (n - m) * 2 ^ (n - m) + v % 2 ^ (n - m) := by
  have p := pow_split hm
  refine ⟨?_, Nat.mod_lt _ (Nat.two_pow_pos _), ?_⟩
  · rw [Nat.div_lt_iff_lt_mul (Nat.two_pow_pos _), Nat.mul_comm, ← p]; exact Nat.mod_lt _ (Nat.two_pow_pos _)
  · have := Nat.div_add_mod (v % 2 ^ n) (2 ^ (n - m))
    rw [Nat.mod_mod_of_dvd _ (by rw [p]; exact Nat.dvd_mul_right _ _)] at this
    rw [Nat.mul_comm]; omega
theorem rot_lt (v m n : Nat) (hm : m ≤ n) : rot v m n < 2 ^ n := by
  have ⟨h1, h2, _⟩ := rot_parts v m n hm
  unfold rot
  have p := pow_split hm
  have : (v % 2 ^ (n - m) + 1) * 2 ^ m ≤ 2 ^ (n - m) * 2 ^ m := Nat.mul_le_mul_right _ h2
  rw [Nat.add_mul] at this; omega
theorem rot_zero (v n : Nat) : rot v 0 n = v % 2 ^ n := by
  unfold rot
  rw [Nat.sub_zero, Nat.pow_zero, Nat.mul_one, Nat.div_eq_of_lt (Nat.mod_lt _ (Nat.two_pow_pos _))]; rfl
theorem rot_mod (v m n : Nat) : rot (v % 2 ^ n) m n = rot v m n := by
  unfold rot
  rw [Nat.mod_mod, Nat.mod_mod_of_dvd _ (Nat.pow_dvd_pow 2 (by omega : n - m ≤ n))]
theorem rot_back (v m n : Nat) (hm : m ≤ n) : rot (rot v m n) (n - m) n = v % 2 ^ n := by
  have ⟨h1, h2, h3⟩ := rot_parts v m n hm
  have hl := rot_lt v m n hm
  have e : n - (n - m) = m := by omega
  show rot v m n % 2 ^ (n - (n - m)) * 2 ^ (n - m) + rot v m n % 2 ^ n / 2 ^ (n - (n - m)) = _
  rw [e, Nat.mod_eq_of_lt hl]
  have a : rot v m n % 2 ^ m = v % 2 ^ n / 2 ^ (n - m) := by
    unfold rot; rw [Nat.mul_add_mod', Nat.mod_eq_of_lt h1]
  have b : rot v m n / 2 ^ m = v % 2 ^ (n - m) := by
    unfold rot; rw [Nat.add_comm, Nat.add_mul_div_right _ _ (Nat.two_pow_pos _), Nat.div_eq_of_lt h1]; omega
  rw [a, b]; exact h3.symm

def turn (v k w : Int) : Int := if isW w then (rot v.toNat (k % nb w).toNat (nb w) : Int) else 0
theorem turn_u64 (v k w : Int) : U64 (turn v k w) := by
  unfold turn
  cases h : isW w
  · simp [U64]
  · have ⟨hn, h8, h64⟩ := nb_is h
    have := Int.emod_lt_of_pos k (b := nb w) (by omega)
    have := rot_lt v.toNat (k % nb w).toNat (nb w) (by omega)
    have := Nat.pow_le_pow_right (n := 2) (by decide) h64
    have e2 : (2 : Nat) ^ 64 = 18446744073709551616 := by decide
    simp only [if_true]; unfold U64; omega
theorem turn_not {v k w : Int} (h : isW w = false) : turn v k w = 0 := by unfold turn; rw [h]; rfl
theorem zx_nat {v : Int} (h : 0 ≤ v) (w : Int) : zx v w = ((v.toNat % 2 ^ nb w : Nat) : Int) := by
  unfold zx; rw [Int.natCast_emod, Int.natCast_pow]
  have : ((v.toNat : Nat) : Int) = v := by omega
  rw [this]; rfl
theorem turn_back {v : Int} (hv : U64 v) (k k' w : Int) (hk : k' = -k) : turn (turn v k w) k' w = zx v w := by
  subst hk
  cases h : isW w
  · rw [turn_not h]; unfold zx; rw [nb_not h]; simp
  · have ⟨hn, h8, h64⟩ := nb_is h
    rw [zx_nat hv.1]
    unfold turn
    rw [h]
    simp only [if_true, Int.toNat_natCast]
    generalize nb w = n at *
    have hm0 : 0 ≤ k % (n : Int) := Int.emod_nonneg _ (by omega)
    have hm1 : k % (n : Int) < n := Int.emod_lt_of_pos _ (by omega)
    obtain ⟨m, hm⟩ : ∃ m : Nat, k % (n : Int) = m := ⟨(k % (n : Int)).toNat, by omega⟩
    rw [hm, Int.toNat_natCast]
    have hkm : k = n * (k / n) + m := by have := Int.mul_ediv_add_emod k n; omega
    by_cases hz : m = 0
    · have e : (-k) % (n : Int) = 0 := by
        rw [hkm, hz]
        have : -((n : Int) * (k / n) + (0 : Nat)) = n * (-(k / n)) := by rw [Int.mul_neg]; simp
        rw [this]; exact Int.mul_emod_right _ _
      rw [e, hz, show (0 : Int).toNat = 0 from rfl, rot_zero, rot_zero, Nat.mod_mod]
    · have e : (-k) % (n : Int) = ((n - m : Nat) : Int) := by
        have e1 : -k = ((n - m : Nat) : Int) + n * (-(k / n) - 1) := by
          rw [Int.mul_sub, Int.mul_neg]; omega
        rw [e1, Int.add_mul_emod_self_left]
        exact Int.emod_eq_of_lt (by omega) (by omega)
      rw [e, Int.toNat_natCast]
      congr 1
      exact rot_back _ _ _ (by omega)
/-- the code's own way -/
theorem code_turn {v : Int} (hv : U64 v) (w : Int) (h : isW w = true) (m : Nat) (hm : m < nb w) :
    zx (bits .or .u64 (IntKind.u64.wrap (zx v w * 2 ^ m)) (zx v w / 2 ^ (nb w - m))) w = (rot v.toNat m (nb w) : Int) := by
  have ⟨hn, h8, h64⟩ := nb_is h
  have hz := zx_nat hv.1 w
  have hlt : v.toNat % 2 ^ nb w < 2 ^ nb w := Nat.mod_lt _ (Nat.two_pow_pos _)
  rw [← rot_mod]
  rw [hz]
  generalize v.toNat % 2 ^ nb w = z at *
  have e1 : IntKind.u64.wrap ((z : Int) * 2 ^ m) = ((z * 2 ^ m % 2 ^ 64 : Nat) : Int) := by
    rw [IntKind.wrap_u64, Int.natCast_emod, Int.natCast_mul, Int.natCast_pow, Int.natCast_pow]; rfl
  have e2 : (z : Int) / 2 ^ (nb w - m) = ((z / 2 ^ (nb w - m) : Nat) : Int) := by
    rw [Int.natCast_ediv, Int.natCast_pow]; rfl
  have ⟨h1, h2, h3⟩ := rot_parts z m (nb w) (by omega)
  rw [Nat.mod_eq_of_lt hlt] at h1 h3
  have hp64 : 2 ^ m ∣ 2 ^ 64 := Nat.pow_dvd_pow 2 (by omega)
  have hd : z * 2 ^ m % 2 ^ 64 % 2 ^ m = 0 := by
    rw [Nat.mod_mod_of_dvd _ hp64]; exact Nat.mul_mod_left _ _
  have hb : z / 2 ^ (nb w - m) < 18446744073709551616 := by
    have := Nat.pow_le_pow_right (n := 2) (by decide) (by omega : m ≤ 64)
    have e : (2 : Nat) ^ 64 = 18446744073709551616 := by decide
    omega
  rw [e1, e2, u64_or_nat _ _ (by have := Nat.mod_lt (z * 2 ^ m) (Nat.two_pow_pos 64); exact this) hb, nat_join m _ _ hd h1]
  unfold zx
  have e3 : (((z * 2 ^ m % 2 ^ 64 + z / 2 ^ (nb w - m) : Nat) : Int) % 2 ^ nb w) = (((z * 2 ^ m % 2 ^ 64 + z / 2 ^ (nb w - m)) % 2 ^ nb w : Nat) : Int) := by
    rw [Int.natCast_emod, Int.natCast_pow]; rfl
  rw [e3]
  congr 1
  rw [Nat.add_mod, Nat.mod_mod_of_dvd _ (Nat.pow_dvd_pow 2 h64), ← Nat.add_mod]
  have e4 : z * 2 ^ m + z / 2 ^ (nb w - m) = rot z m (nb w) + 2 ^ nb w * (z / 2 ^ (nb w - m)) := by
    unfold rot
    rw [Nat.mod_eq_of_lt hlt]
    have e5 : z * 2 ^ m = z / 2 ^ (nb w - m) * 2 ^ (nb w - m) * 2 ^ m + z % 2 ^ (nb w - m) * 2 ^ m := by rw [← Nat.add_mul, ← h3]
    have e6 : z / 2 ^ (nb w - m) * 2 ^ (nb w - m) * 2 ^ m = 2 ^ nb w * (z / 2 ^ (nb w - m)) := by
      rw [Nat.mul_assoc, ← pow_split (by omega), Nat.mul_comm]
    omega
  rw [e4, Nat.add_mul_mod_self_left, Nat.mod_eq_of_lt (rot_lt z m (nb w) (by omega))]
theorem tmod_neg {k n : Int} (hn : 0 < n) (h : k.tmod n < 0) : k.tmod n = k % n - n := by
  rw [Int.tmod_eq_emod] at h ⊢
  have h0 := Int.emod_nonneg k (b := n) (by omega)
  split at h <;> rename_i g
  · omega
  · rw [if_neg g]; omega
theorem tmod_pos {k n : Int} (hn : 0 < n) (h : 0 ≤ k.tmod n) : k.tmod n = k % n := by
  rw [Int.tmod_eq_emod] at h ⊢
  have h0 := Int.emod_lt_of_pos k hn
  split at h <;> rename_i g
  · rw [if_pos g]; omega
  · omega
theorem low_mask (k : Int) (n : Nat) (hn : n = 8 ∨ n = 16 ∨ n = 32 ∨ n = 64) : bits .and .u64 (IntKind.u64.wrap k) ((n : Int) - 1) = (((k % n).toNat : Nat) : Int) := by
  have hk := u64_wrap k
  have hk1 := hk.1; have hk2 := hk.2
  rw [u64_and _ _ hk1 hk2 (by omega) (by omega)]
  have e : IntKind.u64.wrap k = k % 18446744073709551616 := IntKind.wrap_u64 k
  rw [e] at hk1 ⊢
  rcases hn with rfl | rfl | rfl | rfl
  · rw [show (((8 : Nat) : Int) - 1).toNat = 7 from by decide, nat_mask3]; omega
  · rw [show (((16 : Nat) : Int) - 1).toNat = 15 from by decide, nat_mask4]; omega
  · rw [show (((32 : Nat) : Int) - 1).toNat = 31 from by decide, nat_mask5]; omega
  · rw [show (((64 : Nat) : Int) - 1).toNat = 63 from by decide, nat_mask6]; omega
theorem turn_is {v k w : Int} (h : isW w = true) : turn v k w = (rot v.toNat (k % nb w).toNat (nb w) : Int) := by unfold turn; rw [h]; rfl
theorem rotTo_u64 (v m n i : Nat) (hm : m < n) (hi : i ≤ n) (hn : n ≤ 64) : U64 (rotTo v m n i : Int) := by
  have e : rotTo v m n i = rot (v % 2 ^ i) m n := by
    unfold rotTo rot
    rw [Nat.mod_eq_of_lt (a := v % 2 ^ i) (b := 2 ^ n) (Nat.lt_of_lt_of_le (Nat.mod_lt _ (Nat.two_pow_pos _)) (Nat.pow_le_pow_right (by decide) hi))]
    congr 2
    by_cases h : i ≤ n - m
    · rw [Nat.min_eq_left h, Nat.mod_eq_of_lt (a := v % 2 ^ i)]
      exact Nat.lt_of_lt_of_le (Nat.mod_lt _ (Nat.two_pow_pos _)) (Nat.pow_le_pow_right (by decide) h)
    · rw [Nat.min_eq_right (by omega), Nat.mod_mod_of_dvd _ (Nat.pow_dvd_pow 2 (by omega))]
  rw [e]
  have := rot_lt (v % 2 ^ i) m n (by omega)
  have := Nat.pow_le_pow_right (n := 2) (by decide) hn
  have e2 : (2 : Nat) ^ 64 = 18446744073709551616 := by decide
  unfold U64; omega
theorem rotTo_round {v : Int} (hv : U64 v) (m n i : Nat) (hm : m < n) (hi : i < n) (hn : n ≤ 64) :
    IntKind.u64.wrap ((rotTo v.toNat m n i : Int) + IntKind.u64.wrap (bit v (i : Int) * 2 ^ ((i + m) % n))) = (rotTo v.toNat m n (i + 1) : Int) := by
  have hr := rotTo_u64 v.toNat m n (i + 1) hm (by omega) hn
  have hs := rotTo_step v.toNat m n i hm hi
  have hb : bit v (i : Int) * 2 ^ ((i + m) % n) = ((v.toNat / 2 ^ i % 2 * 2 ^ ((i + m) % n) : Nat) : Int) := by
    rw [Int.natCast_mul, Int.natCast_emod, Int.natCast_ediv, Int.natCast_pow, Int.natCast_pow]
    have : ((v.toNat : Nat) : Int) = v := by have := hv.1; omega
    rw [this]; rfl
  have e : (rotTo v.toNat m n (i + 1) : Int) = (rotTo v.toNat m n i : Int) + bit v (i : Int) * 2 ^ ((i + m) % n) := by
    rw [hb, hs, Int.natCast_add]
  have hu : U64 (bit v (i : Int) * 2 ^ ((i + m) % n)) := by
    rw [hb]; unfold U64 at hr ⊢; omega
  rw [wrap_of_u64 hu, ← e, wrap_of_u64 hr]
end Cq
