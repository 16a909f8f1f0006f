/- Plain mathematics of layer 19: the size that six bits tell. -/
import Derived.Test.YtlhinabodofjeaaLa
namespace Lg
open Go
open Cq

theorem szK_stay {s k : Nat} (h : szK s k ≠ 0) : szK s (k + 1) = szK s k := by
  rw [szK, if_neg (fun g => h g.1)]
theorem szK_found {s k : Nat} (h : szK s k = 0) (g : s / 2 ^ (5 - k) % 2 = 0) : szK s (k + 1) = 2 ^ (5 - k) := by
  rw [szK, if_pos ⟨h, g⟩]
theorem szK_not {s k : Nat} (h : szK s k = 0) (g : ¬ s / 2 ^ (5 - k) % 2 = 0) : szK s (k + 1) = 0 := by
  rw [szK, if_neg (fun q => g q.2), h]
theorem szK_all {s k : Nat} (h : szK s k ≠ 0) (j : Nat) : szK s (k + j) = szK s k := by
  induction j with
  | zero => rfl
  | succ j ih => rw [← Nat.add_assoc, szK_stay (by rw [ih]; exact h), ih]
theorem szN_found {s k : Nat} (hk : k ≤ 4) (h : szK s k = 0) (g : s / 2 ^ (5 - k) % 2 = 0) : szN s = 2 ^ (5 - k) := by
  have e := szK_found h g
  have hp : 0 < 2 ^ (5 - k) := Nat.pow_pos (by omega)
  have := szK_all (s := s) (k := k + 1) (by rw [e]; omega) (4 - k)
  rw [show k + 1 + (4 - k) = 5 by omega, e] at this
  exact this
end Lg
