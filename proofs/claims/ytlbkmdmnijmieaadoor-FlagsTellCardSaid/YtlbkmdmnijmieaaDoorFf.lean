/- Walks of layer 1: whether a number has so many bits. -/
import Derived.Test.YtlbkmdmnijmieaaDoorBitw
import Derived.Test.YtlbkmdmnijmieaaDoorBitv
namespace Go.Proofs.YtlbkmdmnijmieaaDoor
open Go.RowKit
open Cq (U64 I64 fits fitsU bit)

theorem fits_any (v n : Int) (hv : I64 v) (hn : I64 n) (W : World) : Calls Tryd.prog 40 #[.int .i64 v, .int .i64 n] W
    fun e W' => e = .returned (.bool (fits v n)) ∧ W = W' := by
  unfold I64 at hn
  by_cases h1 : n < 1
  · rw [show fits v n = false by unfold fits; rw [decide_eq_false (by omega)]; rfl]
    go_enter Tryd.func40, Tryd.ntmps40
    go_wp2
    go_ret
    exact ⟨rfl, rfl⟩
  · by_cases h2 : 64 < n
    · rw [show fits v n = false by unfold fits; rw [decide_eq_false (by omega)]; rfl]
      have h1' := Int.not_lt.mp h1
      clear h1
      go_enter Tryd.func40, Tryd.ntmps40
      go_wp2
      go_ret
      exact ⟨rfl, rfl⟩
    · obtain ⟨k, rfl⟩ : ∃ k : Nat, n = (k : Int) + 1 := ⟨(n - 1).toNat, by omega⟩
      have hk : k ≤ 63 := by omega
      have HF : Hid (fits v (k + 1) = (v / 2 ^ k == 0 || v / 2 ^ k == -1)) := by
        show fits v (k + 1) = _
        rw [Cq.fits_code hv]; unfold fits; rw [decide_eq_true (by omega), Bool.true_and, show ((k : Int) + 1 - 1).toNat = k from by omega]
      have h1' := Int.not_lt.mp h1
      have h2' := Int.not_lt.mp h2
      clear h1 h2 hn
      by_cases hz : v / 2 ^ k = 0
      · have hz1 : (v / 2 ^ k == 0) = true := by simpa using hz
        go_enter Tryd.func40, Tryd.ntmps40
        go_wp2
        go_ret
        exact ⟨by rw [HF.out, hz1]; rfl, rfl⟩
      · have hz1 : (v / 2 ^ k == 0) = false := by simpa using hz
        clear hz
        go_enter Tryd.func40, Tryd.ntmps40
        go_wp2
        go_ret
        exact ⟨by rw [HF.out, hz1]; rfl, rfl⟩
theorem fitsU_any (v n : Int) (hv : U64 v) (hn : I64 n) (W : World) : Calls Tryd.prog 39 #[.int .u64 v, .int .i64 n] W
    fun e W' => e = .returned (.bool (fitsU v n)) ∧ W = W' := by
  unfold I64 at hn
  by_cases h1 : n < 1
  · rw [show fitsU v n = false by unfold fitsU; rw [decide_eq_false (by omega)]; rfl]
    go_enter Tryd.func39, Tryd.ntmps39
    go_wp2
    go_ret
    exact ⟨by simp, rfl⟩
  · by_cases h2 : 64 < n
    · rw [show fitsU v n = false by unfold fitsU; rw [decide_eq_false (by omega)]; rfl]
      have h1' := Int.not_lt.mp h1
      clear h1
      go_enter Tryd.func39, Tryd.ntmps39
      go_wp2
      go_ret
      exact ⟨by simp, rfl⟩
    · obtain ⟨k, rfl⟩ : ∃ k : Nat, n = (k : Int) := ⟨n.toNat, by omega⟩
      have hk : k ≤ 64 := by omega
      have hv0 := hv.1
      have HF : Hid (fitsU v k = (v / 2 ^ k == 0)) := by
        show fitsU v k = _
        unfold fitsU; rw [decide_eq_true (by omega), Bool.true_and]; rfl
      have h1' := Int.not_lt.mp h1
      have h2' := Int.not_lt.mp h2
      clear h1 h2 hn
      go_enter Tryd.func39, Tryd.ntmps39
      go_wp2
      go_ret
      exact ⟨by rw [HF.out]; simp, rfl⟩
end Go.Proofs.YtlbkmdmnijmieaaDoor
