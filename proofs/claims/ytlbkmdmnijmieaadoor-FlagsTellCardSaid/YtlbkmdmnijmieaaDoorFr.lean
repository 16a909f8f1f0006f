/- Walks of layer 8: shifts and rotations of the code. -/
import Derived.Test.YtlbkmdmnijmieaaDoorFl
import Derived.Test.YtlbkmdmnijmieaaDoorFt
import Derived.Deep.DeepCutAuto
import Derived.Deep.CutBlock
namespace Go.Proofs.YtlbkmdmnijmieaaDoor
open Go Go.RowKit
open Cq (U64 I64 isW nb zx sx neg bit oneI turn sg sarV)

/-- by how many places -/
def kk (n w : Int) : Nat := (if w = 8 then n % 64 else n % 32).toNat
theorem kk_le (n w : Int) : kk n w ≤ 63 := by unfold kk; split <;> omega
theorem count_any (n w : Int) (W : World) : Calls Tryd.prog 32 #[.int .i64 n, .int .i64 w] W fun e W' => e = .returned (.int .i64 (kk n w : Int)) ∧ W = W' := by
  by_cases h : w = 8
  · subst h
    have e : ((kk n 8 : Nat) : Int) = n % 64 := by unfold kk; rw [if_pos rfl]; omega
    have H := Lib.hid (Cq.low63 n)
    go_enter Tryd.func32, Tryd.ntmps32
    go_wp2_with fail
    go_ret
    exact ⟨by rw [e, ← H.out]; rfl, rfl⟩
  · have e : ((kk n w : Nat) : Int) = n % 32 := by unfold kk; rw [if_neg h]; omega
    have H := Lib.hid (Cq.low31 n)
    have hb : (w == 8) = false := by simpa using h
    go_enter Tryd.func32, Tryd.ntmps32
    go_wp2_with fail
    go_ret
    exact ⟨by rw [e, ← H.out]; rfl, rfl⟩
/-- a shift to the left -/
def shlV (a w : Int) (j : Nat) : Int := zx (zx a w * 2 ^ j) w
theorem shift_shl (a : Int) (j : Nat) (w : Int) (hj : j ≤ 62) (W : World) : Calls Tryd.prog 33 #[.int .i64 28, .int .u64 a, .int .i64 ((j : Int) + 1), .int .i64 w] W
    fun e W' => e = .returned (T (shlV a w (j + 1)) (neg (shlV a w j) w) (neg (shlV a w (j + 1)) w != neg (shlV a w j) w) w) ∧ Kp W W' := by
  have H1 := Lib.hid (Cq.shl_c a w j)
  have H2 := Lib.hid (Cq.shl_r a w j)
  unfold shlV
  go_enter Tryd.func33, Tryd.ntmps33
  go_wp2_with fail
  refine (zx_any _ _ _).mono ?_; rintro e w' ⟨rfl, rfl⟩
  go_wp2_with fail
  refine (zx_any _ _ _).mono ?_; rintro e w' ⟨rfl, rfl⟩
  go_wp2_with fail
  refine (neg_any _ _ (Cq.u64_wrap _) _).mono ?_; rintro e w' ⟨rfl, rfl⟩
  rw [H1.out, H2.out]
  go_wp2_with fail
  refine (neg_any _ _ (Cq.zx_u64 w) _).mono ?_; rintro e w' ⟨rfl, rfl⟩
  go_wp2_with fail
  refine (of_any _ _ _ _ (Cq.zx_u64 w) _).mono ?_; rintro e w' ⟨rfl, rfl⟩
  unfold th
  go_wp2_with fail
  refine bodyPost_ret (v := T (zx (zx a w * 2 ^ (j + 1)) w) (neg (zx (zx a w * 2 ^ j) w) w) (neg (zx (zx a w * 2 ^ (j + 1)) w) w != neg (zx (zx a w * 2 ^ j) w) w) w) (by simp [results, Tryd.results33, go_sem, T, th, bne]) rfl ⟨rfl, ?_⟩
  exact ((Kp.rfl W).new _).new _
theorem shift_shr (a : Int) (j : Nat) (w : Int) (ha : U64 a) (hj : j ≤ 62) (W : World) : Calls Tryd.prog 33 #[.int .i64 29, .int .u64 a, .int .i64 ((j : Int) + 1), .int .i64 w] W
    fun e W' => e = .returned (T (zx a w / 2 ^ (j + 1)) (bit (zx a w / 2 ^ j) 0 == 1) (neg a w) w) ∧ Kp W W' := by
  have hz := Cq.zx_u64 (v := a) w
  have ux := Cq.shr_u64 hz j
  have uy := Cq.shr_u64 hz (j + 1)
  have H1 := Lib.hid (Cq.half_half (zx a w) j)
  have H2 : Hid (bits .and .u64 (zx a w / 2 ^ j) 1 = bit (zx a w / 2 ^ j) 0) := Lib.hid (by rw [Cq.and_one _ ux]; simp [bit])
  have h0 := hz.1
  go_enter Tryd.func33, Tryd.ntmps33
  go_wp2_with fail
  refine (zx_any _ _ _).mono ?_; rintro e w' ⟨rfl, rfl⟩
  go_wp2_with fail
  rw [H1.out, H2.out]
  refine (neg_any _ _ ha _).mono ?_; rintro e w' ⟨rfl, rfl⟩
  go_wp2_with fail
  refine (of_any _ _ _ _ uy _).mono ?_; rintro e w' ⟨rfl, rfl⟩
  unfold th
  go_wp2_with fail
  refine bodyPost_ret (v := T (zx a w / 2 ^ (j + 1)) (bit (zx a w / 2 ^ j) 0 == 1) (neg a w) w) (by simp [results, Tryd.results33, go_sem, T, th]) rfl ⟨rfl, ?_⟩
  exact ((Kp.rfl W).new _).new _
theorem shift_sar (a : Int) (j : Nat) (w : Int) (ha : U64 a) (hj : j ≤ 62) (hw : isW w = true) (W : World) : Calls Tryd.prog 33 #[.int .i64 30, .int .u64 a, .int .i64 ((j : Int) + 1), .int .i64 w] W
    fun e W' => e = .returned (T (sarV a w (j + 1)) (bit (sarV a w j) 0 == 1) false w) ∧ Kp W W' := by
  have H0 : Hid (wrap64 (sx a w) = sg a w) := Lib.hid (by have e := Cq.i64_sx a hw; rw [IntKind.wrap_i64] at e; unfold wrap64; exact e)
  have H1 := Lib.hid (Cq.half_half (sg a w) j)
  have H2 := Lib.hid (Cq.sar_c a (w := w) j)
  have H3 : Hid (bits .and .i64 (sg a w / 2 ^ j) 1 = bit (sarV a w j) 0) := Lib.hid (by rw [Cq.sar_lo a hw, Cq.low1])
  have us : U64 (sarV a w (j + 1)) := Cq.zx_u64 w
  go_enter Tryd.func33, Tryd.ntmps33
  go_wp2_with fail
  refine (sx_any _ _ ha _).mono ?_; rintro e w' ⟨rfl, rfl⟩
  go_wp2_with fail
  rw [H0.out, H1.out]
  refine (zx_any _ _ _).mono ?_; rintro e w' ⟨rfl, rfl⟩
  rw [H2.out]
  go_wp2_with fail
  rw [H3.out]
  refine (of_any _ _ _ _ us _).mono ?_; rintro e w' ⟨rfl, rfl⟩
  unfold th
  go_wp2_with fail
  refine bodyPost_ret (v := T (sarV a w (j + 1)) (bit (sarV a w j) 0 == 1) false w) (by simp [results, Tryd.results33, go_sem, T, th]) rfl ⟨rfl, ?_⟩
  exact ((Kp.rfl W).new _).new _
theorem rotate_rol (a : Int) (k : Nat) (c o : Bool) (s w : Int) (ha : U64 a) (_hk : k ≤ 63) (W : World) : Calls Tryd.prog 34 #[.int .i64 26, .int .u64 a, .int .i64 (k : Int), th c o s, .int .i64 w] W
    fun e W' => e = .returned (.tuple #[.int .u64 (turn a k w), th (bit (turn a k w) 0 == 1) (neg (turn a k w) w != (bit (turn a k w) 0 == 1)) s]) ∧ Kp W W' := by
  have ut := Cq.turn_u64 a k w
  obtain ⟨r, hr⟩ : ∃ r, r = turn a k w := ⟨_, rfl⟩
  rw [← hr] at ut ⊢
  obtain ⟨y, hy⟩ : ∃ y, y = (bit r 0 == 1) := ⟨_, rfl⟩
  rw [← hy]
  have HX : Hid ((bits .and .u64 r 1 == 1) = y) := Lib.hid (by rw [Cq.and_one _ ut, hy]; simp [bit])
  have HR := Lib.hid hr.symm
  clear hr hy
  unfold th
  go_enter Tryd.func34, Tryd.ntmps34
  go_wp2_with fail
  refine (turn_any _ _ _ ha _).mono ?_; rintro e w' ⟨rfl, rfl⟩
  rw [HR.out]
  go_upto_region 4 with fail
  rw [HX.out]
  go_region_with ((go_at_call 16; refine (neg_any _ _ ut _).mono ?_; rintro e w' ⟨rfl, rfl⟩))
  all_goals
    go_wp2_with fail
    refine bodyPost_ret (v := .tuple #[.int .u64 r, th y (neg r w != y) s]) (by simp [results, Tryd.results34, go_sem, th, bne]) rfl ⟨rfl, ?_⟩
    exact (((Kp.rfl W).new _).new _).draws _
theorem rotate_ror (a : Int) (k : Nat) (c o : Bool) (s w : Int) (ha : U64 a) (_hk : k ≤ 63) (W : World) : Calls Tryd.prog 34 #[.int .i64 27, .int .u64 a, .int .i64 (k : Int), th c o s, .int .i64 w] W
    fun e W' => e = .returned (.tuple #[.int .u64 (turn a (-k) w), th (neg (turn a (-k) w) w) (neg (IntKind.u64.wrap (turn a (-k) w * 2)) w != neg (turn a (-k) w) w) s]) ∧ Kp W W' := by
  have ut := Cq.turn_u64 a (-k) w
  obtain ⟨r, hr⟩ : ∃ r, r = turn a (-k) w := ⟨_, rfl⟩
  rw [← hr] at ut ⊢
  obtain ⟨y, hy⟩ : ∃ y, y = neg r w := ⟨_, rfl⟩
  rw [← hy]
  have HY := Lib.hid hy.symm
  have HR := Lib.hid hr.symm
  clear hr hy
  unfold th
  go_enter Tryd.func34, Tryd.ntmps34
  go_wp2_with fail
  refine (turn_any _ _ _ ha _).mono ?_; rintro e w' ⟨rfl, rfl⟩
  rw [HR.out]
  go_wp2_with fail
  refine (neg_any _ _ ut _).mono ?_; rintro e w' ⟨rfl, rfl⟩
  rw [HY.out]
  go_wp2_with fail
  go_region_with ((go_at_call 16; refine (neg_any _ _ (Cq.u64_wrap _) _).mono ?_; rintro e w' ⟨rfl, rfl⟩))
  all_goals
    go_wp2_with fail
    refine bodyPost_ret (v := .tuple #[.int .u64 r, th y (neg (IntKind.u64.wrap (r * 2)) w != y) s]) (by simp [results, Tryd.results34, go_sem, th, bne]) rfl ⟨rfl, ?_⟩
    exact (((Kp.rfl W).new _).new _).draws _
end Go.Proofs.YtlbkmdmnijmieaaDoor
