/- The statement of layer 2 on a rope and a view that are not there. -/
import Derived.Test.YtkjbhhbgfhicgaaRope
namespace Go.Proofs.Ytkjbhhbgfhicgaa
open Go.RowKit Rp
open Cq (U64 I64 isW)

theorem nil_raw (l : Value) (W : World) : Calls Try.prog 71 #[.pointer none, l] W fun e W' => e = .returned (.tuple #[]) ∧ W = W' := by
  go_enter Try.func71, Try.ntmps71
  go_wp2
  exact bodyPost_ret (results_none rfl _ _ _) rfl ⟨rfl, rfl⟩
theorem nil_skip (n : Int) (W : World) : Calls Try.prog 63 #[.pointer none, .int .i64 n] W fun e W' => e = .returned (.tuple #[]) ∧ W = W' := by
  go_enter Try.func63, Try.ntmps63
  go_wp2
  go_end0
  exact ⟨rfl, rfl⟩
theorem nil_at (a n : Int) (W : World) : Calls Try.prog 69 #[.pointer none, .int .i64 a, .int .i64 n] W fun e W' => e = .returned (.tuple #[.int .u64 0, .int .i64 1]) ∧ W = W' := by
  go_enter Try.func69, Try.ntmps69
  go_wp2
  go_ret2
  exact ⟨rfl, rfl⟩
theorem nil_cut (a n : Int) (W : World) : Calls Try.prog 73 #[.pointer none, .int .i64 a, .int .i64 n] W fun e W' => e = .returned (.tuple #[.slice none 0 0, .int .i64 1]) ∧ W = W' := by
  go_enter Try.func73, Try.ntmps73
  go_wp2
  go_ret2
  exact ⟨rfl, rfl⟩
theorem nil_str (a n : Int) (W : World) : Calls Try.prog 74 #[.pointer none, .int .i64 a, .int .i64 n] W fun e W' => e = .returned (.tuple #[.string ByteArray.empty, .int .i64 1]) ∧ W = W' := by
  go_enter Try.func74, Try.ntmps74
  go_wp2
  go_ret2
  exact ⟨rfl, rfl⟩
theorem nil_text (l : Value) (W : World) : Calls Try.prog 70 #[.pointer none, l] W fun e W' => e = .returned (.int .i64 1) ∧ W = W' := by
  go_enter Try.func70, Try.ntmps70
  go_wp2
  go_ret
  exact ⟨rfl, rfl⟩
theorem nil_pad (n : Int) (W : World) : Calls Try.prog 72 #[.pointer none, .int .i64 n] W fun e W' => e = .returned (.int .i64 1) ∧ W = W' := by
  go_enter Try.func72, Try.ntmps72
  go_wp2
  go_ret
  exact ⟨rfl, rfl⟩
theorem nil_set (a n : Int) (x : Int) (W : World) : Calls Try.prog 75 #[.pointer none, .int .i64 a, .int .i64 n, .int .u64 x] W fun e W' => e = .returned (.int .i64 1) ∧ W = W' := by
  go_enter Try.func75, Try.ntmps75
  go_wp2
  go_ret
  exact ⟨rfl, rfl⟩
theorem nil_len  (W : World) : Calls Try.prog 54 #[.pointer none] W fun e W' => e = .returned (.int .i64 0) ∧ W = W' := by
  go_enter Try.func54, Try.ntmps54
  go_wp2
  go_ret
  exact ⟨rfl, rfl⟩
theorem nil_bytes  (W : World) : Calls Try.prog 53 #[.pointer none] W fun e W' => e = .returned (.slice none 0 0) ∧ W = W' := by
  go_enter Try.func53, Try.ntmps53
  go_wp2
  go_ret
  exact ⟨rfl, rfl⟩
theorem nil_vnum (n : Int) (W : World) : Calls Try.prog 59 #[.pointer none, .int .i64 n] W fun e W' => e = .returned (.int .u64 0) ∧ W = W' := by
  go_enter Try.func59, Try.ntmps59
  go_wp2
  go_ret
  exact ⟨rfl, rfl⟩
theorem nil_vraw (n : Int) (W : World) : Calls Try.prog 62 #[.pointer none, .int .i64 n] W fun e W' => e = .returned (.slice none 0 0) ∧ W = W' := by
  go_enter Try.func62, Try.ntmps62
  go_wp2
  go_ret
  exact ⟨rfl, rfl⟩
theorem nil_verr  (W : World) : Calls Try.prog 64 #[.pointer none] W fun e W' => e = .returned (.int .i64 1) ∧ W = W' := by
  go_enter Try.func64, Try.ntmps64
  go_wp2
  go_ret
  exact ⟨rfl, rfl⟩
theorem nil_vat  (W : World) : Calls Try.prog 65 #[.pointer none] W fun e W' => e = .returned (.int .i64 0) ∧ W = W' := by
  go_enter Try.func65, Try.ntmps65
  go_wp2
  go_ret
  exact ⟨rfl, rfl⟩
theorem nil_vleft  (W : World) : Calls Try.prog 66 #[.pointer none] W fun e W' => e = .returned (.int .i64 0) ∧ W = W' := by
  go_enter Try.func66, Try.ntmps66
  go_wp2
  go_ret
  exact ⟨rfl, rfl⟩
theorem nil_read (a : Int) (W : World) : Calls Try.prog 56 #[.pointer none, .int .i64 a] W fun e W' => e = .returned (.pointer (some ⟨W.heap.size, 0, none⟩)) ∧ W.alloc (.cells #[.slice none 0 0, .int .i64 0, .int .i64 1] 102) = W' := by
  go_enter Try.func56, Try.ntmps56
  go_wp2
  go_ret
  exact ⟨rfl, rfl⟩
theorem err_any (g : Nat) (x : Int) (W : World) (hc : W.cell? ⟨g, 2, none⟩ = some (.int .i64 x)) : Calls Try.prog 64 #[.pointer (some ⟨g, 0, none⟩)] W fun e W' => e = .returned (.int .i64 x) ∧ W = W' := by
  go_enter Try.func64, Try.ntmps64
  go_wp2
  go_ret
  exact ⟨rfl, rfl⟩
set_option maxHeartbeats 1000000 in
set_option maxRecDepth 100000 in
theorem law_nil (a n : Int) (W : World) : Calls Try.prog 14 #[.int .i64 a, .int .i64 n] W fun e W' => e = .returned (.bool true) ∧ Below W.heap.size W W' := by
  go_enter Try.func14, Try.ntmps14
  go_wp2_with fail
  refine (nil_raw _ _).mono ?_; rintro e w' ⟨rfl, rfl⟩
  go_wp2_with fail
  refine (nil_skip _ _).mono ?_; rintro e w' ⟨rfl, rfl⟩
  go_wp2_with fail
  refine (nil_at _ _ _).mono ?_; rintro e w' ⟨rfl, rfl⟩
  go_wp2_with fail
  refine (nil_cut _ _ _).mono ?_; rintro e w' ⟨rfl, rfl⟩
  go_wp2_with fail
  refine (nil_str _ _ _).mono ?_; rintro e w' ⟨rfl, rfl⟩
  go_wp2_with fail
  refine (num_nil _ _ _).mono ?_; rintro e w' ⟨rfl, rfl⟩
  go_wp2_with fail
  refine (nil_text _ _).mono ?_; rintro e w' ⟨rfl, rfl⟩
  go_wp2_with fail
  refine (nil_pad _ _).mono ?_; rintro e w' ⟨rfl, rfl⟩
  go_wp2_with fail
  refine (nil_set _ _ _ _).mono ?_; rintro e w' ⟨rfl, rfl⟩
  go_wp2_with fail
  refine (nil_len _).mono ?_; rintro e w' ⟨rfl, rfl⟩
  go_wp2_with fail
  refine (nil_bytes _).mono ?_; rintro e w' ⟨rfl, rfl⟩
  go_wp2_with fail
  refine (nil_read _ _).mono ?_; rintro e w' ⟨rfl, rfl⟩
  go_wp2_with fail
  have hb3 : Below W.heap.size W (((W.alloc (.cells #[.int .u8 1] 5)).alloc (.cells #[.slice (some ⟨W.heap.size, 0, none⟩) 1 1] 48)).alloc (.cells #[.slice none 0 0, .int .i64 0, .int .i64 1] 102)) :=
    (((Below.refl _ _).alloc (Nat.le_refl _) _).alloc (by simp) _).alloc (by simp; omega) _
  have HB3 := Lib.hid hb3
  clear hb3
  have hc3 : (((W.alloc (.cells #[.int .u8 1] 5)).alloc (.cells #[.slice (some ⟨W.heap.size, 0, none⟩) 1 1] 48)).alloc (.cells #[.slice none 0 0, .int .i64 0, .int .i64 1] 102)).cell? ⟨W.heap.size + 1 + 1, 2, none⟩ = some (.int .i64 1) := by
    have := (Box.fresh ((W.alloc (.cells #[.int .u8 1] 5)).alloc (.cells #[.slice (some ⟨W.heap.size, 0, none⟩) 1 1] 48)) 102 [.slice none 0 0, .int .i64 0, .int .i64 1]).cell 2
    rw [World.size_alloc, World.size_alloc] at this
    exact this
  have HC3 := Lib.hid hc3
  clear hc3
  refine (err_any _ 1 _ HC3.out).mono ?_; rintro e w' ⟨rfl, rfl⟩
  generalize ((W.alloc (.cells #[.int .u8 1] 5)).alloc (.cells #[.slice (some ⟨W.heap.size, 0, none⟩) 1 1] 48)).alloc (.cells #[.slice none 0 0, .int .i64 0, .int .i64 1] 102) = w3 at *
  go_wp2_with fail
  refine (nil_vnum _ _).mono ?_; rintro e w' ⟨rfl, rfl⟩
  go_wp2_with fail
  refine (nil_vraw _ _).mono ?_; rintro e w' ⟨rfl, rfl⟩
  go_wp2_with fail
  refine (nil_verr _).mono ?_; rintro e w' ⟨rfl, rfl⟩
  go_wp2_with fail
  refine (nil_vat _).mono ?_; rintro e w' ⟨rfl, rfl⟩
  go_wp2_with fail
  refine (nil_vleft _).mono ?_; rintro e w' ⟨rfl, rfl⟩
  go_wp2_with fail
  refine (awake2_any _).mono ?_; rintro e w4 ⟨rfl, hb4⟩
  have HB4 := Lib.hid (below_trans HB3.out hb4)
  clear hb4
  go_wp2_with fail
  go_ret
  exact ⟨rfl, HB4.out⟩
end Go.Proofs.Ytkjbhhbgfhicgaa
