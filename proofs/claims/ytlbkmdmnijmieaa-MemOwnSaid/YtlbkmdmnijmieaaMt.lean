/- Layer 9 (memory): memory that is not there. -/
import Derived.Test.YtlbkmdmnijmieaaMs
import Derived.Deep.QuietTactic
import Derived.BigQuiet
namespace Go.Proofs.Ytlbkmdmnijmieaa
open Go Go.RowKit Rp
open Cq (U64 I64 isW nb mask)

theorem may_nil (t x w : Int) (wt : Bool) (W : World) : Calls Try.prog 25 #[.pointer none, .int .i64 t, .int .u64 x, .int .i64 w, .bool wt] W fun e W' => e = .returned (.bool false) ∧ W = W' := by
  go_enter Try.func25, Try.ntmps25
  go_wp2_with fail
  refine (knows_nil t _).mono ?_; rintro e w1 ⟨rfl, rfl⟩
  go_wp2_with fail
  go_ret
  exact ⟨rfl, rfl⟩
theorem load_nil (t x w : Int) (W : World) : Calls Try.prog 20 #[.pointer none, .int .i64 t, .int .u64 x, .int .i64 w] W fun e W' => e = .returned (.tuple #[.int .u64 0, .bool false]) ∧ Kp W W' := by
  obtain ⟨w1, hw1⟩ : ∃ w1, w1 = ((W.alloc (.cells #[.int .u64 x] 30)).alloc (.cells #[.int .u64 0] 30)).alloc (.cells #[.bool false] 4) := ⟨_, rfl⟩
  have hk1 : Kp W w1 := by rw [hw1]; exact (((Kp.rfl W).new _).new _).new _
  have hs : w1.heap.size = W.heap.size + 3 := by rw [hw1]; simp
  have hb8 : w1.heap[W.heap.size + 1]? = some (.cells #[.int .u64 0] 30 (0, 0)) := by
    rw [hw1]; refine (Below.heap_alloc _ _ _ (by simp)).trans ?_
    have := heap_alloc_new (W.alloc (.cells #[.int .u64 x] 30)) (.cells #[.int .u64 0] 30); rwa [World.size_alloc] at this
  have hb9 : w1.heap[W.heap.size + 2]? = some (.cells #[.bool false] 4 (0, 0)) := by
    rw [hw1]
    have := heap_alloc_new ((W.alloc (.cells #[.int .u64 x] 30)).alloc (.cells #[.int .u64 0] 30)) (.cells #[.bool false] 4); rwa [World.size_alloc, World.size_alloc] at this
  go_enter Try.func20, Try.ntmps20
  go_wp2_with fail
  rw [← hw1]
  refine (may_nil t x w false w1).mono ?_; rintro e w2 ⟨rfl, rfl⟩
  have c8 := cell_of_row w1 (W.heap.size + 1) 0 _ _ _ hb8
  have c9 := cell_of_row w1 (W.heap.size + 2) 0 _ _ _ hb9
  have f8 : w1.frozen? ⟨W.heap.size + 1, 0, none⟩ = false := by simp [World.frozen?, hb8]
  have f9 : w1.frozen? ⟨W.heap.size + 2, 0, none⟩ = false := by simp [World.frozen?, hb9]
  simp at c8 c9
  clear hw1
  have HK := Lib.hid hk1
  clear hk1 hb8 hb9
  go_wp2_with fail
  refine bodyPost_ret (results_2cells rfl _ _ (W.heap.size + 1) (W.heap.size + 2) (.int .u64 0) (.bool false) rfl rfl (load_u64 _ _ _ (by go_simp)) (load_bool _ _ _ (by go_simp))) rfl ?_
  exact ⟨rfl, (HK.out.put (p := ⟨W.heap.size + 1, 0, none⟩) (by simp) _).put (p := ⟨W.heap.size + 2, 0, none⟩) (by simp) _⟩
theorem store_nil (t x w sv : Int) (W : World) : Calls Try.prog 19 #[.pointer none, .int .i64 t, .int .u64 x, .int .i64 w, .int .u64 sv] W fun e W' => e = .returned (.bool false) ∧ W = W' := by
  go_enter Try.func19, Try.ntmps19
  go_wp2_with fail
  refine (may_nil t x w true _).mono ?_; rintro e w1 ⟨rfl, rfl⟩
  go_wp2_with fail
  go_ret
  exact ⟨rfl, rfl⟩
theorem put_nil (t x w sv : Int) (W : World) : Calls Try.prog 23 #[.pointer none, .int .i64 t, .int .u64 x, .int .i64 w, .int .u64 sv] W fun e W' => e = .returned (.bool false) ∧ W = W' := by
  go_enter Try.func23, Try.ntmps23
  go_wp2_with fail
  refine (may_nil t x w true _).mono ?_; rintro e w1 ⟨rfl, rfl⟩
  go_wp2_with fail
  go_ret
  exact ⟨rfl, rfl⟩
theorem own_nil (t k : Int) (W : World) : Calls Try.prog 27 #[.pointer none, .int .i64 t, .int .i64 k] W fun e W' => e = .returned (.bool false) ∧ W = W' := by
  go_enter Try.func27, Try.ntmps27
  go_wp2_with fail
  refine (knows_nil t _).mono ?_; rintro e w1 ⟨rfl, rfl⟩
  go_wp2_with fail
  go_ret
  exact ⟨rfl, rfl⟩
theorem flush_nil (t : Int) (W : World) : Calls Try.prog 26 #[.pointer none, .int .i64 t] W fun e W' => e = .returned (.int .i64 0) ∧ W = W' := by
  go_enter Try.func26, Try.ntmps26
  go_wp2_with fail
  refine (pend_nil t _).mono ?_; rintro e w1 ⟨rfl, rfl⟩
  go_wp2_with fail
  go_loopw [10] (fun i wr => i = .int .i64 0 ∧ W = wr) (fun _ _ => 0)
  case atStart => exact ⟨rfl, rfl⟩
  case round =>
    obtain ⟨rfl, rfl⟩ := hrel
    go_wp2_with fail
    go_ret
    exact ⟨rfl, rfl⟩
theorem areas_nil (W : World) : Calls Try.prog 28 #[.pointer none] W fun e W' => e = .returned (.slice none 0 0) ∧ W = W' := by
  go_enter Try.func28, Try.ntmps28
  go_wp2_with fail
  go_ret
  exact ⟨rfl, rfl⟩
theorem copy_nil (W : World) : Calls Try.prog 12 #[.pointer none] W fun e W' => e = .returned (.pointer none) ∧ W = W' := by
  go_enter Try.func12, Try.ntmps12
  go_wp2_with fail
  go_ret
  exact ⟨rfl, rfl⟩
theorem same_nil (W : World) : Calls Try.prog 15 #[.pointer none, .pointer none] W fun e W' => e = .returned (.bool false) ∧ ∃ m, W' = W.drewN m := by
  go_enter Try.func15, Try.ntmps15
  go_wp2_with fail
  go_quiet (fail)
  go_wp2_with fail
  go_ret
  exact ⟨rfl, _, rfl⟩
end Go.Proofs.Ytlbkmdmnijmieaa
