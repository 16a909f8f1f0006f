/- Layer 16: what an access and a span answer. -/
import Derived.Test.YtdfddpfbjaknoaaGreatProg
import Derived.WalkKit
import Derived.Below
import Derived.Laws.Rows
import Derived.Laws.Cells
import Derived.Lib.Hide
import Derived.Deep.AppendLies
namespace Go.Proofs.YtdfddpfbjaknoaaGreat
open Go Go.Proofs Go.RowKit

theorem w64 {n : Int} (h1 : -9223372036854775808 ≤ n) (h2 : n ≤ 9223372036854775807) : wrap64 n = n := by
  unfold wrap64
  omega
theorem wu64 {n : Int} (h1 : 0 ≤ n) (h2 : n ≤ 18446744073709551615) : IntKind.u64.wrap n = n := by
  simp only [IntKind.wrap, IntKind.signed, IntKind.bits]
  simp
  omega
set_option maxRecDepth 100000 in
theorem end_any {x2 x3 : Int} (x0 x1 : Int) (W : World) (h : wrap64 (x2 + x3) = x2 + x3) : Calls Tryz.prog 8 #[.agg #[.int .i64 x0, .int .i64 x1, .int .i64 x2, .int .i64 x3]] W fun e W' =>
    e = .returned (.int .i64 (x2 + x3)) ∧ Below W.heap.size W W' := by
  go_enter Tryz.func8, Tryz.ntmps8
  go_wp2_with fail
  go_ret
  exact ⟨by simp [h], (Below.refl _ _).alloc (Nat.le_refl _) _⟩

/-- Is a span in a stack? -/
def inside (a b sp lo size : Int) : Bool := decide (b - a ≤ size) && decide (IntKind.u64.wrap (IntKind.u64.wrap (sp + IntKind.u64.wrap a) - lo) ≤ size - (b - a))
set_option maxRecDepth 100000 in
theorem within_any {a b size : Int} (sp lo : Int) (W : World) (h1 : -4194304 ≤ a) (h2 : a ≤ b) (h3 : b ≤ 4194304) (h4 : 0 ≤ size) (h5 : size ≤ 18446744073709551615) :
    Calls Tryz.prog 5 #[.agg #[.int .i64 a, .int .i64 b], .int .u64 sp, .int .u64 lo, .int .u64 size] W fun e W' =>
    e = .returned (.bool (inside a b sp lo size)) ∧ Below W.heap.size W W' := by
  have e1 : wrap64 (b - a) = b - a := w64 (by omega) (by omega)
  have e2 : IntKind.u64.wrap (b - a) = b - a := wu64 (by omega) (by omega)
  by_cases hd : b - a ≤ size
  · have e3 : IntKind.u64.wrap (size - (b - a)) = size - (b - a) := wu64 (by omega) (by omega)
    have hi : inside a b sp lo size = decide (IntKind.u64.wrap (IntKind.u64.wrap (sp + IntKind.u64.wrap a) - lo) ≤ size - (b - a)) := by simp [inside, hd]
    rw [hi]
    clear hi
    go_enter Tryz.func5, Tryz.ntmps5
    go_wp2_with fail
    go_ret
    exact ⟨rfl, (Below.refl _ _).alloc (Nat.le_refl _) _⟩
  · have hi : inside a b sp lo size = false := by simp [inside, hd]
    rw [hi]
    clear hi
    have hd' : size < b - a := by omega
    go_enter Tryz.func5, Tryz.ntmps5
    go_wp2_with fail
    go_ret
    exact ⟨rfl, (Below.refl _ _).alloc (Nat.le_refl _) _⟩
set_option maxRecDepth 100000 in
theorem ref_any {a b size : Int} (sp lo : Int) (W : World) (h1 : -4194304 ≤ a) (h2 : a ≤ b) (h3 : b ≤ 4194304) (h4 : 0 ≤ size) (h5 : size ≤ 18446744073709551615) :
    Calls Tryz.prog 6 #[.int .i64 a, .int .i64 b, .int .u64 sp, .int .u64 lo, .int .u64 size] W fun e W' =>
    e = .returned (.bool (inside a b sp lo size)) ∧ Below W.heap.size W W' := by
  have e1 : wrap64 (b - a) = b - a := w64 (by omega) (by omega)
  have e2 : IntKind.u64.wrap (b - a) = b - a := wu64 (by omega) (by omega)
  have hba : ¬ b < a := by omega
  obtain ⟨f, hf⟩ : ∃ f, f = IntKind.u64.wrap (IntKind.u64.wrap (sp + IntKind.u64.wrap a) - lo) := ⟨_, rfl⟩
  have f0 : 0 ≤ f := by rw [hf]; exact wrap_u64_nonneg _
  by_cases hd : b - a ≤ size
  · have hd' : ¬ size < b - a := by omega
    by_cases hs : f ≤ size
    · have e3 : IntKind.u64.wrap (size - f) = size - f := wu64 (by omega) (by omega)
      have hi : inside a b sp lo size = decide (b - a ≤ size - f) := by
        simp only [inside, hd, decide_true, Bool.true_and, ← hf]
        congr 1
        apply propext
        omega
      rw [hi]
      clear hi
      go_enter Tryz.func6, Tryz.ntmps6
      go_wp2_with fail
      go_ret
      exact ⟨rfl, Below.refl _ _⟩
    · have hi : inside a b sp lo size = false := by
        simp only [inside, hd, decide_true, Bool.true_and, ← hf]
        exact decide_eq_false (by omega)
      rw [hi]
      clear hi
      have hs' : size < f := by omega
      go_enter Tryz.func6, Tryz.ntmps6
      go_wp2_with fail
      go_ret
      exact ⟨rfl, Below.refl _ _⟩
  · have hi : inside a b sp lo size = false := by simp [inside, hd]
    rw [hi]
    clear hi
    have hd' : size < b - a := by omega
    go_enter Tryz.func6, Tryz.ntmps6
    go_wp2_with fail
    go_ret
    exact ⟨rfl, Below.refl _ _⟩
end Go.Proofs.YtdfddpfbjaknoaaGreat
