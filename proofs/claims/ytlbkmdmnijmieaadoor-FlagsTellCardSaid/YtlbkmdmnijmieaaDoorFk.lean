/- Walks of layer 8: thunks, and the words of operations. -/
import Derived.Test.YtlbkmdmnijmieaaDoorBitx
import Derived.Test.YtlbkmdmnijmieaaDoorFa
import Derived.Below
import Derived.Deep.RegionWith
namespace Go.Proofs.YtlbkmdmnijmieaaDoor
open Go Go.RowKit
open Cq (U64 I64 nb zx sx neg)

/-- what was there before is as it was -/
abbrev Kp (W W' : World) : Prop := Below W.heap.size W W'
theorem Kp.rfl (W : World) : Kp W W := Below.refl _ W
theorem Kp.next {W W1 W2 : World} (h : Kp W W1) (k : Kp W1 W2) : Kp W W2 := h.trans (k.mono h.size)
theorem Kp.new {W W1 : World} (h : Kp W W1) (o : Obj) : Kp W (W1.alloc o) := h.alloc h.size o
theorem Kp.draw {W W1 : World} (h : Kp W W1) : Kp W W1.drew := h.drew
theorem Kp.draws {W W1 : World} (h : Kp W W1) (n : Nat) : Kp W (W1.drewN n) := ⟨h.os, h.tape, h.output, h.size, h.block⟩
theorem Kp.put {W W1 : World} (h : Kp W W1) {p : Addr} (hp : W.heap.size ≤ p.block) (v : Value) : Kp W (W1.setCell p v) := h.setCell hp v
/-- a thunk -/
def th (c o : Bool) (r : Int) : Value := .agg #[.bool c, .bool o, .int .u64 r]

theorem of_any (r : Int) (c o : Bool) (w : Int) (hr : U64 r) (W : World) : Calls Tryd.prog 31 #[.int .u64 r, .bool c, .bool o, .int .i64 w] W fun e W' => e = .returned (th c o (sx r w)) ∧ W' = W.alloc (.cells #[.bool c, .bool o, .int .u64 (sx r w)] 25) := by
  go_enter Tryd.func31, Tryd.ntmps31
  go_wp2_with fail
  refine (sx_any _ _ hr _).mono ?_; rintro e w' ⟨rfl, rfl⟩
  go_wp2_with fail
  exact bodyPost_ret (v := th c o (sx r w)) (by simp [results, Tryd.results31, go_sem, th]) rfl ⟨rfl, rfl⟩
theorem ours_any (c o : Bool) (r : Int) (W : World) : Calls Tryd.prog 4 #[th c o r] W fun e W' => e = .returned (th c o r) ∧ Kp W W' := by
  unfold th
  go_enter Tryd.func4, Tryd.ntmps4
  go_wp2_with fail
  exact bodyPost_ret (v := th c o r) (by simp [results, Tryd.results4, go_sem, th]) rfl ⟨rfl, ((Kp.rfl W).new _).new _⟩
end Go.Proofs.YtlbkmdmnijmieaaDoor
