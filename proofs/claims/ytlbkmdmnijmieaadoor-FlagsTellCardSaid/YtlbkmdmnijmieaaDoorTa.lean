/- Walks of layer 8: what a thunk tells, by the document's own answers; the flags as a number, of both. -/
import Derived.Test.YtlbkmdmnijmieaaDoorFd
import Derived.Test.YtlbkmdmnijmieaaDoorFe
import Derived.Deep.RegionHeld3
import Derived.LoopTactic
namespace Go.Proofs.YtlbkmdmnijmieaaDoor
open Go Go.RowKit
open Cq (U64 I64 isW nb zx sx neg mask)
attribute [local irreducible] wpList Code.wp

theorem rzero_any (c o : Bool) (s : Int) (W : World) : Calls Tryd.prog 6 #[.agg #[.bool c, .bool o, .int .u64 s]] W fun e W' => e = .returned (.bool (s == 0)) ∧ W' = W.alloc (.cells #[.bool c, .bool o, .int .u64 s] 24) := by
  go_enter Tryd.func6, Tryd.ntmps6
  go_wp2_with fail
  go_ret
  exact ⟨rfl, rfl⟩
theorem rsign_any (c o : Bool) (s : Int) (hs : U64 s) (W : World) : Calls Tryd.prog 8 #[.agg #[.bool c, .bool o, .int .u64 s]] W fun e W' => e = .returned (.bool (neg s 8)) ∧ W' = W.alloc (.cells #[.bool c, .bool o, .int .u64 s] 24) := by
  have H := Lib.hid (Cq.neg8 hs)
  go_enter Tryd.func8, Tryd.ntmps8
  go_wp2_with fail
  go_ret
  exact ⟨by rw [H.out]; rfl, rfl⟩
theorem reven_th (c o : Bool) (s : Int) (hs : U64 s) (W : World) : Calls Tryd.prog 10 #[.agg #[.bool c, .bool o, .int .u64 s]] W fun e W' => e = .returned (.bool (even s)) ∧ W' = W.alloc (.cells #[.bool c, .bool o, .int .u64 s] 24) := by
  go_enter Tryd.func10, Tryd.ntmps10
  go_wp2_with fail
  refine (reven_any _ hs _).mono ?_; rintro e w' ⟨rfl, rfl⟩
  go_wp2_with fail
  go_ret
  exact ⟨rfl, rfl⟩
def bI (b : Bool) (n : Int) : Int := if b then n else 0
/-- the flags as a number -/
def packV (c e z n o : Bool) : Int := 514 + bI c 1 + bI e 4 + bI z 64 + bI n 128 + bI o 2048
set_option maxHeartbeats 4000000 in
theorem rpack_any (c o : Bool) (s : Int) (hs : U64 s) (W : World) : Calls Tryd.prog 12 #[.agg #[.bool c, .bool o, .int .u64 s]] W fun e W' => e = .returned (.int .u64 (packV c (even s) (s == 0) (neg s 8) o)) ∧ Kp W W' := by
  obtain ⟨n, hn⟩ : ∃ n, n = neg s 8 := ⟨_, rfl⟩
  obtain ⟨z, hz⟩ : ∃ z, z = (s == 0) := ⟨_, rfl⟩
  obtain ⟨ev, he⟩ : ∃ ev, ev = even s := ⟨_, rfl⟩
  rw [← hn, ← hz, ← he]
  have HN := Lib.hid hn.symm
  have HZ := Lib.hid hz.symm
  have HE := Lib.hid he.symm
  clear hn hz he
  go_enter Tryd.func12, Tryd.ntmps12
  cases c <;> cases ev <;> cases z <;> cases n <;> cases o
  all_goals
    go_wp2_with fail
    refine (reven_th _ _ _ hs _).mono ?_; rintro e w' ⟨rfl, rfl⟩
    rw [HE.out]
    go_wp2_with fail
    refine (rzero_any _ _ _ _).mono ?_; rintro e w' ⟨rfl, rfl⟩
    rw [HZ.out]
    go_wp2_with fail
    refine (rsign_any _ _ _ hs _).mono ?_; rintro e w' ⟨rfl, rfl⟩
    rw [HN.out]
    go_wp2_with fail
    go_ret
    exact ⟨rfl, ((((Kp.rfl W).new _).new _).new _).new _⟩
end Go.Proofs.YtlbkmdmnijmieaaDoor
