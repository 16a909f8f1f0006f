/- Walks of layer 8: the flags as a number, of the code. -/
import Derived.Test.YtlbkmdmnijmieaaDoorTa
import Derived.Test.YtlbkmdmnijmieaaDoorFg
namespace Go.Proofs.YtlbkmdmnijmieaaDoor
open Go Go.RowKit
open Cq (U64 I64 isW nb zx sx neg mask)
set_option linter.unusedSimpArgs false
attribute [local irreducible] wpList Code.wp

/-- what is put together of the first k flags -/
def pv (c e z n o : Bool) : Nat → Int
  | 0 => 514
  | 1 => 514 + bI c 1
  | 2 => 514 + bI c 1 + bI e 4
  | 3 => 514 + bI c 1 + bI e 4 + bI z 64
  | 4 => 514 + bI c 1 + bI e 4 + bI z 64 + bI n 128
  | _ => packV c e z n o
theorem ix_0 (W : World) : (Instr.index 34 (.agg #[.int .u64 1, .int .u64 4, .int .u64 64, .int .u64 128, .int .u64 2048]) (.int .i64 0)).run Tryd.prog W = .ok (.int .u64 1) W := by
  show Sem.run _ _ _ = _
  kernel_rfl
theorem ix_1 (W : World) : (Instr.index 34 (.agg #[.int .u64 1, .int .u64 4, .int .u64 64, .int .u64 128, .int .u64 2048]) (.int .i64 1)).run Tryd.prog W = .ok (.int .u64 4) W := by
  show Sem.run _ _ _ = _
  kernel_rfl
theorem ix_2 (W : World) : (Instr.index 34 (.agg #[.int .u64 1, .int .u64 4, .int .u64 64, .int .u64 128, .int .u64 2048]) (.int .i64 2)).run Tryd.prog W = .ok (.int .u64 64) W := by
  show Sem.run _ _ _ = _
  kernel_rfl
theorem ix_3 (W : World) : (Instr.index 34 (.agg #[.int .u64 1, .int .u64 4, .int .u64 64, .int .u64 128, .int .u64 2048]) (.int .i64 3)).run Tryd.prog W = .ok (.int .u64 128) W := by
  show Sem.run _ _ _ = _
  kernel_rfl
theorem ix_4 (W : World) : (Instr.index 34 (.agg #[.int .u64 1, .int .u64 4, .int .u64 64, .int .u64 128, .int .u64 2048]) (.int .i64 4)).run Tryd.prog W = .ok (.int .u64 2048) W := by
  show Sem.run _ _ _ = _
  kernel_rfl
set_option maxHeartbeats 8000000 in
theorem pack_any (c o : Bool) (s : Int) (hs : U64 s) (W : World) (hz0 : 0 < W.heap.size) (g0 : W.cell? ⟨0, 0, none⟩ = some (.int .u64 1)) (g1 : W.cell? ⟨0, 1, none⟩ = some (.int .u64 4)) (g2 : W.cell? ⟨0, 2, none⟩ = some (.int .u64 64)) (g3 : W.cell? ⟨0, 3, none⟩ = some (.int .u64 128)) (g4 : W.cell? ⟨0, 4, none⟩ = some (.int .u64 2048)) :
    Calls Tryd.prog 11 #[.agg #[.bool c, .bool o, .int .u64 s]] W fun e W' => e = .returned (.int .u64 (packV c (even s) (s == 0) (neg s 8) o)) ∧ Kp W W' := by
  obtain ⟨n, hn⟩ : ∃ n, n = neg s 8 := ⟨_, rfl⟩
  obtain ⟨z, hz⟩ : ∃ z, z = (s == 0) := ⟨_, rfl⟩
  obtain ⟨ev, he⟩ : ∃ ev, ev = even s := ⟨_, rfl⟩
  rw [← hn, ← hz, ← he]
  have HN := Lib.hid hn.symm
  have HZ := Lib.hid hz.symm
  have HE := Lib.hid he.symm
  clear hn hz he
  go_enter Tryd.func11, Tryd.ntmps11
  go_wp2_with fail
  go_region_held3 (fun w' => w'.cell? ⟨W.heap.size, 0, none⟩ = some (.bool c) ∧ w'.cell? ⟨W.heap.size, 1, none⟩ = some (.bool o) ∧ w'.cell? ⟨W.heap.size, 2, none⟩ = some (.int .u64 s) ∧ Kp W w') ((refine ⟨?_, ?_, ?_, ?_⟩ <;> first | (with_reducible assumption) | (simp [go_sem]; done) | (simp [*, World.cell?_alloc_some]; done) | (repeat (first | with_reducible assumption | with_reducible exact Kp.rfl _ | with_reducible refine Kp.new ?_ _ | with_reducible refine Kp.draw ?_)))) ((first | (go_at_call 9; refine (even_th _ _ _ hs _).mono ?_; rintro e w2 ⟨rfl, rfl⟩; rw [HE.out]) | (go_at_call 5; refine (zero_any _ _ _ _).mono ?_; rintro e w2 ⟨rfl, rfl⟩; rw [HZ.out]) | (go_at_call 7; refine (sign_any _ _ _ hs _).mono ?_; rintro e w2 ⟨rfl, rfl⟩; rw [HN.out])))
  all_goals
    go_wp2_with fail
    go_loop [4, 5, 6, 19] (fun v _ _ i => ∃ k : Nat, k ≤ 5 ∧ i = .int .i64 k ∧ v = .int .u64 (pv c ev z n o k)) (fun _ _ _ i => 5 - (intOf i).toNat)
    case atStart => exact ⟨0, by omega, rfl, rfl⟩
    case round =>
      obtain ⟨k, hk, rfl, rfl⟩ := hrel
      rcases (by omega : k = 0 ∨ k = 1 ∨ k = 2 ∨ k = 3 ∨ k = 4 ∨ k = 5) with rfl | rfl | rfl | rfl | rfl | rfl
      · have hix := ix_0
        cases c
        · go_wp2_with fail
          go_round
          case rel => exact ⟨1, by omega, rfl, by simp [pv, packV, bI]⟩
          case measure => simp [intOf]
        · go_wp2_with fail
          go_round
          case rel => exact ⟨1, by omega, rfl, by cases ev <;> cases z <;> cases n <;> cases o <;> rfl⟩
          case measure => simp [intOf]
      · have hix := ix_1
        cases ev
        · go_wp2_with fail
          go_round
          case rel => exact ⟨2, by omega, rfl, by simp [pv, packV, bI]⟩
          case measure => simp [intOf]
        · go_wp2_with fail
          go_round
          case rel => exact ⟨2, by omega, rfl, by cases c <;> cases z <;> cases n <;> cases o <;> rfl⟩
          case measure => simp [intOf]
      · have hix := ix_2
        cases z
        · go_wp2_with fail
          go_round
          case rel => exact ⟨3, by omega, rfl, by simp [pv, packV, bI]⟩
          case measure => simp [intOf]
        · go_wp2_with fail
          go_round
          case rel => exact ⟨3, by omega, rfl, by cases c <;> cases ev <;> cases n <;> cases o <;> rfl⟩
          case measure => simp [intOf]
      · have hix := ix_3
        cases n
        · go_wp2_with fail
          go_round
          case rel => exact ⟨4, by omega, rfl, by simp [pv, packV, bI]⟩
          case measure => simp [intOf]
        · go_wp2_with fail
          go_round
          case rel => exact ⟨4, by omega, rfl, by cases c <;> cases ev <;> cases z <;> cases o <;> rfl⟩
          case measure => simp [intOf]
      · have hix := ix_4
        cases o
        · go_wp2_with fail
          go_round
          case rel => exact ⟨5, by omega, rfl, by simp [pv, packV, bI]⟩
          case measure => simp [intOf]
        · go_wp2_with fail
          go_round
          case rel => exact ⟨5, by omega, rfl, by cases c <;> cases ev <;> cases z <;> cases n <;> rfl⟩
          case measure => simp [intOf]
      · go_wp2_with fail
        go_ret
        exact ⟨rfl, by repeat (first | with_reducible exact Kp.rfl _ | with_reducible refine Kp.new ?_ _ | with_reducible refine Kp.draw ?_)⟩
end Go.Proofs.YtlbkmdmnijmieaaDoor
