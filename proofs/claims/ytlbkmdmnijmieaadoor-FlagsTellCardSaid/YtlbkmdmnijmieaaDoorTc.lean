/- Walks of layer 8: conditions, by the document's own answers. -/
import Derived.Test.YtlbkmdmnijmieaaDoorTa
namespace Go.Proofs.YtlbkmdmnijmieaaDoor
open Go Go.RowKit
open Cq (U64 I64 isW nb zx sx neg mask)
set_option linter.unusedSimpArgs false
attribute [local irreducible] wpList Code.wp

/-- a condition, of the flags -/
def condB (cc : Int) (c o z n ev : Bool) : Bool :=
  if cc < 0 ∨ 15 < cc then false else
    (if cc / 2 = 0 then o else if cc / 2 = 1 then c else if cc / 2 = 2 then z else if cc / 2 = 3 then c || z else if cc / 2 = 4 then n else if cc / 2 = 5 then ev else if cc / 2 = 6 then n != o else z || (n != o)) != (cc % 2 == 1)
theorem rcond_out (c o : Bool) (s cc : Int) (h : cc < 0 ∨ 15 < cc) (W : World) : Calls Tryd.prog 14 #[.agg #[.bool c, .bool o, .int .u64 s], .int .i64 cc] W fun e W' => e = .returned (.bool false) ∧ Kp W W' := by
  by_cases h1 : cc < 0
  · go_enter Tryd.func14, Tryd.ntmps14
    go_wp2_with fail
    go_ret
    exact ⟨rfl, (Kp.rfl W).new _⟩
  · have h2 : 15 < cc := by omega
    have h1' := Int.not_lt.mp h1
    clear h h1
    go_enter Tryd.func14, Tryd.ntmps14
    go_wp2_with fail
    go_ret
    exact ⟨rfl, (Kp.rfl W).new _⟩
set_option maxHeartbeats 8000000 in
theorem rcond_false_false (o : Bool) (s cc : Int) (hs : U64 s) (hz : (s == 0) = false) (h0 : 0 ≤ cc) (h1 : cc ≤ 15) (W : World) : Calls Tryd.prog 14 #[.agg #[.bool false, .bool o, .int .u64 s], .int .i64 cc] W fun e W' => e = .returned (.bool (condB cc false o false (neg s 8) (even s))) ∧ Kp W W' := by
  obtain ⟨n, hn⟩ : ∃ n, n = neg s 8 := ⟨_, rfl⟩
  obtain ⟨ev, he⟩ : ∃ ev, ev = even s := ⟨_, rfl⟩
  rw [← hn, ← he]
  have HN := Lib.hid hn.symm
  have HZ := Lib.hid hz
  have HE := Lib.hid he.symm
  clear hn hz he
  go_enter Tryd.func14, Tryd.ntmps14
  go_wp2_with fail
  (go_region_held3 (fun w' => w'.cell? ⟨W.heap.size, 0, none⟩ = some (.bool false) ∧ w'.cell? ⟨W.heap.size, 1, none⟩ = some (.bool o) ∧ w'.cell? ⟨W.heap.size, 2, none⟩ = some (.int .u64 s) ∧ Kp W w') ((refine ⟨?_, ?_, ?_, ?_⟩ <;> first | (with_reducible assumption) | (simp [go_sem]; done) | (simp [*, World.cell?_alloc_some]; done) | (repeat (first | with_reducible assumption | with_reducible exact Kp.rfl _ | with_reducible refine Kp.new ?_ _ | with_reducible refine Kp.draw ?_)))) ((first | (go_at_call 10; refine (reven_th _ _ _ hs _).mono ?_; rintro e w2 ⟨rfl, rfl⟩; rw [HE.out]) | (go_at_call 6; refine (rzero_any _ _ _ _).mono ?_; rintro e w2 ⟨rfl, rfl⟩; rw [HZ.out]) | (go_at_call 8; refine (rsign_any _ _ _ hs _).mono ?_; rintro e w2 ⟨rfl, rfl⟩; rw [HN.out]))))
  all_goals
    rcases (by omega : cc = 0 ∨ cc = 1 ∨ cc = 2 ∨ cc = 3 ∨ cc = 4 ∨ cc = 5 ∨ cc = 6 ∨ cc = 7 ∨ cc = 8 ∨ cc = 9 ∨ cc = 10 ∨ cc = 11 ∨ cc = 12 ∨ cc = 13 ∨ cc = 14 ∨ cc = 15) with rfl | rfl | rfl | rfl | rfl | rfl | rfl | rfl | rfl | rfl | rfl | rfl | rfl | rfl | rfl | rfl
    all_goals
      go_wp2_with fail
      go_ret
      refine ⟨?_, by repeat (first | with_reducible exact Kp.rfl _ | with_reducible refine Kp.new ?_ _ | with_reducible refine Kp.draw ?_)⟩
      cases o <;> cases n <;> cases ev <;> rfl
set_option maxHeartbeats 8000000 in
theorem rcond_false_true (o : Bool) (s cc : Int) (hs : U64 s) (hz : (s == 0) = true) (h0 : 0 ≤ cc) (h1 : cc ≤ 15) (W : World) : Calls Tryd.prog 14 #[.agg #[.bool false, .bool o, .int .u64 s], .int .i64 cc] W fun e W' => e = .returned (.bool (condB cc false o true (neg s 8) (even s))) ∧ Kp W W' := by
  obtain ⟨n, hn⟩ : ∃ n, n = neg s 8 := ⟨_, rfl⟩
  obtain ⟨ev, he⟩ : ∃ ev, ev = even s := ⟨_, rfl⟩
  rw [← hn, ← he]
  have HN := Lib.hid hn.symm
  have HZ := Lib.hid hz
  have HE := Lib.hid he.symm
  clear hn hz he
  go_enter Tryd.func14, Tryd.ntmps14
  go_wp2_with fail
  refine wp_region_noPanic ?_
  refine wp_region_held_drew (S := (fun w' => w'.cell? ⟨W.heap.size, 0, none⟩ = some (.bool false) ∧ w'.cell? ⟨W.heap.size, 1, none⟩ = some (.bool o) ∧ w'.cell? ⟨W.heap.size, 2, none⟩ = some (.int .u64 s) ∧ Kp W w')) (by kernel_rfl) ?_ (fun hHeld => ?_)
  · (try dsimp only); (refine ⟨?_, ?_, ?_, ?_⟩ <;> first | (with_reducible assumption) | (simp [go_sem]; done) | (simp [*, World.cell?_alloc_some]; done) | (repeat (first | with_reducible assumption | with_reducible exact Kp.rfl _ | with_reducible refine Kp.new ?_ _ | with_reducible refine Kp.draw ?_)))
  refine' wpAnyH_take (i := 0) (oi := _) (v := _) rfl (by kernel_rfl) (by kernel_rfl) (by kernel_rfl) (fun _ _ _ h => h) (Or.inl ⟨by rfl, ?hy0⟩) (by assumption) ?rest0
  case hy0 => (intro w hSw; (try dsimp only at hSw); go_simp; try with_reducible rfl)
  try simp only [Act.put, List.setIfInBounds_toArray, List.set_cons_zero, List.set_cons_succ]
  refine' wpAnyH_take (i := 1) (oi := _) (v := _) rfl (by kernel_rfl) (by kernel_rfl) (by kernel_rfl) (fun _ _ _ h => h) (Or.inl ⟨by rfl, ?hy1⟩) (by assumption) ?rest1
  case hy1 => (intro w hSw; (try dsimp only at hSw); go_simp; try with_reducible rfl)
  try simp only [Act.put, List.setIfInBounds_toArray, List.set_cons_zero, List.set_cons_succ]
  refine' wpAnyH_take (i := 2) (oi := _) (v := _) rfl (by kernel_rfl) (by kernel_rfl) (by kernel_rfl) (fun _ _ _ h => h) (Or.inl ⟨by rfl, ?hy2⟩) (by assumption) ?rest2
  case hy2 => (intro w hSw; (try dsimp only at hSw); go_simp; try with_reducible rfl)
  try simp only [Act.put, List.setIfInBounds_toArray, List.set_cons_zero, List.set_cons_succ]
  refine' wpAnyH_take (i := 3) (oi := _) (v := _) rfl (by kernel_rfl) (by kernel_rfl) (by kernel_rfl) (fun _ _ _ h => h) (Or.inl ⟨by rfl, ?hy3⟩) (by assumption) ?rest3
  case hy3 => (intro w hSw; (try dsimp only at hSw); go_simp; try with_reducible rfl)
  try simp only [Act.put, List.setIfInBounds_toArray, List.set_cons_zero, List.set_cons_succ]
  refine' wpAnyH_take (i := 4) (oi := _) (v := _) rfl (by kernel_rfl) (by kernel_rfl) (by kernel_rfl) (fun _ _ _ h => h) (Or.inl ⟨by rfl, ?hy4⟩) (by assumption) ?rest4
  case hy4 => (intro w hSw; (try dsimp only at hSw); go_simp; try with_reducible rfl)
  try simp only [Act.put, List.setIfInBounds_toArray, List.set_cons_zero, List.set_cons_succ]
  refine' wpAnyH_take (i := 6) (oi := _) (v := _) rfl (by kernel_rfl) (by kernel_rfl) (by kernel_rfl) (fun _ _ _ h => h) (Or.inl ⟨by rfl, ?hy6⟩) (by assumption) ?rest6
  case hy6 => (intro w hSw; (try dsimp only at hSw); go_simp; try with_reducible rfl)
  try simp only [Act.put, List.setIfInBounds_toArray, List.set_cons_zero, List.set_cons_succ]
  refine' wpAnyH_take (i := 7) (oi := _) (v := _) rfl (by kernel_rfl) (by kernel_rfl) (by kernel_rfl) (fun _ _ _ h => h) (Or.inl ⟨by rfl, ?hy7⟩) (by assumption) ?rest7
  case hy7 => (intro w hSw; (try dsimp only at hSw); go_simp; try with_reducible rfl)
  try simp only [Act.put, List.setIfInBounds_toArray, List.set_cons_zero, List.set_cons_succ]
  refine' wpAnyH_take (i := 12) (oi := _) (v := _) rfl (by kernel_rfl) (by kernel_rfl) (by kernel_rfl) (fun _ _ _ h => h) (Or.inl ⟨by rfl, ?hy12⟩) (by assumption) ?rest12
  case hy12 => (intro w hSw; (try dsimp only at hSw); go_simp; try with_reducible rfl)
  try simp only [Act.put, List.setIfInBounds_toArray, List.set_cons_zero, List.set_cons_succ]
  refine' wpAnyH_take (i := 14) (oi := _) (v := _) rfl (by kernel_rfl) (by kernel_rfl) (by kernel_rfl) (fun _ _ _ h => h) (Or.inl ⟨by rfl, ?hy14⟩) (by assumption) ?rest14
  case hy14 => (intro w hSw; (try dsimp only at hSw); go_simp; try with_reducible rfl)
  try simp only [Act.put, List.setIfInBounds_toArray, List.set_cons_zero, List.set_cons_succ]
  refine' wpAnyH_take (i := 16) (oi := _) (v := _) rfl (by kernel_rfl) (by kernel_rfl) (by kernel_rfl) (fun _ _ _ h => h) (Or.inl ⟨by rfl, ?hy16⟩) (by assumption) ?rest16
  case hy16 => (intro w hSw; (try dsimp only at hSw); go_simp; try with_reducible rfl)
  try simp only [Act.put, List.setIfInBounds_toArray, List.set_cons_zero, List.set_cons_succ]
  refine' wpAnyH_take (i := 18) (oi := _) (v := _) rfl (by kernel_rfl) (by kernel_rfl) (by kernel_rfl) (fun _ _ _ h => h) (Or.inl ⟨by rfl, ?hy18⟩) (by assumption) ?rest18
  case hy18 => (intro w hSw; (try dsimp only at hSw); go_simp; try with_reducible rfl)
  try simp only [Act.put, List.setIfInBounds_toArray, List.set_cons_zero, List.set_cons_succ]
  refine' wpAnyH_take (i := 19) (oi := _) (v := _) rfl (by kernel_rfl) (by kernel_rfl) (by kernel_rfl) (fun _ _ _ h => h) (Or.inl ⟨by rfl, ?hy19⟩) (by assumption) ?rest19
  case hy19 => (intro w hSw; (try dsimp only at hSw); go_simp; try with_reducible rfl)
  try simp only [Act.put, List.setIfInBounds_toArray, List.set_cons_zero, List.set_cons_succ]
  refine' wpAnyH_take (i := 21) (oi := _) (v := _) rfl (by kernel_rfl) (by kernel_rfl) (by kernel_rfl) (fun _ _ _ h => h) (Or.inl ⟨by rfl, ?hy21⟩) (by assumption) ?rest21
  case hy21 => (intro w hSw; (try dsimp only at hSw); go_simp; try with_reducible rfl)
  try simp only [Act.put, List.setIfInBounds_toArray, List.set_cons_zero, List.set_cons_succ]
  refine wpAnyH_ready (rs := [5]) (by kernel_rfl) (by simp) ?_
  refine AllReadyH.cons rfl (fun K hK => ?_) AllReadyH.nil
  go_simp
  ((first | (go_at_call 10; refine (reven_th _ _ _ hs _).mono ?_; rintro e w2 ⟨rfl, rfl⟩; rw [HE.out]) | (go_at_call 6; refine (rzero_any _ _ _ _).mono ?_; rintro e w2 ⟨rfl, rfl⟩; rw [HZ.out]) | (go_at_call 8; refine (rsign_any _ _ _ hs _).mono ?_; rintro e w2 ⟨rfl, rfl⟩; rw [HN.out])))
  refine hK.out _ _ ?_ (fun hHeld => ?_)
  · (try dsimp only); (refine ⟨?_, ?_, ?_, ?_⟩ <;> first | (with_reducible assumption) | (simp [go_sem]; done) | (simp [*, World.cell?_alloc_some]; done) | (repeat (first | with_reducible assumption | with_reducible exact Kp.rfl _ | with_reducible refine Kp.new ?_ _ | with_reducible refine Kp.draw ?_)))
  clear hK K
  try simp only [Act.put, List.setIfInBounds_toArray, List.set_cons_zero, List.set_cons_succ]
  refine' wpAnyH_take (i := 8) (oi := _) (v := _) rfl (by kernel_rfl) (by kernel_rfl) (by kernel_rfl) (fun _ _ _ h => h) (Or.inl ⟨by rfl, ?hy8⟩) (by assumption) ?rest8
  case hy8 => (intro w hSw; (try dsimp only at hSw); go_simp; try with_reducible rfl)
  try simp only [Act.put, List.setIfInBounds_toArray, List.set_cons_zero, List.set_cons_succ]
  refine' wpAnyH_take (i := 9) (oi := _) (v := _) rfl (by kernel_rfl) (by kernel_rfl) (by kernel_rfl) (fun _ _ _ h => h) (Or.inl ⟨by rfl, ?hy9⟩) (by assumption) ?rest9
  case hy9 => (intro w hSw; (try dsimp only at hSw); go_simp; try with_reducible rfl)
  try simp only [Act.put, List.setIfInBounds_toArray, List.set_cons_zero, List.set_cons_succ]
  refine wpAnyH_ready (rs := [10]) (by kernel_rfl) (by simp) ?_
  refine AllReadyH.cons rfl (fun K hK => ?_) AllReadyH.nil
  go_simp
  ((first | (go_at_call 10; refine (reven_th _ _ _ hs _).mono ?_; rintro e w2 ⟨rfl, rfl⟩; rw [HE.out]) | (go_at_call 6; refine (rzero_any _ _ _ _).mono ?_; rintro e w2 ⟨rfl, rfl⟩; rw [HZ.out]) | (go_at_call 8; refine (rsign_any _ _ _ hs _).mono ?_; rintro e w2 ⟨rfl, rfl⟩; rw [HN.out])))
  refine hK.out _ _ ?_ (fun hHeld => ?_)
  · (try dsimp only); (refine ⟨?_, ?_, ?_, ?_⟩ <;> first | (with_reducible assumption) | (simp [go_sem]; done) | (simp [*, World.cell?_alloc_some]; done) | (repeat (first | with_reducible assumption | with_reducible exact Kp.rfl _ | with_reducible refine Kp.new ?_ _ | with_reducible refine Kp.draw ?_)))
  clear hK K
  try simp only [Act.put, List.setIfInBounds_toArray, List.set_cons_zero, List.set_cons_succ]
  refine' wpAnyH_take (i := 11) (oi := _) (v := _) rfl (by kernel_rfl) (by kernel_rfl) (by kernel_rfl) (fun _ _ _ h => h) (Or.inl ⟨by rfl, ?hy11⟩) (by assumption) ?rest11
  case hy11 => (intro w hSw; (try dsimp only at hSw); go_simp; try with_reducible rfl)
  try simp only [Act.put, List.setIfInBounds_toArray, List.set_cons_zero, List.set_cons_succ]
  refine wpAnyH_ready (rs := [13]) (by kernel_rfl) (by simp) ?_
  refine AllReadyH.cons rfl (fun K hK => ?_) AllReadyH.nil
  go_simp
  ((first | (go_at_call 10; refine (reven_th _ _ _ hs _).mono ?_; rintro e w2 ⟨rfl, rfl⟩; rw [HE.out]) | (go_at_call 6; refine (rzero_any _ _ _ _).mono ?_; rintro e w2 ⟨rfl, rfl⟩; rw [HZ.out]) | (go_at_call 8; refine (rsign_any _ _ _ hs _).mono ?_; rintro e w2 ⟨rfl, rfl⟩; rw [HN.out])))
  refine hK.out _ _ ?_ (fun hHeld => ?_)
  · (try dsimp only); (refine ⟨?_, ?_, ?_, ?_⟩ <;> first | (with_reducible assumption) | (simp [go_sem]; done) | (simp [*, World.cell?_alloc_some]; done) | (repeat (first | with_reducible assumption | with_reducible exact Kp.rfl _ | with_reducible refine Kp.new ?_ _ | with_reducible refine Kp.draw ?_)))
  clear hK K
  try simp only [Act.put, List.setIfInBounds_toArray, List.set_cons_zero, List.set_cons_succ]
  refine wpAnyH_ready (rs := [15]) (by kernel_rfl) (by simp) ?_
  refine AllReadyH.cons rfl (fun K hK => ?_) AllReadyH.nil
  go_simp
  ((first | (go_at_call 10; refine (reven_th _ _ _ hs _).mono ?_; rintro e w2 ⟨rfl, rfl⟩; rw [HE.out]) | (go_at_call 6; refine (rzero_any _ _ _ _).mono ?_; rintro e w2 ⟨rfl, rfl⟩; rw [HZ.out]) | (go_at_call 8; refine (rsign_any _ _ _ hs _).mono ?_; rintro e w2 ⟨rfl, rfl⟩; rw [HN.out])))
  refine hK.out _ _ ?_ (fun hHeld => ?_)
  · (try dsimp only); (refine ⟨?_, ?_, ?_, ?_⟩ <;> first | (with_reducible assumption) | (simp [go_sem]; done) | (simp [*, World.cell?_alloc_some]; done) | (repeat (first | with_reducible assumption | with_reducible exact Kp.rfl _ | with_reducible refine Kp.new ?_ _ | with_reducible refine Kp.draw ?_)))
  clear hK K
  try simp only [Act.put, List.setIfInBounds_toArray, List.set_cons_zero, List.set_cons_succ]
  refine wpAnyH_ready (rs := [17]) (by kernel_rfl) (by simp) ?_
  refine AllReadyH.cons rfl (fun K hK => ?_) AllReadyH.nil
  go_simp
  ((first | (go_at_call 10; refine (reven_th _ _ _ hs _).mono ?_; rintro e w2 ⟨rfl, rfl⟩; rw [HE.out]) | (go_at_call 6; refine (rzero_any _ _ _ _).mono ?_; rintro e w2 ⟨rfl, rfl⟩; rw [HZ.out]) | (go_at_call 8; refine (rsign_any _ _ _ hs _).mono ?_; rintro e w2 ⟨rfl, rfl⟩; rw [HN.out])))
  refine hK.out _ _ ?_ (fun hHeld => ?_)
  · (try dsimp only); (refine ⟨?_, ?_, ?_, ?_⟩ <;> first | (with_reducible assumption) | (simp [go_sem]; done) | (simp [*, World.cell?_alloc_some]; done) | (repeat (first | with_reducible assumption | with_reducible exact Kp.rfl _ | with_reducible refine Kp.new ?_ _ | with_reducible refine Kp.draw ?_)))
  clear hK K
  try simp only [Act.put, List.setIfInBounds_toArray, List.set_cons_zero, List.set_cons_succ]
  refine' wpAnyH_take (i := 20) (oi := _) (v := _) rfl (by kernel_rfl) (by kernel_rfl) (by kernel_rfl) (fun _ _ _ h => h) (Or.inl ⟨by rfl, ?hy20⟩) (by assumption) ?rest20
  case hy20 => (intro w hSw; (try dsimp only at hSw); go_simp; try with_reducible rfl)
  try simp only [Act.put, List.setIfInBounds_toArray, List.set_cons_zero, List.set_cons_succ]
  refine wpAnyH_ready (rs := [22]) (by kernel_rfl) (by simp) ?_
  refine AllReadyH.cons rfl (fun K hK => ?_) AllReadyH.nil
  go_simp
  ((first | (go_at_call 10; refine (reven_th _ _ _ hs _).mono ?_; rintro e w2 ⟨rfl, rfl⟩; rw [HE.out]) | (go_at_call 6; refine (rzero_any _ _ _ _).mono ?_; rintro e w2 ⟨rfl, rfl⟩; rw [HZ.out]) | (go_at_call 8; refine (rsign_any _ _ _ hs _).mono ?_; rintro e w2 ⟨rfl, rfl⟩; rw [HN.out])))
  refine hK.out _ _ ?_ (fun hHeld => ?_)
  · (try dsimp only); (refine ⟨?_, ?_, ?_, ?_⟩ <;> first | (with_reducible assumption) | (simp [go_sem]; done) | (simp [*, World.cell?_alloc_some]; done) | (repeat (first | with_reducible assumption | with_reducible exact Kp.rfl _ | with_reducible refine Kp.new ?_ _ | with_reducible refine Kp.draw ?_)))
  clear hK K
  try simp only [Act.put, List.setIfInBounds_toArray, List.set_cons_zero, List.set_cons_succ]
  refine' wpAnyH_take (i := 23) (oi := _) (v := _) rfl (by kernel_rfl) (by kernel_rfl) (by kernel_rfl) (fun _ _ _ h => h) (Or.inl ⟨by rfl, ?hy23⟩) (by assumption) ?rest23
  case hy23 => (intro w hSw; (try dsimp only at hSw); go_simp; try with_reducible rfl)
  try simp only [Act.put, List.setIfInBounds_toArray, List.set_cons_zero, List.set_cons_succ]
  refine' wpAnyH_take (i := 24) (oi := _) (v := undef) rfl (by kernel_rfl) (by kernel_rfl) (by kernel_rfl) (fun _ _ _ h => h) (Or.inr ⟨by rfl, rfl⟩) (by assumption) ?rest24
  try simp only [Act.put, List.setIfInBounds_toArray, List.set_cons_zero, List.set_cons_succ]
  refine' wpAnyH_take (i := 26) (oi := _) (v := undef) rfl (by kernel_rfl) (by kernel_rfl) (by kernel_rfl) (fun _ _ _ h => h) (Or.inr ⟨by rfl, rfl⟩) (by assumption) ?rest26
  try simp only [Act.put, List.setIfInBounds_toArray, List.set_cons_zero, List.set_cons_succ]
  refine' wpAnyH_take (i := 27) (oi := _) (v := undef) rfl (by kernel_rfl) (by kernel_rfl) (by kernel_rfl) (fun _ _ _ h => h) (Or.inr ⟨by rfl, rfl⟩) (by assumption) ?rest27
  try simp only [Act.put, List.setIfInBounds_toArray, List.set_cons_zero, List.set_cons_succ]
  refine wpAnyH_ready (rs := [25]) (by kernel_rfl) (by simp) ?_
  refine AllReadyH.cons rfl (fun K hK => ?_) AllReadyH.nil
  go_simp
  refine hK.out _ _ ?_ (fun hHeld => ?_)
  · (try dsimp only); (refine ⟨?_, ?_, ?_, ?_⟩ <;> first | (with_reducible assumption) | (simp [go_sem]; done) | (simp [*, World.cell?_alloc_some]; done) | (repeat (first | with_reducible assumption | with_reducible exact Kp.rfl _ | with_reducible refine Kp.new ?_ _ | with_reducible refine Kp.draw ?_)))
  clear hK K
  try simp only [Act.put, List.setIfInBounds_toArray, List.set_cons_zero, List.set_cons_succ]
  refine' wpAnyH_take (i := 28) (oi := _) (v := undef) rfl (by kernel_rfl) (by kernel_rfl) (by kernel_rfl) (fun _ _ _ h => h) (Or.inr ⟨by rfl, rfl⟩) (by assumption) ?rest28
  try simp only [Act.put, List.setIfInBounds_toArray, List.set_cons_zero, List.set_cons_succ]
  refine' wpAnyH_take (i := 29) (oi := _) (v := _) rfl (by kernel_rfl) (by kernel_rfl) (by kernel_rfl) (fun _ _ _ h => h) (Or.inl ⟨by rfl, ?hy29⟩) (by assumption) ?rest29
  case hy29 => (intro w hSw; (try dsimp only at hSw); go_simp; try with_reducible rfl)
  try simp only [Act.put, List.setIfInBounds_toArray, List.set_cons_zero, List.set_cons_succ]
  refine wpAnyH_ready (rs := [30]) (by kernel_rfl) (by simp) ?_
  refine AllReadyH.cons rfl (fun K hK => ?_) AllReadyH.nil
  go_simp
  refine hK.out _ _ ?_ (fun hHeld => ?_)
  · (try dsimp only); (refine ⟨?_, ?_, ?_, ?_⟩ <;> first | (with_reducible assumption) | (simp [go_sem]; done) | (simp [*, World.cell?_alloc_some]; done) | (repeat (first | with_reducible assumption | with_reducible exact Kp.rfl _ | with_reducible refine Kp.new ?_ _ | with_reducible refine Kp.draw ?_)))
  clear hK K
  try simp only [Act.put, List.setIfInBounds_toArray, List.set_cons_zero, List.set_cons_succ]
  refine' wpAnyH_take (i := 31) (oi := _) (v := _) rfl (by kernel_rfl) (by kernel_rfl) (by kernel_rfl) (fun _ _ _ h => h) (Or.inl ⟨by rfl, ?hy31⟩) (by assumption) ?rest31
  case hy31 => (intro w hSw; (try dsimp only at hSw); go_simp; try with_reducible rfl)
  try simp only [Act.put, List.setIfInBounds_toArray, List.set_cons_zero, List.set_cons_succ]
  refine wpAnyH_done (by kernel_rfl) ?_ _
  refine NoPanic.normal ?_
  all_goals
    rcases (by omega : cc = 0 ∨ cc = 1 ∨ cc = 2 ∨ cc = 3 ∨ cc = 4 ∨ cc = 5 ∨ cc = 6 ∨ cc = 7 ∨ cc = 8 ∨ cc = 9 ∨ cc = 10 ∨ cc = 11 ∨ cc = 12 ∨ cc = 13 ∨ cc = 14 ∨ cc = 15) with rfl | rfl | rfl | rfl | rfl | rfl | rfl | rfl | rfl | rfl | rfl | rfl | rfl | rfl | rfl | rfl
    all_goals
      go_wp2_with fail
      go_ret
      refine ⟨?_, by repeat (first | with_reducible exact Kp.rfl _ | with_reducible refine Kp.new ?_ _ | with_reducible refine Kp.draw ?_)⟩
      cases o <;> cases n <;> cases ev <;> rfl
set_option maxHeartbeats 8000000 in
theorem rcond_true_false (o : Bool) (s cc : Int) (hs : U64 s) (hz : (s == 0) = false) (h0 : 0 ≤ cc) (h1 : cc ≤ 15) (W : World) : Calls Tryd.prog 14 #[.agg #[.bool true, .bool o, .int .u64 s], .int .i64 cc] W fun e W' => e = .returned (.bool (condB cc true o false (neg s 8) (even s))) ∧ Kp W W' := by
  obtain ⟨n, hn⟩ : ∃ n, n = neg s 8 := ⟨_, rfl⟩
  obtain ⟨ev, he⟩ : ∃ ev, ev = even s := ⟨_, rfl⟩
  rw [← hn, ← he]
  have HN := Lib.hid hn.symm
  have HZ := Lib.hid hz
  have HE := Lib.hid he.symm
  clear hn hz he
  go_enter Tryd.func14, Tryd.ntmps14
  go_wp2_with fail
  refine wp_region_noPanic ?_
  refine wp_region_held_drew (S := (fun w' => w'.cell? ⟨W.heap.size, 0, none⟩ = some (.bool true) ∧ w'.cell? ⟨W.heap.size, 1, none⟩ = some (.bool o) ∧ w'.cell? ⟨W.heap.size, 2, none⟩ = some (.int .u64 s) ∧ Kp W w')) (by kernel_rfl) ?_ (fun hHeld => ?_)
  · (try dsimp only); (refine ⟨?_, ?_, ?_, ?_⟩ <;> first | (with_reducible assumption) | (simp [go_sem]; done) | (simp [*, World.cell?_alloc_some]; done) | (repeat (first | with_reducible assumption | with_reducible exact Kp.rfl _ | with_reducible refine Kp.new ?_ _ | with_reducible refine Kp.draw ?_)))
  refine' wpAnyH_take (i := 0) (oi := _) (v := _) rfl (by kernel_rfl) (by kernel_rfl) (by kernel_rfl) (fun _ _ _ h => h) (Or.inl ⟨by rfl, ?hy0⟩) (by assumption) ?rest0
  case hy0 => (intro w hSw; (try dsimp only at hSw); go_simp; try with_reducible rfl)
  try simp only [Act.put, List.setIfInBounds_toArray, List.set_cons_zero, List.set_cons_succ]
  refine' wpAnyH_take (i := 1) (oi := _) (v := _) rfl (by kernel_rfl) (by kernel_rfl) (by kernel_rfl) (fun _ _ _ h => h) (Or.inl ⟨by rfl, ?hy1⟩) (by assumption) ?rest1
  case hy1 => (intro w hSw; (try dsimp only at hSw); go_simp; try with_reducible rfl)
  try simp only [Act.put, List.setIfInBounds_toArray, List.set_cons_zero, List.set_cons_succ]
  refine' wpAnyH_take (i := 2) (oi := _) (v := _) rfl (by kernel_rfl) (by kernel_rfl) (by kernel_rfl) (fun _ _ _ h => h) (Or.inl ⟨by rfl, ?hy2⟩) (by assumption) ?rest2
  case hy2 => (intro w hSw; (try dsimp only at hSw); go_simp; try with_reducible rfl)
  try simp only [Act.put, List.setIfInBounds_toArray, List.set_cons_zero, List.set_cons_succ]
  refine' wpAnyH_take (i := 3) (oi := _) (v := _) rfl (by kernel_rfl) (by kernel_rfl) (by kernel_rfl) (fun _ _ _ h => h) (Or.inl ⟨by rfl, ?hy3⟩) (by assumption) ?rest3
  case hy3 => (intro w hSw; (try dsimp only at hSw); go_simp; try with_reducible rfl)
  try simp only [Act.put, List.setIfInBounds_toArray, List.set_cons_zero, List.set_cons_succ]
  refine' wpAnyH_take (i := 4) (oi := _) (v := _) rfl (by kernel_rfl) (by kernel_rfl) (by kernel_rfl) (fun _ _ _ h => h) (Or.inl ⟨by rfl, ?hy4⟩) (by assumption) ?rest4
  case hy4 => (intro w hSw; (try dsimp only at hSw); go_simp; try with_reducible rfl)
  try simp only [Act.put, List.setIfInBounds_toArray, List.set_cons_zero, List.set_cons_succ]
  refine' wpAnyH_take (i := 6) (oi := _) (v := _) rfl (by kernel_rfl) (by kernel_rfl) (by kernel_rfl) (fun _ _ _ h => h) (Or.inl ⟨by rfl, ?hy6⟩) (by assumption) ?rest6
  case hy6 => (intro w hSw; (try dsimp only at hSw); go_simp; try with_reducible rfl)
  try simp only [Act.put, List.setIfInBounds_toArray, List.set_cons_zero, List.set_cons_succ]
  refine' wpAnyH_take (i := 7) (oi := _) (v := _) rfl (by kernel_rfl) (by kernel_rfl) (by kernel_rfl) (fun _ _ _ h => h) (Or.inl ⟨by rfl, ?hy7⟩) (by assumption) ?rest7
  case hy7 => (intro w hSw; (try dsimp only at hSw); go_simp; try with_reducible rfl)
  try simp only [Act.put, List.setIfInBounds_toArray, List.set_cons_zero, List.set_cons_succ]
  refine' wpAnyH_take (i := 12) (oi := _) (v := _) rfl (by kernel_rfl) (by kernel_rfl) (by kernel_rfl) (fun _ _ _ h => h) (Or.inl ⟨by rfl, ?hy12⟩) (by assumption) ?rest12
  case hy12 => (intro w hSw; (try dsimp only at hSw); go_simp; try with_reducible rfl)
  try simp only [Act.put, List.setIfInBounds_toArray, List.set_cons_zero, List.set_cons_succ]
  refine' wpAnyH_take (i := 14) (oi := _) (v := _) rfl (by kernel_rfl) (by kernel_rfl) (by kernel_rfl) (fun _ _ _ h => h) (Or.inl ⟨by rfl, ?hy14⟩) (by assumption) ?rest14
  case hy14 => (intro w hSw; (try dsimp only at hSw); go_simp; try with_reducible rfl)
  try simp only [Act.put, List.setIfInBounds_toArray, List.set_cons_zero, List.set_cons_succ]
  refine' wpAnyH_take (i := 16) (oi := _) (v := _) rfl (by kernel_rfl) (by kernel_rfl) (by kernel_rfl) (fun _ _ _ h => h) (Or.inl ⟨by rfl, ?hy16⟩) (by assumption) ?rest16
  case hy16 => (intro w hSw; (try dsimp only at hSw); go_simp; try with_reducible rfl)
  try simp only [Act.put, List.setIfInBounds_toArray, List.set_cons_zero, List.set_cons_succ]
  refine' wpAnyH_take (i := 18) (oi := _) (v := _) rfl (by kernel_rfl) (by kernel_rfl) (by kernel_rfl) (fun _ _ _ h => h) (Or.inl ⟨by rfl, ?hy18⟩) (by assumption) ?rest18
  case hy18 => (intro w hSw; (try dsimp only at hSw); go_simp; try with_reducible rfl)
  try simp only [Act.put, List.setIfInBounds_toArray, List.set_cons_zero, List.set_cons_succ]
  refine' wpAnyH_take (i := 19) (oi := _) (v := _) rfl (by kernel_rfl) (by kernel_rfl) (by kernel_rfl) (fun _ _ _ h => h) (Or.inl ⟨by rfl, ?hy19⟩) (by assumption) ?rest19
  case hy19 => (intro w hSw; (try dsimp only at hSw); go_simp; try with_reducible rfl)
  try simp only [Act.put, List.setIfInBounds_toArray, List.set_cons_zero, List.set_cons_succ]
  refine' wpAnyH_take (i := 21) (oi := _) (v := _) rfl (by kernel_rfl) (by kernel_rfl) (by kernel_rfl) (fun _ _ _ h => h) (Or.inl ⟨by rfl, ?hy21⟩) (by assumption) ?rest21
  case hy21 => (intro w hSw; (try dsimp only at hSw); go_simp; try with_reducible rfl)
  try simp only [Act.put, List.setIfInBounds_toArray, List.set_cons_zero, List.set_cons_succ]
  refine wpAnyH_ready (rs := [5]) (by kernel_rfl) (by simp) ?_
  refine AllReadyH.cons rfl (fun K hK => ?_) AllReadyH.nil
  go_simp
  ((first | (go_at_call 10; refine (reven_th _ _ _ hs _).mono ?_; rintro e w2 ⟨rfl, rfl⟩; rw [HE.out]) | (go_at_call 6; refine (rzero_any _ _ _ _).mono ?_; rintro e w2 ⟨rfl, rfl⟩; rw [HZ.out]) | (go_at_call 8; refine (rsign_any _ _ _ hs _).mono ?_; rintro e w2 ⟨rfl, rfl⟩; rw [HN.out])))
  refine hK.out _ _ ?_ (fun hHeld => ?_)
  · (try dsimp only); (refine ⟨?_, ?_, ?_, ?_⟩ <;> first | (with_reducible assumption) | (simp [go_sem]; done) | (simp [*, World.cell?_alloc_some]; done) | (repeat (first | with_reducible assumption | with_reducible exact Kp.rfl _ | with_reducible refine Kp.new ?_ _ | with_reducible refine Kp.draw ?_)))
  clear hK K
  try simp only [Act.put, List.setIfInBounds_toArray, List.set_cons_zero, List.set_cons_succ]
  refine' wpAnyH_take (i := 8) (oi := _) (v := _) rfl (by kernel_rfl) (by kernel_rfl) (by kernel_rfl) (fun _ _ _ h => h) (Or.inl ⟨by rfl, ?hy8⟩) (by assumption) ?rest8
  case hy8 => (intro w hSw; (try dsimp only at hSw); go_simp; try with_reducible rfl)
  try simp only [Act.put, List.setIfInBounds_toArray, List.set_cons_zero, List.set_cons_succ]
  refine' wpAnyH_take (i := 9) (oi := _) (v := undef) rfl (by kernel_rfl) (by kernel_rfl) (by kernel_rfl) (fun _ _ _ h => h) (Or.inr ⟨by rfl, rfl⟩) (by assumption) ?rest9
  try simp only [Act.put, List.setIfInBounds_toArray, List.set_cons_zero, List.set_cons_succ]
  refine wpAnyH_ready (rs := [10]) (by kernel_rfl) (by simp) ?_
  refine AllReadyH.cons rfl (fun K hK => ?_) AllReadyH.nil
  go_simp
  refine hK.out _ _ ?_ (fun hHeld => ?_)
  · (try dsimp only); (refine ⟨?_, ?_, ?_, ?_⟩ <;> first | (with_reducible assumption) | (simp [go_sem]; done) | (simp [*, World.cell?_alloc_some]; done) | (repeat (first | with_reducible assumption | with_reducible exact Kp.rfl _ | with_reducible refine Kp.new ?_ _ | with_reducible refine Kp.draw ?_)))
  clear hK K
  try simp only [Act.put, List.setIfInBounds_toArray, List.set_cons_zero, List.set_cons_succ]
  refine' wpAnyH_take (i := 11) (oi := _) (v := _) rfl (by kernel_rfl) (by kernel_rfl) (by kernel_rfl) (fun _ _ _ h => h) (Or.inl ⟨by rfl, ?hy11⟩) (by assumption) ?rest11
  case hy11 => (intro w hSw; (try dsimp only at hSw); go_simp; try with_reducible rfl)
  try simp only [Act.put, List.setIfInBounds_toArray, List.set_cons_zero, List.set_cons_succ]
  refine wpAnyH_ready (rs := [13]) (by kernel_rfl) (by simp) ?_
  refine AllReadyH.cons rfl (fun K hK => ?_) AllReadyH.nil
  go_simp
  ((first | (go_at_call 10; refine (reven_th _ _ _ hs _).mono ?_; rintro e w2 ⟨rfl, rfl⟩; rw [HE.out]) | (go_at_call 6; refine (rzero_any _ _ _ _).mono ?_; rintro e w2 ⟨rfl, rfl⟩; rw [HZ.out]) | (go_at_call 8; refine (rsign_any _ _ _ hs _).mono ?_; rintro e w2 ⟨rfl, rfl⟩; rw [HN.out])))
  refine hK.out _ _ ?_ (fun hHeld => ?_)
  · (try dsimp only); (refine ⟨?_, ?_, ?_, ?_⟩ <;> first | (with_reducible assumption) | (simp [go_sem]; done) | (simp [*, World.cell?_alloc_some]; done) | (repeat (first | with_reducible assumption | with_reducible exact Kp.rfl _ | with_reducible refine Kp.new ?_ _ | with_reducible refine Kp.draw ?_)))
  clear hK K
  try simp only [Act.put, List.setIfInBounds_toArray, List.set_cons_zero, List.set_cons_succ]
  refine wpAnyH_ready (rs := [15]) (by kernel_rfl) (by simp) ?_
  refine AllReadyH.cons rfl (fun K hK => ?_) AllReadyH.nil
  go_simp
  ((first | (go_at_call 10; refine (reven_th _ _ _ hs _).mono ?_; rintro e w2 ⟨rfl, rfl⟩; rw [HE.out]) | (go_at_call 6; refine (rzero_any _ _ _ _).mono ?_; rintro e w2 ⟨rfl, rfl⟩; rw [HZ.out]) | (go_at_call 8; refine (rsign_any _ _ _ hs _).mono ?_; rintro e w2 ⟨rfl, rfl⟩; rw [HN.out])))
  refine hK.out _ _ ?_ (fun hHeld => ?_)
  · (try dsimp only); (refine ⟨?_, ?_, ?_, ?_⟩ <;> first | (with_reducible assumption) | (simp [go_sem]; done) | (simp [*, World.cell?_alloc_some]; done) | (repeat (first | with_reducible assumption | with_reducible exact Kp.rfl _ | with_reducible refine Kp.new ?_ _ | with_reducible refine Kp.draw ?_)))
  clear hK K
  try simp only [Act.put, List.setIfInBounds_toArray, List.set_cons_zero, List.set_cons_succ]
  refine wpAnyH_ready (rs := [17]) (by kernel_rfl) (by simp) ?_
  refine AllReadyH.cons rfl (fun K hK => ?_) AllReadyH.nil
  go_simp
  ((first | (go_at_call 10; refine (reven_th _ _ _ hs _).mono ?_; rintro e w2 ⟨rfl, rfl⟩; rw [HE.out]) | (go_at_call 6; refine (rzero_any _ _ _ _).mono ?_; rintro e w2 ⟨rfl, rfl⟩; rw [HZ.out]) | (go_at_call 8; refine (rsign_any _ _ _ hs _).mono ?_; rintro e w2 ⟨rfl, rfl⟩; rw [HN.out])))
  refine hK.out _ _ ?_ (fun hHeld => ?_)
  · (try dsimp only); (refine ⟨?_, ?_, ?_, ?_⟩ <;> first | (with_reducible assumption) | (simp [go_sem]; done) | (simp [*, World.cell?_alloc_some]; done) | (repeat (first | with_reducible assumption | with_reducible exact Kp.rfl _ | with_reducible refine Kp.new ?_ _ | with_reducible refine Kp.draw ?_)))
  clear hK K
  try simp only [Act.put, List.setIfInBounds_toArray, List.set_cons_zero, List.set_cons_succ]
  refine' wpAnyH_take (i := 20) (oi := _) (v := _) rfl (by kernel_rfl) (by kernel_rfl) (by kernel_rfl) (fun _ _ _ h => h) (Or.inl ⟨by rfl, ?hy20⟩) (by assumption) ?rest20
  case hy20 => (intro w hSw; (try dsimp only at hSw); go_simp; try with_reducible rfl)
  try simp only [Act.put, List.setIfInBounds_toArray, List.set_cons_zero, List.set_cons_succ]
  refine wpAnyH_ready (rs := [22]) (by kernel_rfl) (by simp) ?_
  refine AllReadyH.cons rfl (fun K hK => ?_) AllReadyH.nil
  go_simp
  ((first | (go_at_call 10; refine (reven_th _ _ _ hs _).mono ?_; rintro e w2 ⟨rfl, rfl⟩; rw [HE.out]) | (go_at_call 6; refine (rzero_any _ _ _ _).mono ?_; rintro e w2 ⟨rfl, rfl⟩; rw [HZ.out]) | (go_at_call 8; refine (rsign_any _ _ _ hs _).mono ?_; rintro e w2 ⟨rfl, rfl⟩; rw [HN.out])))
  refine hK.out _ _ ?_ (fun hHeld => ?_)
  · (try dsimp only); (refine ⟨?_, ?_, ?_, ?_⟩ <;> first | (with_reducible assumption) | (simp [go_sem]; done) | (simp [*, World.cell?_alloc_some]; done) | (repeat (first | with_reducible assumption | with_reducible exact Kp.rfl _ | with_reducible refine Kp.new ?_ _ | with_reducible refine Kp.draw ?_)))
  clear hK K
  try simp only [Act.put, List.setIfInBounds_toArray, List.set_cons_zero, List.set_cons_succ]
  refine' wpAnyH_take (i := 23) (oi := _) (v := _) rfl (by kernel_rfl) (by kernel_rfl) (by kernel_rfl) (fun _ _ _ h => h) (Or.inl ⟨by rfl, ?hy23⟩) (by assumption) ?rest23
  case hy23 => (intro w hSw; (try dsimp only at hSw); go_simp; try with_reducible rfl)
  try simp only [Act.put, List.setIfInBounds_toArray, List.set_cons_zero, List.set_cons_succ]
  refine' wpAnyH_take (i := 24) (oi := _) (v := _) rfl (by kernel_rfl) (by kernel_rfl) (by kernel_rfl) (fun _ _ _ h => h) (Or.inl ⟨by rfl, ?hy24⟩) (by assumption) ?rest24
  case hy24 => (intro w hSw; (try dsimp only at hSw); go_simp; try with_reducible rfl)
  try simp only [Act.put, List.setIfInBounds_toArray, List.set_cons_zero, List.set_cons_succ]
  refine' wpAnyH_take (i := 26) (oi := _) (v := _) rfl (by kernel_rfl) (by kernel_rfl) (by kernel_rfl) (fun _ _ _ h => h) (Or.inl ⟨by rfl, ?hy26⟩) (by assumption) ?rest26
  case hy26 => (intro w hSw; (try dsimp only at hSw); go_simp; try with_reducible rfl)
  try simp only [Act.put, List.setIfInBounds_toArray, List.set_cons_zero, List.set_cons_succ]
  refine' wpAnyH_take (i := 27) (oi := _) (v := _) rfl (by kernel_rfl) (by kernel_rfl) (by kernel_rfl) (fun _ _ _ h => h) (Or.inl ⟨by rfl, ?hy27⟩) (by assumption) ?rest27
  case hy27 => (intro w hSw; (try dsimp only at hSw); go_simp; try with_reducible rfl)
  try simp only [Act.put, List.setIfInBounds_toArray, List.set_cons_zero, List.set_cons_succ]
  refine wpAnyH_ready (rs := [25]) (by kernel_rfl) (by simp) ?_
  refine AllReadyH.cons rfl (fun K hK => ?_) AllReadyH.nil
  go_simp
  ((first | (go_at_call 10; refine (reven_th _ _ _ hs _).mono ?_; rintro e w2 ⟨rfl, rfl⟩; rw [HE.out]) | (go_at_call 6; refine (rzero_any _ _ _ _).mono ?_; rintro e w2 ⟨rfl, rfl⟩; rw [HZ.out]) | (go_at_call 8; refine (rsign_any _ _ _ hs _).mono ?_; rintro e w2 ⟨rfl, rfl⟩; rw [HN.out])))
  refine hK.out _ _ ?_ (fun hHeld => ?_)
  · (try dsimp only); (refine ⟨?_, ?_, ?_, ?_⟩ <;> first | (with_reducible assumption) | (simp [go_sem]; done) | (simp [*, World.cell?_alloc_some]; done) | (repeat (first | with_reducible assumption | with_reducible exact Kp.rfl _ | with_reducible refine Kp.new ?_ _ | with_reducible refine Kp.draw ?_)))
  clear hK K
  try simp only [Act.put, List.setIfInBounds_toArray, List.set_cons_zero, List.set_cons_succ]
  refine' wpAnyH_take (i := 28) (oi := _) (v := _) rfl (by kernel_rfl) (by kernel_rfl) (by kernel_rfl) (fun _ _ _ h => h) (Or.inl ⟨by rfl, ?hy28⟩) (by assumption) ?rest28
  case hy28 => (intro w hSw; (try dsimp only at hSw); go_simp; try with_reducible rfl)
  try simp only [Act.put, List.setIfInBounds_toArray, List.set_cons_zero, List.set_cons_succ]
  refine' wpAnyH_take (i := 29) (oi := _) (v := _) rfl (by kernel_rfl) (by kernel_rfl) (by kernel_rfl) (fun _ _ _ h => h) (Or.inl ⟨by rfl, ?hy29⟩) (by assumption) ?rest29
  case hy29 => (intro w hSw; (try dsimp only at hSw); go_simp; try with_reducible rfl)
  try simp only [Act.put, List.setIfInBounds_toArray, List.set_cons_zero, List.set_cons_succ]
  refine wpAnyH_ready (rs := [30]) (by kernel_rfl) (by simp) ?_
  refine AllReadyH.cons rfl (fun K hK => ?_) AllReadyH.nil
  go_simp
  refine hK.out _ _ ?_ (fun hHeld => ?_)
  · (try dsimp only); (refine ⟨?_, ?_, ?_, ?_⟩ <;> first | (with_reducible assumption) | (simp [go_sem]; done) | (simp [*, World.cell?_alloc_some]; done) | (repeat (first | with_reducible assumption | with_reducible exact Kp.rfl _ | with_reducible refine Kp.new ?_ _ | with_reducible refine Kp.draw ?_)))
  clear hK K
  try simp only [Act.put, List.setIfInBounds_toArray, List.set_cons_zero, List.set_cons_succ]
  refine' wpAnyH_take (i := 31) (oi := _) (v := _) rfl (by kernel_rfl) (by kernel_rfl) (by kernel_rfl) (fun _ _ _ h => h) (Or.inl ⟨by rfl, ?hy31⟩) (by assumption) ?rest31
  case hy31 => (intro w hSw; (try dsimp only at hSw); go_simp; try with_reducible rfl)
  try simp only [Act.put, List.setIfInBounds_toArray, List.set_cons_zero, List.set_cons_succ]
  refine wpAnyH_done (by kernel_rfl) ?_ _
  refine NoPanic.normal ?_
  all_goals
    rcases (by omega : cc = 0 ∨ cc = 1 ∨ cc = 2 ∨ cc = 3 ∨ cc = 4 ∨ cc = 5 ∨ cc = 6 ∨ cc = 7 ∨ cc = 8 ∨ cc = 9 ∨ cc = 10 ∨ cc = 11 ∨ cc = 12 ∨ cc = 13 ∨ cc = 14 ∨ cc = 15) with rfl | rfl | rfl | rfl | rfl | rfl | rfl | rfl | rfl | rfl | rfl | rfl | rfl | rfl | rfl | rfl
    all_goals
      go_wp2_with fail
      go_ret
      refine ⟨?_, by repeat (first | with_reducible exact Kp.rfl _ | with_reducible refine Kp.new ?_ _ | with_reducible refine Kp.draw ?_)⟩
      cases o <;> cases n <;> cases ev <;> rfl
set_option maxHeartbeats 8000000 in
theorem rcond_true_true (o : Bool) (s cc : Int) (hs : U64 s) (hz : (s == 0) = true) (h0 : 0 ≤ cc) (h1 : cc ≤ 15) (W : World) : Calls Tryd.prog 14 #[.agg #[.bool true, .bool o, .int .u64 s], .int .i64 cc] W fun e W' => e = .returned (.bool (condB cc true o true (neg s 8) (even s))) ∧ Kp W W' := by
  obtain ⟨n, hn⟩ : ∃ n, n = neg s 8 := ⟨_, rfl⟩
  obtain ⟨ev, he⟩ : ∃ ev, ev = even s := ⟨_, rfl⟩
  rw [← hn, ← he]
  have HN := Lib.hid hn.symm
  have HZ := Lib.hid hz
  have HE := Lib.hid he.symm
  clear hn hz he
  go_enter Tryd.func14, Tryd.ntmps14
  go_wp2_with fail
  refine wp_region_noPanic ?_
  refine wp_region_held_drew (S := (fun w' => w'.cell? ⟨W.heap.size, 0, none⟩ = some (.bool true) ∧ w'.cell? ⟨W.heap.size, 1, none⟩ = some (.bool o) ∧ w'.cell? ⟨W.heap.size, 2, none⟩ = some (.int .u64 s) ∧ Kp W w')) (by kernel_rfl) ?_ (fun hHeld => ?_)
  · (try dsimp only); (refine ⟨?_, ?_, ?_, ?_⟩ <;> first | (with_reducible assumption) | (simp [go_sem]; done) | (simp [*, World.cell?_alloc_some]; done) | (repeat (first | with_reducible assumption | with_reducible exact Kp.rfl _ | with_reducible refine Kp.new ?_ _ | with_reducible refine Kp.draw ?_)))
  refine' wpAnyH_take (i := 0) (oi := _) (v := _) rfl (by kernel_rfl) (by kernel_rfl) (by kernel_rfl) (fun _ _ _ h => h) (Or.inl ⟨by rfl, ?hy0⟩) (by assumption) ?rest0
  case hy0 => (intro w hSw; (try dsimp only at hSw); go_simp; try with_reducible rfl)
  try simp only [Act.put, List.setIfInBounds_toArray, List.set_cons_zero, List.set_cons_succ]
  refine' wpAnyH_take (i := 1) (oi := _) (v := _) rfl (by kernel_rfl) (by kernel_rfl) (by kernel_rfl) (fun _ _ _ h => h) (Or.inl ⟨by rfl, ?hy1⟩) (by assumption) ?rest1
  case hy1 => (intro w hSw; (try dsimp only at hSw); go_simp; try with_reducible rfl)
  try simp only [Act.put, List.setIfInBounds_toArray, List.set_cons_zero, List.set_cons_succ]
  refine' wpAnyH_take (i := 2) (oi := _) (v := _) rfl (by kernel_rfl) (by kernel_rfl) (by kernel_rfl) (fun _ _ _ h => h) (Or.inl ⟨by rfl, ?hy2⟩) (by assumption) ?rest2
  case hy2 => (intro w hSw; (try dsimp only at hSw); go_simp; try with_reducible rfl)
  try simp only [Act.put, List.setIfInBounds_toArray, List.set_cons_zero, List.set_cons_succ]
  refine' wpAnyH_take (i := 3) (oi := _) (v := _) rfl (by kernel_rfl) (by kernel_rfl) (by kernel_rfl) (fun _ _ _ h => h) (Or.inl ⟨by rfl, ?hy3⟩) (by assumption) ?rest3
  case hy3 => (intro w hSw; (try dsimp only at hSw); go_simp; try with_reducible rfl)
  try simp only [Act.put, List.setIfInBounds_toArray, List.set_cons_zero, List.set_cons_succ]
  refine' wpAnyH_take (i := 4) (oi := _) (v := _) rfl (by kernel_rfl) (by kernel_rfl) (by kernel_rfl) (fun _ _ _ h => h) (Or.inl ⟨by rfl, ?hy4⟩) (by assumption) ?rest4
  case hy4 => (intro w hSw; (try dsimp only at hSw); go_simp; try with_reducible rfl)
  try simp only [Act.put, List.setIfInBounds_toArray, List.set_cons_zero, List.set_cons_succ]
  refine' wpAnyH_take (i := 6) (oi := _) (v := _) rfl (by kernel_rfl) (by kernel_rfl) (by kernel_rfl) (fun _ _ _ h => h) (Or.inl ⟨by rfl, ?hy6⟩) (by assumption) ?rest6
  case hy6 => (intro w hSw; (try dsimp only at hSw); go_simp; try with_reducible rfl)
  try simp only [Act.put, List.setIfInBounds_toArray, List.set_cons_zero, List.set_cons_succ]
  refine' wpAnyH_take (i := 7) (oi := _) (v := _) rfl (by kernel_rfl) (by kernel_rfl) (by kernel_rfl) (fun _ _ _ h => h) (Or.inl ⟨by rfl, ?hy7⟩) (by assumption) ?rest7
  case hy7 => (intro w hSw; (try dsimp only at hSw); go_simp; try with_reducible rfl)
  try simp only [Act.put, List.setIfInBounds_toArray, List.set_cons_zero, List.set_cons_succ]
  refine' wpAnyH_take (i := 12) (oi := _) (v := _) rfl (by kernel_rfl) (by kernel_rfl) (by kernel_rfl) (fun _ _ _ h => h) (Or.inl ⟨by rfl, ?hy12⟩) (by assumption) ?rest12
  case hy12 => (intro w hSw; (try dsimp only at hSw); go_simp; try with_reducible rfl)
  try simp only [Act.put, List.setIfInBounds_toArray, List.set_cons_zero, List.set_cons_succ]
  refine' wpAnyH_take (i := 14) (oi := _) (v := _) rfl (by kernel_rfl) (by kernel_rfl) (by kernel_rfl) (fun _ _ _ h => h) (Or.inl ⟨by rfl, ?hy14⟩) (by assumption) ?rest14
  case hy14 => (intro w hSw; (try dsimp only at hSw); go_simp; try with_reducible rfl)
  try simp only [Act.put, List.setIfInBounds_toArray, List.set_cons_zero, List.set_cons_succ]
  refine' wpAnyH_take (i := 16) (oi := _) (v := _) rfl (by kernel_rfl) (by kernel_rfl) (by kernel_rfl) (fun _ _ _ h => h) (Or.inl ⟨by rfl, ?hy16⟩) (by assumption) ?rest16
  case hy16 => (intro w hSw; (try dsimp only at hSw); go_simp; try with_reducible rfl)
  try simp only [Act.put, List.setIfInBounds_toArray, List.set_cons_zero, List.set_cons_succ]
  refine' wpAnyH_take (i := 18) (oi := _) (v := _) rfl (by kernel_rfl) (by kernel_rfl) (by kernel_rfl) (fun _ _ _ h => h) (Or.inl ⟨by rfl, ?hy18⟩) (by assumption) ?rest18
  case hy18 => (intro w hSw; (try dsimp only at hSw); go_simp; try with_reducible rfl)
  try simp only [Act.put, List.setIfInBounds_toArray, List.set_cons_zero, List.set_cons_succ]
  refine' wpAnyH_take (i := 19) (oi := _) (v := _) rfl (by kernel_rfl) (by kernel_rfl) (by kernel_rfl) (fun _ _ _ h => h) (Or.inl ⟨by rfl, ?hy19⟩) (by assumption) ?rest19
  case hy19 => (intro w hSw; (try dsimp only at hSw); go_simp; try with_reducible rfl)
  try simp only [Act.put, List.setIfInBounds_toArray, List.set_cons_zero, List.set_cons_succ]
  refine' wpAnyH_take (i := 21) (oi := _) (v := _) rfl (by kernel_rfl) (by kernel_rfl) (by kernel_rfl) (fun _ _ _ h => h) (Or.inl ⟨by rfl, ?hy21⟩) (by assumption) ?rest21
  case hy21 => (intro w hSw; (try dsimp only at hSw); go_simp; try with_reducible rfl)
  try simp only [Act.put, List.setIfInBounds_toArray, List.set_cons_zero, List.set_cons_succ]
  refine wpAnyH_ready (rs := [5]) (by kernel_rfl) (by simp) ?_
  refine AllReadyH.cons rfl (fun K hK => ?_) AllReadyH.nil
  go_simp
  ((first | (go_at_call 10; refine (reven_th _ _ _ hs _).mono ?_; rintro e w2 ⟨rfl, rfl⟩; rw [HE.out]) | (go_at_call 6; refine (rzero_any _ _ _ _).mono ?_; rintro e w2 ⟨rfl, rfl⟩; rw [HZ.out]) | (go_at_call 8; refine (rsign_any _ _ _ hs _).mono ?_; rintro e w2 ⟨rfl, rfl⟩; rw [HN.out])))
  refine hK.out _ _ ?_ (fun hHeld => ?_)
  · (try dsimp only); (refine ⟨?_, ?_, ?_, ?_⟩ <;> first | (with_reducible assumption) | (simp [go_sem]; done) | (simp [*, World.cell?_alloc_some]; done) | (repeat (first | with_reducible assumption | with_reducible exact Kp.rfl _ | with_reducible refine Kp.new ?_ _ | with_reducible refine Kp.draw ?_)))
  clear hK K
  try simp only [Act.put, List.setIfInBounds_toArray, List.set_cons_zero, List.set_cons_succ]
  refine' wpAnyH_take (i := 8) (oi := _) (v := _) rfl (by kernel_rfl) (by kernel_rfl) (by kernel_rfl) (fun _ _ _ h => h) (Or.inl ⟨by rfl, ?hy8⟩) (by assumption) ?rest8
  case hy8 => (intro w hSw; (try dsimp only at hSw); go_simp; try with_reducible rfl)
  try simp only [Act.put, List.setIfInBounds_toArray, List.set_cons_zero, List.set_cons_succ]
  refine' wpAnyH_take (i := 9) (oi := _) (v := undef) rfl (by kernel_rfl) (by kernel_rfl) (by kernel_rfl) (fun _ _ _ h => h) (Or.inr ⟨by rfl, rfl⟩) (by assumption) ?rest9
  try simp only [Act.put, List.setIfInBounds_toArray, List.set_cons_zero, List.set_cons_succ]
  refine wpAnyH_ready (rs := [10]) (by kernel_rfl) (by simp) ?_
  refine AllReadyH.cons rfl (fun K hK => ?_) AllReadyH.nil
  go_simp
  refine hK.out _ _ ?_ (fun hHeld => ?_)
  · (try dsimp only); (refine ⟨?_, ?_, ?_, ?_⟩ <;> first | (with_reducible assumption) | (simp [go_sem]; done) | (simp [*, World.cell?_alloc_some]; done) | (repeat (first | with_reducible assumption | with_reducible exact Kp.rfl _ | with_reducible refine Kp.new ?_ _ | with_reducible refine Kp.draw ?_)))
  clear hK K
  try simp only [Act.put, List.setIfInBounds_toArray, List.set_cons_zero, List.set_cons_succ]
  refine' wpAnyH_take (i := 11) (oi := _) (v := _) rfl (by kernel_rfl) (by kernel_rfl) (by kernel_rfl) (fun _ _ _ h => h) (Or.inl ⟨by rfl, ?hy11⟩) (by assumption) ?rest11
  case hy11 => (intro w hSw; (try dsimp only at hSw); go_simp; try with_reducible rfl)
  try simp only [Act.put, List.setIfInBounds_toArray, List.set_cons_zero, List.set_cons_succ]
  refine wpAnyH_ready (rs := [13]) (by kernel_rfl) (by simp) ?_
  refine AllReadyH.cons rfl (fun K hK => ?_) AllReadyH.nil
  go_simp
  ((first | (go_at_call 10; refine (reven_th _ _ _ hs _).mono ?_; rintro e w2 ⟨rfl, rfl⟩; rw [HE.out]) | (go_at_call 6; refine (rzero_any _ _ _ _).mono ?_; rintro e w2 ⟨rfl, rfl⟩; rw [HZ.out]) | (go_at_call 8; refine (rsign_any _ _ _ hs _).mono ?_; rintro e w2 ⟨rfl, rfl⟩; rw [HN.out])))
  refine hK.out _ _ ?_ (fun hHeld => ?_)
  · (try dsimp only); (refine ⟨?_, ?_, ?_, ?_⟩ <;> first | (with_reducible assumption) | (simp [go_sem]; done) | (simp [*, World.cell?_alloc_some]; done) | (repeat (first | with_reducible assumption | with_reducible exact Kp.rfl _ | with_reducible refine Kp.new ?_ _ | with_reducible refine Kp.draw ?_)))
  clear hK K
  try simp only [Act.put, List.setIfInBounds_toArray, List.set_cons_zero, List.set_cons_succ]
  refine wpAnyH_ready (rs := [15]) (by kernel_rfl) (by simp) ?_
  refine AllReadyH.cons rfl (fun K hK => ?_) AllReadyH.nil
  go_simp
  ((first | (go_at_call 10; refine (reven_th _ _ _ hs _).mono ?_; rintro e w2 ⟨rfl, rfl⟩; rw [HE.out]) | (go_at_call 6; refine (rzero_any _ _ _ _).mono ?_; rintro e w2 ⟨rfl, rfl⟩; rw [HZ.out]) | (go_at_call 8; refine (rsign_any _ _ _ hs _).mono ?_; rintro e w2 ⟨rfl, rfl⟩; rw [HN.out])))
  refine hK.out _ _ ?_ (fun hHeld => ?_)
  · (try dsimp only); (refine ⟨?_, ?_, ?_, ?_⟩ <;> first | (with_reducible assumption) | (simp [go_sem]; done) | (simp [*, World.cell?_alloc_some]; done) | (repeat (first | with_reducible assumption | with_reducible exact Kp.rfl _ | with_reducible refine Kp.new ?_ _ | with_reducible refine Kp.draw ?_)))
  clear hK K
  try simp only [Act.put, List.setIfInBounds_toArray, List.set_cons_zero, List.set_cons_succ]
  refine wpAnyH_ready (rs := [17]) (by kernel_rfl) (by simp) ?_
  refine AllReadyH.cons rfl (fun K hK => ?_) AllReadyH.nil
  go_simp
  ((first | (go_at_call 10; refine (reven_th _ _ _ hs _).mono ?_; rintro e w2 ⟨rfl, rfl⟩; rw [HE.out]) | (go_at_call 6; refine (rzero_any _ _ _ _).mono ?_; rintro e w2 ⟨rfl, rfl⟩; rw [HZ.out]) | (go_at_call 8; refine (rsign_any _ _ _ hs _).mono ?_; rintro e w2 ⟨rfl, rfl⟩; rw [HN.out])))
  refine hK.out _ _ ?_ (fun hHeld => ?_)
  · (try dsimp only); (refine ⟨?_, ?_, ?_, ?_⟩ <;> first | (with_reducible assumption) | (simp [go_sem]; done) | (simp [*, World.cell?_alloc_some]; done) | (repeat (first | with_reducible assumption | with_reducible exact Kp.rfl _ | with_reducible refine Kp.new ?_ _ | with_reducible refine Kp.draw ?_)))
  clear hK K
  try simp only [Act.put, List.setIfInBounds_toArray, List.set_cons_zero, List.set_cons_succ]
  refine' wpAnyH_take (i := 20) (oi := _) (v := _) rfl (by kernel_rfl) (by kernel_rfl) (by kernel_rfl) (fun _ _ _ h => h) (Or.inl ⟨by rfl, ?hy20⟩) (by assumption) ?rest20
  case hy20 => (intro w hSw; (try dsimp only at hSw); go_simp; try with_reducible rfl)
  try simp only [Act.put, List.setIfInBounds_toArray, List.set_cons_zero, List.set_cons_succ]
  refine wpAnyH_ready (rs := [22]) (by kernel_rfl) (by simp) ?_
  refine AllReadyH.cons rfl (fun K hK => ?_) AllReadyH.nil
  go_simp
  ((first | (go_at_call 10; refine (reven_th _ _ _ hs _).mono ?_; rintro e w2 ⟨rfl, rfl⟩; rw [HE.out]) | (go_at_call 6; refine (rzero_any _ _ _ _).mono ?_; rintro e w2 ⟨rfl, rfl⟩; rw [HZ.out]) | (go_at_call 8; refine (rsign_any _ _ _ hs _).mono ?_; rintro e w2 ⟨rfl, rfl⟩; rw [HN.out])))
  refine hK.out _ _ ?_ (fun hHeld => ?_)
  · (try dsimp only); (refine ⟨?_, ?_, ?_, ?_⟩ <;> first | (with_reducible assumption) | (simp [go_sem]; done) | (simp [*, World.cell?_alloc_some]; done) | (repeat (first | with_reducible assumption | with_reducible exact Kp.rfl _ | with_reducible refine Kp.new ?_ _ | with_reducible refine Kp.draw ?_)))
  clear hK K
  try simp only [Act.put, List.setIfInBounds_toArray, List.set_cons_zero, List.set_cons_succ]
  refine' wpAnyH_take (i := 23) (oi := _) (v := _) rfl (by kernel_rfl) (by kernel_rfl) (by kernel_rfl) (fun _ _ _ h => h) (Or.inl ⟨by rfl, ?hy23⟩) (by assumption) ?rest23
  case hy23 => (intro w hSw; (try dsimp only at hSw); go_simp; try with_reducible rfl)
  try simp only [Act.put, List.setIfInBounds_toArray, List.set_cons_zero, List.set_cons_succ]
  refine' wpAnyH_take (i := 24) (oi := _) (v := undef) rfl (by kernel_rfl) (by kernel_rfl) (by kernel_rfl) (fun _ _ _ h => h) (Or.inr ⟨by rfl, rfl⟩) (by assumption) ?rest24
  try simp only [Act.put, List.setIfInBounds_toArray, List.set_cons_zero, List.set_cons_succ]
  refine' wpAnyH_take (i := 26) (oi := _) (v := undef) rfl (by kernel_rfl) (by kernel_rfl) (by kernel_rfl) (fun _ _ _ h => h) (Or.inr ⟨by rfl, rfl⟩) (by assumption) ?rest26
  try simp only [Act.put, List.setIfInBounds_toArray, List.set_cons_zero, List.set_cons_succ]
  refine' wpAnyH_take (i := 27) (oi := _) (v := undef) rfl (by kernel_rfl) (by kernel_rfl) (by kernel_rfl) (fun _ _ _ h => h) (Or.inr ⟨by rfl, rfl⟩) (by assumption) ?rest27
  try simp only [Act.put, List.setIfInBounds_toArray, List.set_cons_zero, List.set_cons_succ]
  refine wpAnyH_ready (rs := [25]) (by kernel_rfl) (by simp) ?_
  refine AllReadyH.cons rfl (fun K hK => ?_) AllReadyH.nil
  go_simp
  refine hK.out _ _ ?_ (fun hHeld => ?_)
  · (try dsimp only); (refine ⟨?_, ?_, ?_, ?_⟩ <;> first | (with_reducible assumption) | (simp [go_sem]; done) | (simp [*, World.cell?_alloc_some]; done) | (repeat (first | with_reducible assumption | with_reducible exact Kp.rfl _ | with_reducible refine Kp.new ?_ _ | with_reducible refine Kp.draw ?_)))
  clear hK K
  try simp only [Act.put, List.setIfInBounds_toArray, List.set_cons_zero, List.set_cons_succ]
  refine' wpAnyH_take (i := 28) (oi := _) (v := undef) rfl (by kernel_rfl) (by kernel_rfl) (by kernel_rfl) (fun _ _ _ h => h) (Or.inr ⟨by rfl, rfl⟩) (by assumption) ?rest28
  try simp only [Act.put, List.setIfInBounds_toArray, List.set_cons_zero, List.set_cons_succ]
  refine' wpAnyH_take (i := 29) (oi := _) (v := _) rfl (by kernel_rfl) (by kernel_rfl) (by kernel_rfl) (fun _ _ _ h => h) (Or.inl ⟨by rfl, ?hy29⟩) (by assumption) ?rest29
  case hy29 => (intro w hSw; (try dsimp only at hSw); go_simp; try with_reducible rfl)
  try simp only [Act.put, List.setIfInBounds_toArray, List.set_cons_zero, List.set_cons_succ]
  refine wpAnyH_ready (rs := [30]) (by kernel_rfl) (by simp) ?_
  refine AllReadyH.cons rfl (fun K hK => ?_) AllReadyH.nil
  go_simp
  refine hK.out _ _ ?_ (fun hHeld => ?_)
  · (try dsimp only); (refine ⟨?_, ?_, ?_, ?_⟩ <;> first | (with_reducible assumption) | (simp [go_sem]; done) | (simp [*, World.cell?_alloc_some]; done) | (repeat (first | with_reducible assumption | with_reducible exact Kp.rfl _ | with_reducible refine Kp.new ?_ _ | with_reducible refine Kp.draw ?_)))
  clear hK K
  try simp only [Act.put, List.setIfInBounds_toArray, List.set_cons_zero, List.set_cons_succ]
  refine' wpAnyH_take (i := 31) (oi := _) (v := _) rfl (by kernel_rfl) (by kernel_rfl) (by kernel_rfl) (fun _ _ _ h => h) (Or.inl ⟨by rfl, ?hy31⟩) (by assumption) ?rest31
  case hy31 => (intro w hSw; (try dsimp only at hSw); go_simp; try with_reducible rfl)
  try simp only [Act.put, List.setIfInBounds_toArray, List.set_cons_zero, List.set_cons_succ]
  refine wpAnyH_done (by kernel_rfl) ?_ _
  refine NoPanic.normal ?_
  all_goals
    rcases (by omega : cc = 0 ∨ cc = 1 ∨ cc = 2 ∨ cc = 3 ∨ cc = 4 ∨ cc = 5 ∨ cc = 6 ∨ cc = 7 ∨ cc = 8 ∨ cc = 9 ∨ cc = 10 ∨ cc = 11 ∨ cc = 12 ∨ cc = 13 ∨ cc = 14 ∨ cc = 15) with rfl | rfl | rfl | rfl | rfl | rfl | rfl | rfl | rfl | rfl | rfl | rfl | rfl | rfl | rfl | rfl
    all_goals
      go_wp2_with fail
      go_ret
      refine ⟨?_, by repeat (first | with_reducible exact Kp.rfl _ | with_reducible refine Kp.new ?_ _ | with_reducible refine Kp.draw ?_)⟩
      cases o <;> cases n <;> cases ev <;> rfl
theorem rcond_any (c o : Bool) (s cc : Int) (hs : U64 s) (W : World) : Calls Tryd.prog 14 #[.agg #[.bool c, .bool o, .int .u64 s], .int .i64 cc] W fun e W' => e = .returned (.bool (condB cc c o (s == 0) (neg s 8) (even s))) ∧ Kp W W' := by
  by_cases h : cc < 0 ∨ 15 < cc
  · have e : condB cc c o (s == 0) (neg s 8) (even s) = false := by unfold condB; rw [if_pos h]
    rw [e]; exact rcond_out c o s cc h W
  · cases hz : (s == 0) <;> cases c
    · exact rcond_false_false o s cc hs hz (by omega) (by omega) W
    · exact rcond_true_false o s cc hs hz (by omega) (by omega) W
    · exact rcond_false_true o s cc hs hz (by omega) (by omega) W
    · exact rcond_true_true o s cc hs hz (by omega) (by omega) W
end Go.Proofs.YtlbkmdmnijmieaaDoor
