/- Walks of layer 8: Turn of the code. -/
import Derived.Test.YtlbkmdmnijmieaaDoorFr
namespace Go.Proofs.YtlbkmdmnijmieaaDoor
open Go Go.RowKit
open Cq (U64 I64 isW nb zx sx neg bit oneI turn sg sarV)

/-- what is known of a result's cells behind calls -/
theorem res_facts {W w' : World} {b : Obj} {t : Nat} (h : Kp ((W.alloc b).alloc (.cells #[.bool false, .bool false, .int .u64 0] t)) w') :
    (w'.cell? ⟨W.heap.size + 1, 0, none⟩ = some (.bool false) ∧ w'.cell? ⟨W.heap.size + 1, 1, none⟩ = some (.bool false) ∧ w'.cell? ⟨W.heap.size + 1, 2, none⟩ = some (.int .u64 0))
    ∧ (w'.frozen? ⟨W.heap.size + 1, 0, none⟩ = false ∧ w'.frozen? ⟨W.heap.size + 1, 1, none⟩ = false ∧ w'.frozen? ⟨W.heap.size + 1, 2, none⟩ = false) ∧ W.heap.size + 1 < w'.heap.size := by
  refine ⟨⟨?_, ?_, ?_⟩, ⟨?_, ?_, ?_⟩, ?_⟩
  · exact (h.cell (p := ⟨W.heap.size + 1, 0, none⟩) (by simp)).trans (by simp [go_sem])
  · exact (h.cell (p := ⟨W.heap.size + 1, 1, none⟩) (by simp)).trans (by simp [go_sem])
  · exact (h.cell (p := ⟨W.heap.size + 1, 2, none⟩) (by simp)).trans (by simp [go_sem])
  · exact (h.frozen (p := ⟨W.heap.size + 1, 0, none⟩) (by simp)).trans (by simp [go_sem])
  · exact (h.frozen (p := ⟨W.heap.size + 1, 1, none⟩) (by simp)).trans (by simp [go_sem])
  · exact (h.frozen (p := ⟨W.heap.size + 1, 2, none⟩) (by simp)).trans (by simp [go_sem])
  · have := h.size; simp at this; omega
theorem rotate_rol' (a : Int) (j : Nat) (c o : Bool) (s w : Int) (ha : U64 a) (hj : j ≤ 62) (W : World) : Calls Tryd.prog 34 #[.int .i64 26, .int .u64 a, .int .i64 ((j : Int) + 1), th c o s, .int .i64 w] W
    fun e W' => e = .returned (Value.tuple #[.int .u64 (turn a ((j : Int) + 1) w), th (bit (turn a ((j : Int) + 1) w) 0 == 1) (neg (turn a ((j : Int) + 1) w) w != (bit (turn a ((j : Int) + 1) w) 0 == 1)) s]) ∧ Kp W W' := rotate_rol a (j + 1) c o s w ha (by omega) W
theorem rotate_ror' (a : Int) (j : Nat) (c o : Bool) (s w : Int) (ha : U64 a) (hj : j ≤ 62) (W : World) : Calls Tryd.prog 34 #[.int .i64 27, .int .u64 a, .int .i64 ((j : Int) + 1), th c o s, .int .i64 w] W
    fun e W' => e = .returned (Value.tuple #[.int .u64 (turn a (-((j : Int) + 1)) w), th (neg (turn a (-((j : Int) + 1)) w) w) (neg (IntKind.u64.wrap (turn a (-((j : Int) + 1)) w * 2)) w != neg (turn a (-((j : Int) + 1)) w) w) s]) ∧ Kp W W' := rotate_ror a (j + 1) c o s w ha (by omega) W
/-- what a turn by j + 1 places comes to -/
def trnS (op a : Int) (j : Nat) (s w : Int) : Value :=
  if op = 28 then T (shlV a w (j + 1)) (neg (shlV a w j) w) (neg (shlV a w (j + 1)) w != neg (shlV a w j) w) w
  else if op = 29 then T (zx a w / 2 ^ (j + 1)) (bit (zx a w / 2 ^ j) 0 == 1) (neg a w) w
  else if op = 30 then T (sarV a w (j + 1)) (bit (sarV a w j) 0 == 1) false w
  else if op = 26 then Value.tuple #[.int .u64 (turn a ((j : Int) + 1) w), th (bit (turn a ((j : Int) + 1) w) 0 == 1) (neg (turn a ((j : Int) + 1) w) w != (bit (turn a ((j : Int) + 1) w) 0 == 1)) s]
  else Value.tuple #[.int .u64 (turn a (-((j : Int) + 1)) w), th (neg (turn a (-((j : Int) + 1)) w) w) (neg (IntKind.u64.wrap (turn a (-((j : Int) + 1)) w * 2)) w != neg (turn a (-((j : Int) + 1)) w) w) s]
/-- what shifts and turns come to -/
def trn (op a n : Int) (c o : Bool) (s w : Int) : Value :=
  if isW w = true then
    if op = 28 ∨ op = 29 ∨ op = 30 ∨ op = 26 ∨ op = 27 then
      match kk n w with
      | 0 => .tuple #[.int .u64 (zx a w), th c o s]
      | j + 1 => trnS op a j s w
    else T0 c o s
  else T0 c o s
theorem trn_bad (op a n : Int) (c o : Bool) (s w : Int) (h : isW w = false) : trn op a n c o s w = T0 c o s := by
  unfold trn; rw [if_neg (by rw [h]; decide)]
theorem trn_other (op a n : Int) (c o : Bool) (s w : Int) (h : op ≠ 28 ∧ op ≠ 29 ∧ op ≠ 30 ∧ op ≠ 26 ∧ op ≠ 27) : trn op a n c o s w = T0 c o s := by
  unfold trn; split
  · rw [if_neg (by omega)]
  · rfl
theorem trn_zero (op a n : Int) (c o : Bool) (s w : Int) (h : isW w = true) (ho : op = 28 ∨ op = 29 ∨ op = 30 ∨ op = 26 ∨ op = 27) (hk : kk n w = 0) : trn op a n c o s w = .tuple #[.int .u64 (zx a w), th c o s] := by
  unfold trn; rw [if_pos h, if_pos ho, hk]
theorem trn_step (op a n : Int) (c o : Bool) (s w : Int) (h : isW w = true) (ho : op = 28 ∨ op = 29 ∨ op = 30 ∨ op = 26 ∨ op = 27) (j : Nat) (hk : kk n w = j + 1) : trn op a n c o s w = trnS op a j s w := by
  unfold trn; rw [if_pos h, if_pos ho, hk]
theorem trnS_28 (a : Int) (j : Nat) (s w : Int) : trnS 28 a j s w = T (shlV a w (j + 1)) (neg (shlV a w j) w) (neg (shlV a w (j + 1)) w != neg (shlV a w j) w) w := rfl
theorem xturn_at_28 (a n : Int) (c o : Bool) (s w : Int) (_ha : U64 a) (h : isW w = true) (W : World) : Calls Tryd.prog 21 #[.int .i64 28, .int .u64 a, .int .i64 n, th c o s, .int .i64 w] W fun e W' => e = .returned (trn 28 a n c o s w) ∧ Kp W W' := by
  have hl := kk_le n w
  cases hk : kk n w with
  | zero =>
    rw [trn_zero 28 a n c o s w h (by omega) hk]
    have HK := Lib.hid hk
    clear hk
    unfold th
    go_enter Tryd.func21, Tryd.ntmps21
    go_wp2_with fail
    refine (is_any _ _).mono ?_; rintro e w' ⟨rfl, rfl⟩
    rw [h]
    go_wp2_with fail
    refine (count_any _ _ _).mono ?_; rintro e w' ⟨rfl, rfl⟩
    rw [HK.out]
    go_wp2_with fail
    go_region_with ((go_at_call 27; refine (zx_any _ _ _).mono ?_; rintro e w' ⟨rfl, rfl⟩))
    all_goals
      go_wp2_with fail
      refine bodyPost_ret (v := .tuple #[.int .u64 (zx a w), th c o s]) (by simp [results, Tryd.results21, go_sem, th]) rfl ⟨rfl, ?_⟩
      exact (((Kp.rfl W).new _).new _).draws _
  | succ j =>
    rw [trn_step 28 a n c o s w h (by omega) j hk, trnS_28]
    have hj : j ≤ 62 := by omega
    have HK := Lib.hid hk
    clear hk hl
    have HC := Lib.hid (fun W => shift_shl a j w hj W)
    unfold T at *
    unfold th at *
    obtain ⟨v0, v1, v2, v3, hv⟩ : ∃ v0 v1 v2 v3, (T (shlV a w (j + 1)) (neg (shlV a w j) w) (neg (shlV a w (j + 1)) w != neg (shlV a w j) w) w) = .tuple #[.int .u64 v0, .agg #[.bool v1, .bool v2, .int .u64 v3]] := ⟨_, _, _, _, rfl⟩
    (try unfold T at hv)
    unfold th at hv
    rw [hv] at HC ⊢
    clear hv
    go_enter Tryd.func21, Tryd.ntmps21
    go_wp2_with fail
    refine (is_any _ _).mono ?_; rintro e w' ⟨rfl, rfl⟩
    rw [h]
    go_wp2_with fail
    refine (count_any _ _ _).mono ?_; rintro e w' ⟨rfl, rfl⟩
    rw [HK.out, show ((j + 1 : Nat) : Int) = (j : Int) + 1 from rfl]
    go_wp2_with fail
    refine (HC.out _).mono ?_; rintro e w1 ⟨rfl, hk1⟩
    obtain ⟨⟨hc0, hc1, hc2⟩, ⟨hf0, hf1, hf2⟩, hz⟩ := res_facts hk1
    replace hk1 := Lib.hid hk1
    go_wp2_with fail
    refine bodyPost_ret (v := .tuple #[.int .u64 v0, .agg #[.bool v1, .bool v2, .int .u64 v3]]) (by simp [results, Tryd.results21, go_sem, hc0, hc1, hc2]) rfl ⟨rfl, ?_⟩
    exact (((((((Kp.rfl W).new _).new _).next hk1.out).put (by simp) _).put (by simp) _).put (by simp) _)
theorem trnS_29 (a : Int) (j : Nat) (s w : Int) : trnS 29 a j s w = T (zx a w / 2 ^ (j + 1)) (bit (zx a w / 2 ^ j) 0 == 1) (neg a w) w := rfl
theorem xturn_at_29 (a n : Int) (c o : Bool) (s w : Int) (ha : U64 a) (h : isW w = true) (W : World) : Calls Tryd.prog 21 #[.int .i64 29, .int .u64 a, .int .i64 n, th c o s, .int .i64 w] W fun e W' => e = .returned (trn 29 a n c o s w) ∧ Kp W W' := by
  have hl := kk_le n w
  cases hk : kk n w with
  | zero =>
    rw [trn_zero 29 a n c o s w h (by omega) hk]
    have HK := Lib.hid hk
    clear hk
    unfold th
    go_enter Tryd.func21, Tryd.ntmps21
    go_wp2_with fail
    refine (is_any _ _).mono ?_; rintro e w' ⟨rfl, rfl⟩
    rw [h]
    go_wp2_with fail
    refine (count_any _ _ _).mono ?_; rintro e w' ⟨rfl, rfl⟩
    rw [HK.out]
    go_wp2_with fail
    go_region_with ((go_at_call 27; refine (zx_any _ _ _).mono ?_; rintro e w' ⟨rfl, rfl⟩))
    all_goals
      go_wp2_with fail
      refine bodyPost_ret (v := .tuple #[.int .u64 (zx a w), th c o s]) (by simp [results, Tryd.results21, go_sem, th]) rfl ⟨rfl, ?_⟩
      exact (((Kp.rfl W).new _).new _).draws _
  | succ j =>
    rw [trn_step 29 a n c o s w h (by omega) j hk, trnS_29]
    have hj : j ≤ 62 := by omega
    have HK := Lib.hid hk
    clear hk hl
    have HC := Lib.hid (fun W => shift_shr a j w ha hj W)
    unfold T at *
    unfold th at *
    obtain ⟨v0, v1, v2, v3, hv⟩ : ∃ v0 v1 v2 v3, (T (zx a w / 2 ^ (j + 1)) (bit (zx a w / 2 ^ j) 0 == 1) (neg a w) w) = .tuple #[.int .u64 v0, .agg #[.bool v1, .bool v2, .int .u64 v3]] := ⟨_, _, _, _, rfl⟩
    (try unfold T at hv)
    unfold th at hv
    rw [hv] at HC ⊢
    clear hv
    go_enter Tryd.func21, Tryd.ntmps21
    go_wp2_with fail
    refine (is_any _ _).mono ?_; rintro e w' ⟨rfl, rfl⟩
    rw [h]
    go_wp2_with fail
    refine (count_any _ _ _).mono ?_; rintro e w' ⟨rfl, rfl⟩
    rw [HK.out, show ((j + 1 : Nat) : Int) = (j : Int) + 1 from rfl]
    go_wp2_with fail
    refine (HC.out _).mono ?_; rintro e w1 ⟨rfl, hk1⟩
    obtain ⟨⟨hc0, hc1, hc2⟩, ⟨hf0, hf1, hf2⟩, hz⟩ := res_facts hk1
    replace hk1 := Lib.hid hk1
    go_wp2_with fail
    refine bodyPost_ret (v := .tuple #[.int .u64 v0, .agg #[.bool v1, .bool v2, .int .u64 v3]]) (by simp [results, Tryd.results21, go_sem, hc0, hc1, hc2]) rfl ⟨rfl, ?_⟩
    exact (((((((Kp.rfl W).new _).new _).next hk1.out).put (by simp) _).put (by simp) _).put (by simp) _)
theorem trnS_30 (a : Int) (j : Nat) (s w : Int) : trnS 30 a j s w = T (sarV a w (j + 1)) (bit (sarV a w j) 0 == 1) false w := rfl
theorem xturn_at_30 (a n : Int) (c o : Bool) (s w : Int) (ha : U64 a) (h : isW w = true) (W : World) : Calls Tryd.prog 21 #[.int .i64 30, .int .u64 a, .int .i64 n, th c o s, .int .i64 w] W fun e W' => e = .returned (trn 30 a n c o s w) ∧ Kp W W' := by
  have hl := kk_le n w
  cases hk : kk n w with
  | zero =>
    rw [trn_zero 30 a n c o s w h (by omega) hk]
    have HK := Lib.hid hk
    clear hk
    unfold th
    go_enter Tryd.func21, Tryd.ntmps21
    go_wp2_with fail
    refine (is_any _ _).mono ?_; rintro e w' ⟨rfl, rfl⟩
    rw [h]
    go_wp2_with fail
    refine (count_any _ _ _).mono ?_; rintro e w' ⟨rfl, rfl⟩
    rw [HK.out]
    go_wp2_with fail
    go_region_with ((go_at_call 27; refine (zx_any _ _ _).mono ?_; rintro e w' ⟨rfl, rfl⟩))
    all_goals
      go_wp2_with fail
      refine bodyPost_ret (v := .tuple #[.int .u64 (zx a w), th c o s]) (by simp [results, Tryd.results21, go_sem, th]) rfl ⟨rfl, ?_⟩
      exact (((Kp.rfl W).new _).new _).draws _
  | succ j =>
    rw [trn_step 30 a n c o s w h (by omega) j hk, trnS_30]
    have hj : j ≤ 62 := by omega
    have HK := Lib.hid hk
    clear hk hl
    have HC := Lib.hid (fun W => shift_sar a j w ha hj h W)
    unfold T at *
    unfold th at *
    obtain ⟨v0, v1, v2, v3, hv⟩ : ∃ v0 v1 v2 v3, (T (sarV a w (j + 1)) (bit (sarV a w j) 0 == 1) false w) = .tuple #[.int .u64 v0, .agg #[.bool v1, .bool v2, .int .u64 v3]] := ⟨_, _, _, _, rfl⟩
    (try unfold T at hv)
    unfold th at hv
    rw [hv] at HC ⊢
    clear hv
    go_enter Tryd.func21, Tryd.ntmps21
    go_wp2_with fail
    refine (is_any _ _).mono ?_; rintro e w' ⟨rfl, rfl⟩
    rw [h]
    go_wp2_with fail
    refine (count_any _ _ _).mono ?_; rintro e w' ⟨rfl, rfl⟩
    rw [HK.out, show ((j + 1 : Nat) : Int) = (j : Int) + 1 from rfl]
    go_wp2_with fail
    refine (HC.out _).mono ?_; rintro e w1 ⟨rfl, hk1⟩
    obtain ⟨⟨hc0, hc1, hc2⟩, ⟨hf0, hf1, hf2⟩, hz⟩ := res_facts hk1
    replace hk1 := Lib.hid hk1
    go_wp2_with fail
    refine bodyPost_ret (v := .tuple #[.int .u64 v0, .agg #[.bool v1, .bool v2, .int .u64 v3]]) (by simp [results, Tryd.results21, go_sem, hc0, hc1, hc2]) rfl ⟨rfl, ?_⟩
    exact (((((((Kp.rfl W).new _).new _).next hk1.out).put (by simp) _).put (by simp) _).put (by simp) _)
theorem trnS_26 (a : Int) (j : Nat) (s w : Int) : trnS 26 a j s w = Value.tuple #[.int .u64 (turn a ((j : Int) + 1) w), th (bit (turn a ((j : Int) + 1) w) 0 == 1) (neg (turn a ((j : Int) + 1) w) w != (bit (turn a ((j : Int) + 1) w) 0 == 1)) s] := rfl
theorem xturn_at_26 (a n : Int) (c o : Bool) (s w : Int) (ha : U64 a) (h : isW w = true) (W : World) : Calls Tryd.prog 21 #[.int .i64 26, .int .u64 a, .int .i64 n, th c o s, .int .i64 w] W fun e W' => e = .returned (trn 26 a n c o s w) ∧ Kp W W' := by
  have hl := kk_le n w
  cases hk : kk n w with
  | zero =>
    rw [trn_zero 26 a n c o s w h (by omega) hk]
    have HK := Lib.hid hk
    clear hk
    unfold th
    go_enter Tryd.func21, Tryd.ntmps21
    go_wp2_with fail
    refine (is_any _ _).mono ?_; rintro e w' ⟨rfl, rfl⟩
    rw [h]
    go_wp2_with fail
    refine (count_any _ _ _).mono ?_; rintro e w' ⟨rfl, rfl⟩
    rw [HK.out]
    go_wp2_with fail
    go_region_with ((go_at_call 27; refine (zx_any _ _ _).mono ?_; rintro e w' ⟨rfl, rfl⟩))
    all_goals
      go_wp2_with fail
      refine bodyPost_ret (v := .tuple #[.int .u64 (zx a w), th c o s]) (by simp [results, Tryd.results21, go_sem, th]) rfl ⟨rfl, ?_⟩
      exact (((Kp.rfl W).new _).new _).draws _
  | succ j =>
    rw [trn_step 26 a n c o s w h (by omega) j hk, trnS_26]
    have hj : j ≤ 62 := by omega
    have HK := Lib.hid hk
    clear hk hl
    have HC := Lib.hid (fun W => rotate_rol' a j c o s w ha hj W)
    unfold T at *
    unfold th at *
    obtain ⟨v0, v1, v2, v3, hv⟩ : ∃ v0 v1 v2 v3, (Value.tuple #[.int .u64 (turn a ((j : Int) + 1) w), th (bit (turn a ((j : Int) + 1) w) 0 == 1) (neg (turn a ((j : Int) + 1) w) w != (bit (turn a ((j : Int) + 1) w) 0 == 1)) s]) = .tuple #[.int .u64 v0, .agg #[.bool v1, .bool v2, .int .u64 v3]] := ⟨_, _, _, _, rfl⟩
    (try unfold T at hv)
    unfold th at hv
    rw [hv] at HC ⊢
    clear hv
    go_enter Tryd.func21, Tryd.ntmps21
    go_wp2_with fail
    refine (is_any _ _).mono ?_; rintro e w' ⟨rfl, rfl⟩
    rw [h]
    go_wp2_with fail
    refine (count_any _ _ _).mono ?_; rintro e w' ⟨rfl, rfl⟩
    rw [HK.out, show ((j + 1 : Nat) : Int) = (j : Int) + 1 from rfl]
    go_wp2_with fail
    refine (HC.out _).mono ?_; rintro e w1 ⟨rfl, hk1⟩
    obtain ⟨⟨hc0, hc1, hc2⟩, ⟨hf0, hf1, hf2⟩, hz⟩ := res_facts hk1
    replace hk1 := Lib.hid hk1
    go_wp2_with fail
    refine bodyPost_ret (v := .tuple #[.int .u64 v0, .agg #[.bool v1, .bool v2, .int .u64 v3]]) (by simp [results, Tryd.results21, go_sem, hc0, hc1, hc2]) rfl ⟨rfl, ?_⟩
    exact (((((((Kp.rfl W).new _).new _).next hk1.out).put (by simp) _).put (by simp) _).put (by simp) _)
theorem trnS_27 (a : Int) (j : Nat) (s w : Int) : trnS 27 a j s w = Value.tuple #[.int .u64 (turn a (-((j : Int) + 1)) w), th (neg (turn a (-((j : Int) + 1)) w) w) (neg (IntKind.u64.wrap (turn a (-((j : Int) + 1)) w * 2)) w != neg (turn a (-((j : Int) + 1)) w) w) s] := rfl
theorem xturn_at_27 (a n : Int) (c o : Bool) (s w : Int) (ha : U64 a) (h : isW w = true) (W : World) : Calls Tryd.prog 21 #[.int .i64 27, .int .u64 a, .int .i64 n, th c o s, .int .i64 w] W fun e W' => e = .returned (trn 27 a n c o s w) ∧ Kp W W' := by
  have hl := kk_le n w
  cases hk : kk n w with
  | zero =>
    rw [trn_zero 27 a n c o s w h (by omega) hk]
    have HK := Lib.hid hk
    clear hk
    unfold th
    go_enter Tryd.func21, Tryd.ntmps21
    go_wp2_with fail
    refine (is_any _ _).mono ?_; rintro e w' ⟨rfl, rfl⟩
    rw [h]
    go_wp2_with fail
    refine (count_any _ _ _).mono ?_; rintro e w' ⟨rfl, rfl⟩
    rw [HK.out]
    go_wp2_with fail
    go_region_with ((go_at_call 27; refine (zx_any _ _ _).mono ?_; rintro e w' ⟨rfl, rfl⟩))
    all_goals
      go_wp2_with fail
      refine bodyPost_ret (v := .tuple #[.int .u64 (zx a w), th c o s]) (by simp [results, Tryd.results21, go_sem, th]) rfl ⟨rfl, ?_⟩
      exact (((Kp.rfl W).new _).new _).draws _
  | succ j =>
    rw [trn_step 27 a n c o s w h (by omega) j hk, trnS_27]
    have hj : j ≤ 62 := by omega
    have HK := Lib.hid hk
    clear hk hl
    have HC := Lib.hid (fun W => rotate_ror' a j c o s w ha hj W)
    unfold T at *
    unfold th at *
    obtain ⟨v0, v1, v2, v3, hv⟩ : ∃ v0 v1 v2 v3, (Value.tuple #[.int .u64 (turn a (-((j : Int) + 1)) w), th (neg (turn a (-((j : Int) + 1)) w) w) (neg (IntKind.u64.wrap (turn a (-((j : Int) + 1)) w * 2)) w != neg (turn a (-((j : Int) + 1)) w) w) s]) = .tuple #[.int .u64 v0, .agg #[.bool v1, .bool v2, .int .u64 v3]] := ⟨_, _, _, _, rfl⟩
    (try unfold T at hv)
    unfold th at hv
    rw [hv] at HC ⊢
    clear hv
    go_enter Tryd.func21, Tryd.ntmps21
    go_wp2_with fail
    refine (is_any _ _).mono ?_; rintro e w' ⟨rfl, rfl⟩
    rw [h]
    go_wp2_with fail
    refine (count_any _ _ _).mono ?_; rintro e w' ⟨rfl, rfl⟩
    rw [HK.out, show ((j + 1 : Nat) : Int) = (j : Int) + 1 from rfl]
    go_wp2_with fail
    refine (HC.out _).mono ?_; rintro e w1 ⟨rfl, hk1⟩
    obtain ⟨⟨hc0, hc1, hc2⟩, ⟨hf0, hf1, hf2⟩, hz⟩ := res_facts hk1
    replace hk1 := Lib.hid hk1
    go_wp2_with fail
    refine bodyPost_ret (v := .tuple #[.int .u64 v0, .agg #[.bool v1, .bool v2, .int .u64 v3]]) (by simp [results, Tryd.results21, go_sem, hc0, hc1, hc2]) rfl ⟨rfl, ?_⟩
    exact (((((((Kp.rfl W).new _).new _).next hk1.out).put (by simp) _).put (by simp) _).put (by simp) _)
theorem xturn_any (op a n : Int) (c o : Bool) (s w : Int) (ha : U64 a) (W : World) : Calls Tryd.prog 21 #[.int .i64 op, .int .u64 a, .int .i64 n, th c o s, .int .i64 w] W fun e W' => e = .returned (trn op a n c o s w) ∧ Kp W W' := by
  cases h : isW w
  · rw [trn_bad op a n c o s w h]
    unfold th
    go_enter Tryd.func21, Tryd.ntmps21
    go_wp2_with fail
    refine (is_any _ _).mono ?_; rintro e w' ⟨rfl, rfl⟩
    rw [h]
    go_wp2_with fail
    go_region
    all_goals
      go_wp2_with fail
      refine bodyPost_ret (v := T0 c o s) (by simp [results, Tryd.results21, go_sem, T0, th]) rfl ⟨rfl, ?_⟩
      exact (((Kp.rfl W).new _).new _).draws _
  · by_cases h1 : op = 28
    · subst h1; exact xturn_at_28 a n c o s w ha h W
    by_cases h2 : op = 29
    · subst h2; exact xturn_at_29 a n c o s w ha h W
    by_cases h3 : op = 30
    · subst h3; exact xturn_at_30 a n c o s w ha h W
    by_cases h4 : op = 26
    · subst h4; exact xturn_at_26 a n c o s w ha h W
    by_cases h5 : op = 27
    · subst h5; exact xturn_at_27 a n c o s w ha h W
    rw [trn_other op a n c o s w ⟨h1, h2, h3, h4, h5⟩]
    have e1 : (op == 28) = false := by simpa using h1
    have e2 : (op == 29) = false := by simpa using h2
    have e3 : (op == 30) = false := by simpa using h3
    have e4 : (op == 26) = false := by simpa using h4
    have e5 : (op == 27) = false := by simpa using h5
    clear h1 h2 h3 h4 h5
    unfold th
    go_enter Tryd.func21, Tryd.ntmps21
    go_wp2_with fail
    refine (is_any _ _).mono ?_; rintro e w' ⟨rfl, rfl⟩
    rw [h]
    go_wp2_with fail
    refine (count_any _ _ _).mono ?_; rintro e w' ⟨rfl, rfl⟩
    go_wp2_with fail
    go_region
    all_goals
      go_wp2_with fail
      refine bodyPost_ret (v := T0 c o s) (by simp [results, Tryd.results21, go_sem, T0, th]) rfl ⟨rfl, ?_⟩
      exact (((Kp.rfl W).new _).new _).draws _
end Go.Proofs.YtlbkmdmnijmieaaDoor
