/- Walks of layer 8: operations of two numbers, of the code and of the document's own answers. -/
import Derived.Test.YtlbkmdmnijmieaaDoorFk
namespace Go.Proofs.YtlbkmdmnijmieaaDoor
open Go Go.RowKit
open Cq (U64 I64 isW nb zx sx neg sumV sumC sumO lessV lessC lessO bit oneI)

/-- a result and its thunk -/
def T (r : Int) (c o : Bool) (w : Int) : Value := .tuple #[.int .u64 r, th c o (sx r w)]
/-- nothing, and the thunk as it was -/
def T0 (c o : Bool) (s : Int) : Value := .tuple #[.int .u64 0, th c o s]
/-- what operations of two numbers come to -/
def two (op a b : Int) (c o : Bool) (s w : Int) : Value :=
  if isW w = true then
    if op = 1 then T (sumV a b false w) (sumC a b false w) (sumO a b false w) w
    else if op = 3 then T (sumV a b c w) (sumC a b c w) (sumO a b c w) w
    else if op = 6 ∨ op = 8 then T (lessV a b false w) (lessC a b false w) (lessO a b false w) w
    else if op = 4 then T (lessV a b c w) (lessC a b c w) (lessO a b c w) w
    else if op = 5 ∨ op = 9 then T (zx (bits .and .u64 a b) w) false false w
    else if op = 2 then T (zx (bits .or .u64 a b) w) false false w
    else if op = 7 then T (zx (bits .xor .u64 a b) w) false false w
    else T0 c o s
  else T0 c o s
theorem two_bad (op a b : Int) (c o : Bool) (s w : Int) (h : isW w = false) : two op a b c o s w = T0 c o s := by
  unfold two; rw [if_neg (by rw [h]; decide)]
theorem two_other (op a b : Int) (c o : Bool) (s w : Int) (h : op ≠ 1 ∧ op ≠ 2 ∧ op ≠ 3 ∧ op ≠ 4 ∧ op ≠ 5 ∧ op ≠ 6 ∧ op ≠ 7 ∧ op ≠ 8 ∧ op ≠ 9) : two op a b c o s w = T0 c o s := by
  unfold two; simp [h]

theorem two_1 (a b : Int) (c o : Bool) (s w : Int) (h : isW w = true) : two 1 a b c o s w = T (sumV a b false w) (sumC a b false w) (sumO a b false w) w := by unfold two; rw [if_pos h]; rfl
theorem two_3 (a b : Int) (c o : Bool) (s w : Int) (h : isW w = true) : two 3 a b c o s w = T (sumV a b c w) (sumC a b c w) (sumO a b c w) w := by unfold two; rw [if_pos h]; rfl
theorem two_6 (a b : Int) (c o : Bool) (s w : Int) (h : isW w = true) : two 6 a b c o s w = T (lessV a b false w) (lessC a b false w) (lessO a b false w) w := by unfold two; rw [if_pos h]; rfl
theorem two_8 (a b : Int) (c o : Bool) (s w : Int) (h : isW w = true) : two 8 a b c o s w = T (lessV a b false w) (lessC a b false w) (lessO a b false w) w := by unfold two; rw [if_pos h]; rfl
theorem two_4 (a b : Int) (c o : Bool) (s w : Int) (h : isW w = true) : two 4 a b c o s w = T (lessV a b c w) (lessC a b c w) (lessO a b c w) w := by unfold two; rw [if_pos h]; rfl
theorem two_5 (a b : Int) (c o : Bool) (s w : Int) (h : isW w = true) : two 5 a b c o s w = T (zx (bits .and .u64 a b) w) false false w := by unfold two; rw [if_pos h]; rfl
theorem two_9 (a b : Int) (c o : Bool) (s w : Int) (h : isW w = true) : two 9 a b c o s w = T (zx (bits .and .u64 a b) w) false false w := by unfold two; rw [if_pos h]; rfl
theorem two_2 (a b : Int) (c o : Bool) (s w : Int) (h : isW w = true) : two 2 a b c o s w = T (zx (bits .or .u64 a b) w) false false w := by unfold two; rw [if_pos h]; rfl
theorem two_7 (a b : Int) (c o : Bool) (s w : Int) (h : isW w = true) : two 7 a b c o s w = T (zx (bits .xor .u64 a b) w) false false w := by unfold two; rw [if_pos h]; rfl
theorem two_at_1 (a b : Int) (c o : Bool) (s w : Int) (h : isW w = true) (W : World) : Calls Tryd.prog 20 #[.int .i64 1, .int .u64 a, .int .u64 b, th c o s, .int .i64 w] W fun e W' => e = .returned (two 1 a b c o s w) ∧ Kp W W' := by
  rw [two_1 a b c o s w h]
  unfold th
  go_enter Tryd.func20, Tryd.ntmps20
  go_wp2_with fail
  refine (is_any _ _).mono ?_; rintro e w' ⟨rfl, rfl⟩
  rw [h]
  go_wp2_with fail
  refine (sum_any _ _ _ _ _).mono ?_; rintro e w' ⟨rfl, rfl⟩
  go_wp2_with fail
  refine (of_any _ _ _ _ (Cq.sumV_u64 _ _ _ _) _).mono ?_; rintro e w' ⟨rfl, rfl⟩
  unfold th
  go_wp2_with fail
  refine bodyPost_ret (v := T (sumV a b false w) (sumC a b false w) (sumO a b false w) w) (by simp [results, Tryd.results20, go_sem, T, th]) rfl ⟨rfl, ?_⟩
  exact (((Kp.rfl W).new _).new _).new _
theorem two_at_3 (a b : Int) (c o : Bool) (s w : Int) (h : isW w = true) (W : World) : Calls Tryd.prog 20 #[.int .i64 3, .int .u64 a, .int .u64 b, th c o s, .int .i64 w] W fun e W' => e = .returned (two 3 a b c o s w) ∧ Kp W W' := by
  rw [two_3 a b c o s w h]
  unfold th
  go_enter Tryd.func20, Tryd.ntmps20
  go_wp2_with fail
  refine (is_any _ _).mono ?_; rintro e w' ⟨rfl, rfl⟩
  rw [h]
  go_wp2_with fail
  refine (sum_any _ _ _ _ _).mono ?_; rintro e w' ⟨rfl, rfl⟩
  go_wp2_with fail
  refine (of_any _ _ _ _ (Cq.sumV_u64 _ _ _ _) _).mono ?_; rintro e w' ⟨rfl, rfl⟩
  unfold th
  go_wp2_with fail
  refine bodyPost_ret (v := T (sumV a b c w) (sumC a b c w) (sumO a b c w) w) (by simp [results, Tryd.results20, go_sem, T, th]) rfl ⟨rfl, ?_⟩
  exact (((Kp.rfl W).new _).new _).new _
theorem two_at_6 (a b : Int) (c o : Bool) (s w : Int) (h : isW w = true) (W : World) : Calls Tryd.prog 20 #[.int .i64 6, .int .u64 a, .int .u64 b, th c o s, .int .i64 w] W fun e W' => e = .returned (two 6 a b c o s w) ∧ Kp W W' := by
  rw [two_6 a b c o s w h]
  unfold th
  go_enter Tryd.func20, Tryd.ntmps20
  go_wp2_with fail
  refine (is_any _ _).mono ?_; rintro e w' ⟨rfl, rfl⟩
  rw [h]
  go_wp2_with fail
  refine (less_any _ _ _ _ _).mono ?_; rintro e w' ⟨rfl, rfl⟩
  go_wp2_with fail
  refine (of_any _ _ _ _ (Cq.lessV_u64 _ _ _ _) _).mono ?_; rintro e w' ⟨rfl, rfl⟩
  unfold th
  go_wp2_with fail
  refine bodyPost_ret (v := T (lessV a b false w) (lessC a b false w) (lessO a b false w) w) (by simp [results, Tryd.results20, go_sem, T, th]) rfl ⟨rfl, ?_⟩
  exact (((Kp.rfl W).new _).new _).new _
theorem two_at_8 (a b : Int) (c o : Bool) (s w : Int) (h : isW w = true) (W : World) : Calls Tryd.prog 20 #[.int .i64 8, .int .u64 a, .int .u64 b, th c o s, .int .i64 w] W fun e W' => e = .returned (two 8 a b c o s w) ∧ Kp W W' := by
  rw [two_8 a b c o s w h]
  unfold th
  go_enter Tryd.func20, Tryd.ntmps20
  go_wp2_with fail
  refine (is_any _ _).mono ?_; rintro e w' ⟨rfl, rfl⟩
  rw [h]
  go_wp2_with fail
  refine (less_any _ _ _ _ _).mono ?_; rintro e w' ⟨rfl, rfl⟩
  go_wp2_with fail
  refine (of_any _ _ _ _ (Cq.lessV_u64 _ _ _ _) _).mono ?_; rintro e w' ⟨rfl, rfl⟩
  unfold th
  go_wp2_with fail
  refine bodyPost_ret (v := T (lessV a b false w) (lessC a b false w) (lessO a b false w) w) (by simp [results, Tryd.results20, go_sem, T, th]) rfl ⟨rfl, ?_⟩
  exact (((Kp.rfl W).new _).new _).new _
theorem two_at_4 (a b : Int) (c o : Bool) (s w : Int) (h : isW w = true) (W : World) : Calls Tryd.prog 20 #[.int .i64 4, .int .u64 a, .int .u64 b, th c o s, .int .i64 w] W fun e W' => e = .returned (two 4 a b c o s w) ∧ Kp W W' := by
  rw [two_4 a b c o s w h]
  unfold th
  go_enter Tryd.func20, Tryd.ntmps20
  go_wp2_with fail
  refine (is_any _ _).mono ?_; rintro e w' ⟨rfl, rfl⟩
  rw [h]
  go_wp2_with fail
  refine (less_any _ _ _ _ _).mono ?_; rintro e w' ⟨rfl, rfl⟩
  go_wp2_with fail
  refine (of_any _ _ _ _ (Cq.lessV_u64 _ _ _ _) _).mono ?_; rintro e w' ⟨rfl, rfl⟩
  unfold th
  go_wp2_with fail
  refine bodyPost_ret (v := T (lessV a b c w) (lessC a b c w) (lessO a b c w) w) (by simp [results, Tryd.results20, go_sem, T, th]) rfl ⟨rfl, ?_⟩
  exact (((Kp.rfl W).new _).new _).new _
theorem two_at_5 (a b : Int) (c o : Bool) (s w : Int) (h : isW w = true) (W : World) : Calls Tryd.prog 20 #[.int .i64 5, .int .u64 a, .int .u64 b, th c o s, .int .i64 w] W fun e W' => e = .returned (two 5 a b c o s w) ∧ Kp W W' := by
  rw [two_5 a b c o s w h]
  unfold th
  go_enter Tryd.func20, Tryd.ntmps20
  go_wp2_with fail
  refine (is_any _ _).mono ?_; rintro e w' ⟨rfl, rfl⟩
  rw [h]
  go_wp2_with fail
  refine (zx_any _ _ _).mono ?_; rintro e w' ⟨rfl, rfl⟩
  go_wp2_with fail
  refine (of_any _ _ _ _ (Cq.zx_u64 w) _).mono ?_; rintro e w' ⟨rfl, rfl⟩
  unfold th
  go_wp2_with fail
  refine bodyPost_ret (v := T (zx (bits .and .u64 a b) w) false false w) (by simp [results, Tryd.results20, go_sem, T, th]) rfl ⟨rfl, ?_⟩
  exact (((Kp.rfl W).new _).new _).new _
theorem two_at_9 (a b : Int) (c o : Bool) (s w : Int) (h : isW w = true) (W : World) : Calls Tryd.prog 20 #[.int .i64 9, .int .u64 a, .int .u64 b, th c o s, .int .i64 w] W fun e W' => e = .returned (two 9 a b c o s w) ∧ Kp W W' := by
  rw [two_9 a b c o s w h]
  unfold th
  go_enter Tryd.func20, Tryd.ntmps20
  go_wp2_with fail
  refine (is_any _ _).mono ?_; rintro e w' ⟨rfl, rfl⟩
  rw [h]
  go_wp2_with fail
  refine (zx_any _ _ _).mono ?_; rintro e w' ⟨rfl, rfl⟩
  go_wp2_with fail
  refine (of_any _ _ _ _ (Cq.zx_u64 w) _).mono ?_; rintro e w' ⟨rfl, rfl⟩
  unfold th
  go_wp2_with fail
  refine bodyPost_ret (v := T (zx (bits .and .u64 a b) w) false false w) (by simp [results, Tryd.results20, go_sem, T, th]) rfl ⟨rfl, ?_⟩
  exact (((Kp.rfl W).new _).new _).new _
theorem two_at_2 (a b : Int) (c o : Bool) (s w : Int) (h : isW w = true) (W : World) : Calls Tryd.prog 20 #[.int .i64 2, .int .u64 a, .int .u64 b, th c o s, .int .i64 w] W fun e W' => e = .returned (two 2 a b c o s w) ∧ Kp W W' := by
  rw [two_2 a b c o s w h]
  unfold th
  go_enter Tryd.func20, Tryd.ntmps20
  go_wp2_with fail
  refine (is_any _ _).mono ?_; rintro e w' ⟨rfl, rfl⟩
  rw [h]
  go_wp2_with fail
  refine (zx_any _ _ _).mono ?_; rintro e w' ⟨rfl, rfl⟩
  go_wp2_with fail
  refine (of_any _ _ _ _ (Cq.zx_u64 w) _).mono ?_; rintro e w' ⟨rfl, rfl⟩
  unfold th
  go_wp2_with fail
  refine bodyPost_ret (v := T (zx (bits .or .u64 a b) w) false false w) (by simp [results, Tryd.results20, go_sem, T, th]) rfl ⟨rfl, ?_⟩
  exact (((Kp.rfl W).new _).new _).new _
theorem two_at_7 (a b : Int) (c o : Bool) (s w : Int) (h : isW w = true) (W : World) : Calls Tryd.prog 20 #[.int .i64 7, .int .u64 a, .int .u64 b, th c o s, .int .i64 w] W fun e W' => e = .returned (two 7 a b c o s w) ∧ Kp W W' := by
  rw [two_7 a b c o s w h]
  unfold th
  go_enter Tryd.func20, Tryd.ntmps20
  go_wp2_with fail
  refine (is_any _ _).mono ?_; rintro e w' ⟨rfl, rfl⟩
  rw [h]
  go_wp2_with fail
  refine (zx_any _ _ _).mono ?_; rintro e w' ⟨rfl, rfl⟩
  go_wp2_with fail
  refine (of_any _ _ _ _ (Cq.zx_u64 w) _).mono ?_; rintro e w' ⟨rfl, rfl⟩
  unfold th
  go_wp2_with fail
  refine bodyPost_ret (v := T (zx (bits .xor .u64 a b) w) false false w) (by simp [results, Tryd.results20, go_sem, T, th]) rfl ⟨rfl, ?_⟩
  exact (((Kp.rfl W).new _).new _).new _
theorem two_any (op a b : Int) (c o : Bool) (s w : Int) (W : World) : Calls Tryd.prog 20 #[.int .i64 op, .int .u64 a, .int .u64 b, th c o s, .int .i64 w] W fun e W' => e = .returned (two op a b c o s w) ∧ Kp W W' := by
  cases h : isW w
  · rw [two_bad op a b c o s w h]
    unfold th
    go_enter Tryd.func20, Tryd.ntmps20
    go_wp2_with fail
    refine (is_any _ _).mono ?_; rintro e w' ⟨rfl, rfl⟩
    rw [h]
    go_wp2_with fail
    go_region
    all_goals
      go_wp2_with fail
      refine bodyPost_ret (v := T0 c o s) (by simp [results, Tryd.results20, go_sem, T0, th]) rfl ⟨rfl, ?_⟩
      exact (((Kp.rfl W).new _).new _).draws _
  · by_cases h1 : op = 1
    · subst h1; exact two_at_1 a b c o s w h W
    by_cases h2 : op = 2
    · subst h2; exact two_at_2 a b c o s w h W
    by_cases h3 : op = 3
    · subst h3; exact two_at_3 a b c o s w h W
    by_cases h4 : op = 4
    · subst h4; exact two_at_4 a b c o s w h W
    by_cases h5 : op = 5
    · subst h5; exact two_at_5 a b c o s w h W
    by_cases h6 : op = 6
    · subst h6; exact two_at_6 a b c o s w h W
    by_cases h7 : op = 7
    · subst h7; exact two_at_7 a b c o s w h W
    by_cases h8 : op = 8
    · subst h8; exact two_at_8 a b c o s w h W
    by_cases h9 : op = 9
    · subst h9; exact two_at_9 a b c o s w h W
    rw [two_other op a b c o s w ⟨h1, h2, h3, h4, h5, h6, h7, h8, h9⟩]
    have e1 : (op == 1) = false := by simpa using h1
    have e2 : (op == 2) = false := by simpa using h2
    have e3 : (op == 3) = false := by simpa using h3
    have e4 : (op == 4) = false := by simpa using h4
    have e5 : (op == 5) = false := by simpa using h5
    have e6 : (op == 6) = false := by simpa using h6
    have e7 : (op == 7) = false := by simpa using h7
    have e8 : (op == 8) = false := by simpa using h8
    have e9 : (op == 9) = false := by simpa using h9
    clear h1 h2 h3 h4 h5 h6 h7 h8 h9
    unfold th
    go_enter Tryd.func20, Tryd.ntmps20
    go_wp2_with fail
    refine (is_any _ _).mono ?_; rintro e w' ⟨rfl, rfl⟩
    rw [h]
    go_wp2_with fail
    go_region
    all_goals
      go_wp2_with fail
      refine bodyPost_ret (v := T0 c o s) (by simp [results, Tryd.results20, go_sem, T0, th]) rfl ⟨rfl, ?_⟩
      exact (((Kp.rfl W).new _).new _).draws _

end Go.Proofs.YtlbkmdmnijmieaaDoor
