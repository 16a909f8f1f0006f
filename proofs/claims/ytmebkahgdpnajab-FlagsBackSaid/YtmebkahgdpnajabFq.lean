/- Walks of layer 8: operations of one number, of the code and of the document's own answers. -/
import Derived.Test.YtmebkahgdpnajabFl
namespace Go.Proofs.Ytmebkahgdpnajab
open Go Go.RowKit
open Cq (U64 I64 isW nb zx sx neg sumV sumC sumO lessV lessC lessO bit oneI)

/-- what operations of one number come to -/
def oneR (op a : Int) (c o : Bool) (s w : Int) : Value :=
  if isW w = true then
    if op = 18 then .tuple #[.int .u64 (zx (18446744073709551615 - a) w), th c o s]
    else if op = 19 then T (lessV 0 a false w) (lessC 0 a false w) (lessO 0 a false w) w
    else if op = 16 then T (sumV a 1 false w) c (sumO a 1 false w) w
    else if op = 17 then T (lessV a 1 false w) c (lessO a 1 false w) w
    else T0 c o s
  else T0 c o s
theorem one_bad (op a : Int) (c o : Bool) (s w : Int) (h : isW w = false) : oneR op a c o s w = T0 c o s := by
  unfold oneR; rw [if_neg (by rw [h]; decide)]
theorem one_other (op a : Int) (c o : Bool) (s w : Int) (h : op ≠ 16 ∧ op ≠ 17 ∧ op ≠ 18 ∧ op ≠ 19) : oneR op a c o s w = T0 c o s := by
  unfold oneR; simp [h]
theorem u64_0 : U64 0 := ⟨by decide, by decide⟩
theorem u64_1 : U64 1 := ⟨by decide, by decide⟩
theorem one_18 (a : Int) (c o : Bool) (s w : Int) (h : isW w = true) : oneR 18 a c o s w = .tuple #[.int .u64 (zx (18446744073709551615 - a) w), th c o s] := by unfold oneR; rw [if_pos h]; rfl
theorem one_19 (a : Int) (c o : Bool) (s w : Int) (h : isW w = true) : oneR 19 a c o s w = T (lessV 0 a false w) (lessC 0 a false w) (lessO 0 a false w) w := by unfold oneR; rw [if_pos h]; rfl
theorem one_16 (a : Int) (c o : Bool) (s w : Int) (h : isW w = true) : oneR 16 a c o s w = T (sumV a 1 false w) c (sumO a 1 false w) w := by unfold oneR; rw [if_pos h]; rfl
theorem one_17 (a : Int) (c o : Bool) (s w : Int) (h : isW w = true) : oneR 17 a c o s w = T (lessV a 1 false w) c (lessO a 1 false w) w := by unfold oneR; rw [if_pos h]; rfl
theorem one_at_18 (a : Int) (c o : Bool) (s w : Int) (ha : U64 a) (h : isW w = true) (W : World) : Calls Try.prog 12 #[.int .i64 18, .int .u64 a, th c o s, .int .i64 w] W fun e W' => e = .returned (oneR 18 a c o s w) ∧ Kp W W' := by
  rw [one_18 a c o s w h]
  have HN := Lib.hid (Cq.not_compl ha)
  unfold th
  go_enter Try.func12, Try.ntmps12
  go_wp2_with fail
  refine (is_any _ _).mono ?_; rintro e w' ⟨rfl, rfl⟩
  rw [h]
  go_wp2_with fail
  go_region_with ((go_at_call 9; refine (zx_any _ _ _).mono ?_; rintro e w' ⟨rfl, rfl⟩))
  all_goals
    go_wp2_with fail
    refine bodyPost_ret (v := .tuple #[.int .u64 (zx (bits .xor .u64 IntKind.u64.max a) w), th c o s]) (by simp [results, Try.results12, go_sem, th]) rfl ⟨by rw [HN.out]; rfl, ?_⟩
    exact ((((Kp.rfl W).new _).new _)).draws _
theorem one_at_19 (a : Int) (c o : Bool) (s w : Int) (h : isW w = true) (W : World) : Calls Try.prog 12 #[.int .i64 19, .int .u64 a, th c o s, .int .i64 w] W fun e W' => e = .returned (oneR 19 a c o s w) ∧ Kp W W' := by
  rw [one_19 a c o s w h]
  unfold th
  go_enter Try.func12, Try.ntmps12
  go_wp2_with fail
  refine (is_any _ _).mono ?_; rintro e w' ⟨rfl, rfl⟩
  rw [h]
  go_wp2_with fail
  refine (less_any _ _ _ _ _).mono ?_; rintro e w' ⟨rfl, rfl⟩
  go_wp2_with fail
  refine (of_any _ _ _ _ (Cq.lessV_u64 _ _ _ _) _).mono ?_; rintro e w' ⟨rfl, rfl⟩
  unfold th
  go_wp2_with fail
  refine bodyPost_ret (v := T (lessV 0 a false w) (lessC 0 a false w) (lessO 0 a false w) w) (by simp [results, Try.results12, go_sem, T, th]) rfl ⟨rfl, ?_⟩
  exact ((((Kp.rfl W).new _).new _)).new _
theorem one_at_16 (a : Int) (c o : Bool) (s w : Int) (h : isW w = true) (W : World) : Calls Try.prog 12 #[.int .i64 16, .int .u64 a, th c o s, .int .i64 w] W fun e W' => e = .returned (oneR 16 a c o s w) ∧ Kp W W' := by
  rw [one_16 a c o s w h]
  unfold th
  go_enter Try.func12, Try.ntmps12
  go_wp2_with fail
  refine (is_any _ _).mono ?_; rintro e w' ⟨rfl, rfl⟩
  rw [h]
  go_wp2_with fail
  refine (sum_any _ _ _ _ _).mono ?_; rintro e w' ⟨rfl, rfl⟩
  go_wp2_with fail
  refine (of_any _ _ _ _ (Cq.sumV_u64 _ _ _ _) _).mono ?_; rintro e w' ⟨rfl, rfl⟩
  unfold th
  go_wp2_with fail
  refine bodyPost_ret (v := T (sumV a 1 false w) c (sumO a 1 false w) w) (by simp [results, Try.results12, go_sem, T, th]) rfl ⟨rfl, ?_⟩
  exact ((((Kp.rfl W).new _).new _)).new _
theorem one_at_17 (a : Int) (c o : Bool) (s w : Int) (h : isW w = true) (W : World) : Calls Try.prog 12 #[.int .i64 17, .int .u64 a, th c o s, .int .i64 w] W fun e W' => e = .returned (oneR 17 a c o s w) ∧ Kp W W' := by
  rw [one_17 a c o s w h]
  unfold th
  go_enter Try.func12, Try.ntmps12
  go_wp2_with fail
  refine (is_any _ _).mono ?_; rintro e w' ⟨rfl, rfl⟩
  rw [h]
  go_wp2_with fail
  refine (less_any _ _ _ _ _).mono ?_; rintro e w' ⟨rfl, rfl⟩
  go_wp2_with fail
  refine (of_any _ _ _ _ (Cq.lessV_u64 _ _ _ _) _).mono ?_; rintro e w' ⟨rfl, rfl⟩
  unfold th
  go_wp2_with fail
  refine bodyPost_ret (v := T (lessV a 1 false w) c (lessO a 1 false w) w) (by simp [results, Try.results12, go_sem, T, th]) rfl ⟨rfl, ?_⟩
  exact ((((Kp.rfl W).new _).new _)).new _
set_option maxRecDepth 100000 in
theorem one_any' (op a : Int) (c o : Bool) (s w : Int) (ha : U64 a) (W : World) : Calls Try.prog 12 #[.int .i64 op, .int .u64 a, th c o s, .int .i64 w] W fun e W' => e = .returned (oneR op a c o s w) ∧ Kp W W' := by
  cases h : isW w
  · rw [one_bad op a c o s w h]
    unfold th
    go_enter Try.func12, Try.ntmps12
    go_wp2_with fail
    refine (is_any _ _).mono ?_; rintro e w' ⟨rfl, rfl⟩
    rw [h]
    go_wp2_with fail
    go_region
    all_goals
      go_wp2_with fail
      refine bodyPost_ret (v := T0 c o s) (by simp [results, Try.results12, go_sem, T0, th]) rfl ⟨rfl, ?_⟩
      exact (((Kp.rfl W).new _).new _).draws _
  · by_cases h1 : op = 16
    · subst h1; exact one_at_16 a c o s w h W
    by_cases h2 : op = 17
    · subst h2; exact one_at_17 a c o s w h W
    by_cases h3 : op = 18
    · subst h3; exact one_at_18 a c o s w ha h W
    by_cases h4 : op = 19
    · subst h4; exact one_at_19 a c o s w h W
    rw [one_other op a c o s w ⟨h1, h2, h3, h4⟩]
    have e1 : (op == 16) = false := by simpa using h1
    have e2 : (op == 17) = false := by simpa using h2
    have e3 : (op == 18) = false := by simpa using h3
    have e4 : (op == 19) = false := by simpa using h4
    clear h1 h2 h3 h4
    unfold th
    go_enter Try.func12, Try.ntmps12
    go_wp2_with fail
    refine (is_any _ _).mono ?_; rintro e w' ⟨rfl, rfl⟩
    rw [h]
    go_wp2_with fail
    go_region
    all_goals
      go_wp2_with fail
      refine bodyPost_ret (v := T0 c o s) (by simp [results, Try.results12, go_sem, T0, th]) rfl ⟨rfl, ?_⟩
      exact (((Kp.rfl W).new _).new _).draws _
end Go.Proofs.Ytmebkahgdpnajab
