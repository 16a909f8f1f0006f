/- Walks of layer 8: operations of one number, of the code and of the document's own answers. -/
import Derived.Test.YtmebkahgdpnajaaFn
namespace Go.Proofs.Ytmebkahgdpnajaa
open Go Go.RowKit
open Cq (U64 I64 isW nb zx sx neg sumV sumC sumO lessV lessC lessO bit oneI)

/-- what operations of one number come to -/
def oneR (op a : Int) (c o : Bool) (s w : Int) : Value :=
  if isW w = true then
    if op = 18 then .tuple #[.int .u64 (zx (18446744073709551615 - a) w), th c o s]
    else if op = 19 then T (lessV 0 a false w) (lessC 0 a false w) (lessO 0 a false w) w
    else if op = 16 then T (sumV a 1 false w) c (sumO a 1 false w) w
    else if op = 17 then T (lessV a 1 false w) c (lessO a 1 false w) w
    else T0 c o s
  else T0 c o s
theorem one_bad (op a : Int) (c o : Bool) (s w : Int) (h : isW w = false) : oneR op a c o s w = T0 c o s := by
  unfold oneR; rw [if_neg (by rw [h]; decide)]
theorem one_other (op a : Int) (c o : Bool) (s w : Int) (h : op ≠ 16 ∧ op ≠ 17 ∧ op ≠ 18 ∧ op ≠ 19) : oneR op a c o s w = T0 c o s := by
  unfold oneR; simp [h]
theorem u64_0 : U64 0 := ⟨by decide, by decide⟩
theorem u64_1 : U64 1 := ⟨by decide, by decide⟩
set_option maxRecDepth 100000 in
theorem far_one (n : Nat) (h : n ≤ 47) (hn : n ≠ 16 ∧ n ≠ 17 ∧ n ≠ 18 ∧ n ≠ 19) : (tab.getD n [] == [105, 110, 99]) = false ∧ (tab.getD n [] == [100, 101, 99]) = false ∧ (tab.getD n [] == [110, 111, 116]) = false ∧ (tab.getD n [] == [110, 101, 103]) = false := by
  have H : ∀ m : Fin 48, (m.val = 16 ∨ m.val = 17 ∨ m.val = 18 ∨ m.val = 19) ∨ ((tab.getD m.val [] == [105, 110, 99]) = false ∧ (tab.getD m.val [] == [100, 101, 99]) = false ∧ (tab.getD m.val [] == [110, 111, 116]) = false ∧ (tab.getD m.val [] == [110, 101, 103]) = false) := by decide
  rcases H ⟨n, by omega⟩ with g | g
  · simp only at g; omega
  · exact g

theorem one_18 (a : Int) (c o : Bool) (s w : Int) (h : isW w = true) : oneR 18 a c o s w = .tuple #[.int .u64 (zx (18446744073709551615 - a) w), th c o s] := by unfold oneR; rw [if_pos h]; rfl
theorem one_19 (a : Int) (c o : Bool) (s w : Int) (h : isW w = true) : oneR 19 a c o s w = T (lessV 0 a false w) (lessC 0 a false w) (lessO 0 a false w) w := by unfold oneR; rw [if_pos h]; rfl
theorem one_16 (a : Int) (c o : Bool) (s w : Int) (h : isW w = true) : oneR 16 a c o s w = T (sumV a 1 false w) c (sumO a 1 false w) w := by unfold oneR; rw [if_pos h]; rfl
theorem one_17 (a : Int) (c o : Bool) (s w : Int) (h : isW w = true) : oneR 17 a c o s w = T (lessV a 1 false w) c (lessO a 1 false w) w := by unfold oneR; rw [if_pos h]; rfl
theorem one_at_18 (a : Int) (c o : Bool) (s w : Int) (ha : U64 a) (h : isW w = true) (W : World) : Calls Try.prog 13 #[.int .i64 18, .int .u64 a, th c o s, .int .i64 w] W fun e W' => e = .returned (oneR 18 a c o s w) ∧ Kp W W' := by
  rw [one_18 a c o s w h]
  have HN := Lib.hid (Cq.not_compl ha)
  unfold th
  go_enter Try.func13, Try.ntmps13
  go_wp2_with fail
  refine (is_any _ _).mono ?_; rintro e w' ⟨rfl, rfl⟩
  rw [h]
  go_wp2_with fail
  go_region_with ((go_at_call 21; refine (zx_any _ _ _).mono ?_; rintro e w' ⟨rfl, rfl⟩))
  all_goals
    go_wp2_with fail
    refine bodyPost_ret (v := .tuple #[.int .u64 (zx (bits .xor .u64 IntKind.u64.max a) w), th c o s]) (by simp [results, Try.results13, go_sem, th]) rfl ⟨by rw [HN.out]; rfl, ?_⟩
    exact ((((Kp.rfl W).new _).new _)).draws _
theorem one_at_19 (a : Int) (c o : Bool) (s w : Int) (h : isW w = true) (W : World) : Calls Try.prog 13 #[.int .i64 19, .int .u64 a, th c o s, .int .i64 w] W fun e W' => e = .returned (oneR 19 a c o s w) ∧ Kp W W' := by
  rw [one_19 a c o s w h]
  unfold th
  go_enter Try.func13, Try.ntmps13
  go_wp2_with fail
  refine (is_any _ _).mono ?_; rintro e w' ⟨rfl, rfl⟩
  rw [h]
  go_wp2_with fail
  refine (less_any _ _ _ _ _).mono ?_; rintro e w' ⟨rfl, rfl⟩
  go_wp2_with fail
  refine (of_any _ _ _ _ (Cq.lessV_u64 _ _ _ _) _).mono ?_; rintro e w' ⟨rfl, rfl⟩
  unfold th
  go_wp2_with fail
  refine bodyPost_ret (v := T (lessV 0 a false w) (lessC 0 a false w) (lessO 0 a false w) w) (by simp [results, Try.results13, go_sem, T, th]) rfl ⟨rfl, ?_⟩
  exact ((((Kp.rfl W).new _).new _)).new _
theorem one_at_16 (a : Int) (c o : Bool) (s w : Int) (h : isW w = true) (W : World) : Calls Try.prog 13 #[.int .i64 16, .int .u64 a, th c o s, .int .i64 w] W fun e W' => e = .returned (oneR 16 a c o s w) ∧ Kp W W' := by
  rw [one_16 a c o s w h]
  unfold th
  go_enter Try.func13, Try.ntmps13
  go_wp2_with fail
  refine (is_any _ _).mono ?_; rintro e w' ⟨rfl, rfl⟩
  rw [h]
  go_wp2_with fail
  refine (sum_any _ _ _ _ _).mono ?_; rintro e w' ⟨rfl, rfl⟩
  go_wp2_with fail
  refine (of_any _ _ _ _ (Cq.sumV_u64 _ _ _ _) _).mono ?_; rintro e w' ⟨rfl, rfl⟩
  unfold th
  go_wp2_with fail
  refine bodyPost_ret (v := T (sumV a 1 false w) c (sumO a 1 false w) w) (by simp [results, Try.results13, go_sem, T, th]) rfl ⟨rfl, ?_⟩
  exact ((((Kp.rfl W).new _).new _)).new _
theorem one_at_17 (a : Int) (c o : Bool) (s w : Int) (h : isW w = true) (W : World) : Calls Try.prog 13 #[.int .i64 17, .int .u64 a, th c o s, .int .i64 w] W fun e W' => e = .returned (oneR 17 a c o s w) ∧ Kp W W' := by
  rw [one_17 a c o s w h]
  unfold th
  go_enter Try.func13, Try.ntmps13
  go_wp2_with fail
  refine (is_any _ _).mono ?_; rintro e w' ⟨rfl, rfl⟩
  rw [h]
  go_wp2_with fail
  refine (less_any _ _ _ _ _).mono ?_; rintro e w' ⟨rfl, rfl⟩
  go_wp2_with fail
  refine (of_any _ _ _ _ (Cq.lessV_u64 _ _ _ _) _).mono ?_; rintro e w' ⟨rfl, rfl⟩
  unfold th
  go_wp2_with fail
  refine bodyPost_ret (v := T (lessV a 1 false w) c (lessO a 1 false w) w) (by simp [results, Try.results13, go_sem, T, th]) rfl ⟨rfl, ?_⟩
  exact ((((Kp.rfl W).new _).new _)).new _
set_option maxRecDepth 100000 in
theorem one_any' (op a : Int) (c o : Bool) (s w : Int) (ha : U64 a) (W : World) : Calls Try.prog 13 #[.int .i64 op, .int .u64 a, th c o s, .int .i64 w] W fun e W' => e = .returned (oneR op a c o s w) ∧ Kp W W' := by
  cases h : isW w
  · rw [one_bad op a c o s w h]
    unfold th
    go_enter Try.func13, Try.ntmps13
    go_wp2_with fail
    refine (is_any _ _).mono ?_; rintro e w' ⟨rfl, rfl⟩
    rw [h]
    go_wp2_with fail
    go_region
    all_goals
      go_wp2_with fail
      refine bodyPost_ret (v := T0 c o s) (by simp [results, Try.results13, go_sem, T0, th]) rfl ⟨rfl, ?_⟩
      exact (((Kp.rfl W).new _).new _).draws _
  · by_cases h1 : op = 16
    · subst h1; exact one_at_16 a c o s w h W
    by_cases h2 : op = 17
    · subst h2; exact one_at_17 a c o s w h W
    by_cases h3 : op = 18
    · subst h3; exact one_at_18 a c o s w ha h W
    by_cases h4 : op = 19
    · subst h4; exact one_at_19 a c o s w h W
    rw [one_other op a c o s w ⟨h1, h2, h3, h4⟩]
    have e1 : (op == 16) = false := by simpa using h1
    have e2 : (op == 17) = false := by simpa using h2
    have e3 : (op == 18) = false := by simpa using h3
    have e4 : (op == 19) = false := by simpa using h4
    clear h1 h2 h3 h4
    unfold th
    go_enter Try.func13, Try.ntmps13
    go_wp2_with fail
    refine (is_any _ _).mono ?_; rintro e w' ⟨rfl, rfl⟩
    rw [h]
    go_wp2_with fail
    go_region
    all_goals
      go_wp2_with fail
      refine bodyPost_ret (v := T0 c o s) (by simp [results, Try.results13, go_sem, T0, th]) rfl ⟨rfl, ?_⟩
      exact (((Kp.rfl W).new _).new _).draws _
theorem rone_at_18 (a : Int) (c o : Bool) (s w : Int) (ha : U64 a) (h : isW w = true) (W : World) : Calls Try.prog 14 #[.int .i64 18, .int .u64 a, th c o s, .int .i64 w] W fun e W' => e = .returned (oneR 18 a c o s w) ∧ Kp W W' := by
  rw [one_18 a c o s w h]
  have HN : Hid (IntKind.u64.wrap (18446744073709551615 - a) = 18446744073709551615 - a) := Lib.hid (Cq.wrap_of_u64 (by unfold U64 at *; omega))
  unfold th
  go_enter Try.func14, Try.ntmps14
  go_wp2_with fail
  refine (ris_any _ _).mono ?_; rintro e w' ⟨rfl, rfl⟩
  rw [h]
  go_wp2_with fail
  refine (word_18 _).mono ?_; rintro e w' ⟨rfl, rfl⟩
  go_wp2_with fail
  go_region_with ((go_at_call 34; refine (rzx_any _ _ (Cq.u64_wrap _) _).mono ?_; rintro e w' ⟨rfl, rfl⟩))
  all_goals
    go_wp2_with fail
    refine bodyPost_ret (v := .tuple #[.int .u64 (zx (IntKind.u64.wrap (18446744073709551615 - a)) w), th c o s]) (by simp [results, Try.results14, go_sem, th]) rfl ⟨by rw [HN.out]; rfl, ?_⟩
    exact ((((Kp.rfl W).new _).new _).new _).draws _
theorem rone_at_19 (a : Int) (c o : Bool) (s w : Int) (ha : U64 a) (h : isW w = true) (W : World) : Calls Try.prog 14 #[.int .i64 19, .int .u64 a, th c o s, .int .i64 w] W fun e W' => e = .returned (oneR 19 a c o s w) ∧ Kp W W' := by
  rw [one_19 a c o s w h]
  have HZ := Lib.hid (Cq.zx_lessV 0 a false w)
  unfold th
  go_enter Try.func14, Try.ntmps14
  go_wp2_with fail
  refine (ris_any _ _).mono ?_; rintro e w' ⟨rfl, rfl⟩
  rw [h]
  go_wp2_with fail
  refine (word_19 _).mono ?_; rintro e w' ⟨rfl, rfl⟩
  go_wp2_with fail
  refine (rless_any _ _ _ _ u64_0 ha _).mono ?_; rintro e w' ⟨rfl, rfl⟩
  go_wp2_with fail
  refine (rof_any _ _ _ _ (Cq.lessV_u64 _ _ _ _) _).mono ?_; rintro e w' ⟨rfl, rfl⟩
  rw [HZ.out]
  unfold th
  go_wp2_with fail
  refine bodyPost_ret (v := T (lessV 0 a false w) (lessC 0 a false w) (lessO 0 a false w) w) (by simp [results, Try.results14, go_sem, T, th]) rfl ⟨rfl, ?_⟩
  exact ((((Kp.rfl W).new _).new _).new _).new _
theorem rone_at_16 (a : Int) (c o : Bool) (s w : Int) (ha : U64 a) (h : isW w = true) (W : World) : Calls Try.prog 14 #[.int .i64 16, .int .u64 a, th c o s, .int .i64 w] W fun e W' => e = .returned (oneR 16 a c o s w) ∧ Kp W W' := by
  rw [one_16 a c o s w h]
  have HZ := Lib.hid (Cq.zx_sumV a 1 false w)
  unfold th
  go_enter Try.func14, Try.ntmps14
  go_wp2_with fail
  refine (ris_any _ _).mono ?_; rintro e w' ⟨rfl, rfl⟩
  rw [h]
  go_wp2_with fail
  refine (word_16 _).mono ?_; rintro e w' ⟨rfl, rfl⟩
  go_wp2_with fail
  refine (rsum_any _ _ _ _ ha u64_1 _).mono ?_; rintro e w' ⟨rfl, rfl⟩
  go_wp2_with fail
  refine (rof_any _ _ _ _ (Cq.sumV_u64 _ _ _ _) _).mono ?_; rintro e w' ⟨rfl, rfl⟩
  rw [HZ.out]
  unfold th
  go_wp2_with fail
  refine bodyPost_ret (v := T (sumV a 1 false w) c (sumO a 1 false w) w) (by simp [results, Try.results14, go_sem, T, th]) rfl ⟨rfl, ?_⟩
  exact ((((Kp.rfl W).new _).new _).new _).new _
theorem rone_at_17 (a : Int) (c o : Bool) (s w : Int) (ha : U64 a) (h : isW w = true) (W : World) : Calls Try.prog 14 #[.int .i64 17, .int .u64 a, th c o s, .int .i64 w] W fun e W' => e = .returned (oneR 17 a c o s w) ∧ Kp W W' := by
  rw [one_17 a c o s w h]
  have HZ := Lib.hid (Cq.zx_lessV a 1 false w)
  unfold th
  go_enter Try.func14, Try.ntmps14
  go_wp2_with fail
  refine (ris_any _ _).mono ?_; rintro e w' ⟨rfl, rfl⟩
  rw [h]
  go_wp2_with fail
  refine (word_17 _).mono ?_; rintro e w' ⟨rfl, rfl⟩
  go_wp2_with fail
  refine (rless_any _ _ _ _ ha u64_1 _).mono ?_; rintro e w' ⟨rfl, rfl⟩
  go_wp2_with fail
  refine (rof_any _ _ _ _ (Cq.lessV_u64 _ _ _ _) _).mono ?_; rintro e w' ⟨rfl, rfl⟩
  rw [HZ.out]
  unfold th
  go_wp2_with fail
  refine bodyPost_ret (v := T (lessV a 1 false w) c (lessO a 1 false w) w) (by simp [results, Try.results14, go_sem, T, th]) rfl ⟨rfl, ?_⟩
  exact ((((Kp.rfl W).new _).new _).new _).new _
set_option maxRecDepth 100000 in
theorem rone_any' (op a : Int) (c o : Bool) (s w : Int) (ha : U64 a) (W : World) : Calls Try.prog 14 #[.int .i64 op, .int .u64 a, th c o s, .int .i64 w] W fun e W' => e = .returned (oneR op a c o s w) ∧ Kp W W' := by
  cases h : isW w
  · rw [one_bad op a c o s w h]
    unfold th
    go_enter Try.func14, Try.ntmps14
    go_wp2_with fail
    refine (ris_any _ _).mono ?_; rintro e w' ⟨rfl, rfl⟩
    rw [h]
    go_wp2_with fail
    go_region
    all_goals
      go_wp2_with fail
      refine bodyPost_ret (v := T0 c o s) (by simp [results, Try.results14, go_sem, T0, th]) rfl ⟨rfl, ?_⟩
      exact (((Kp.rfl W).new _).new _).draws _
  · by_cases h1 : op = 16
    · subst h1; exact rone_at_16 a c o s w ha h W
    by_cases h2 : op = 17
    · subst h2; exact rone_at_17 a c o s w ha h W
    by_cases h3 : op = 18
    · subst h3; exact rone_at_18 a c o s w ha h W
    by_cases h4 : op = 19
    · subst h4; exact rone_at_19 a c o s w ha h W
    rw [one_other op a c o s w ⟨h1, h2, h3, h4⟩]
    by_cases hr : op < 1 ∨ 47 < op
    · unfold th
      go_enter Try.func14, Try.ntmps14
      go_wp2_with fail
      refine (ris_any _ _).mono ?_; rintro e w' ⟨rfl, rfl⟩
      rw [h]
      go_wp2_with fail
      refine (word_out _ hr _).mono ?_; rintro e w' ⟨rfl, rfl⟩
      rw [show str [] = .string ⟨#[]⟩ from rfl]
      go_wp2_with fail
      go_region
      all_goals
        go_wp2_with fail
        refine bodyPost_ret (v := T0 c o s) (by simp [results, Try.results14, go_sem, T0, th]) rfl ⟨rfl, ?_⟩
        exact (((Kp.rfl W).new _).new _).draws _
    · obtain ⟨n, rfl⟩ : ∃ n : Nat, op = n := ⟨op.toNat, by omega⟩
      have hW := fun W => word_in n (by omega) (by omega) W
      have hx := far_one n (by omega) (by omega)
      generalize tab.getD n [] = x at *
      have HW := Lib.hid hW
      clear hW h1 h2 h3 h4 hr
      unfold str at HW
      obtain ⟨x1, x2, x3, x4⟩ := hx
      unfold th
      go_enter Try.func14, Try.ntmps14
      go_wp2_with fail
      refine (ris_any _ _).mono ?_; rintro e w' ⟨rfl, rfl⟩
      rw [h]
      go_wp2_with fail
      refine (HW.out _).mono ?_; rintro e w' ⟨rfl, rfl⟩
      go_wp2_with fail
      go_region
      all_goals
        go_wp2_with fail
        refine bodyPost_ret (v := T0 c o s) (by simp [results, Try.results14, go_sem, T0, th]) rfl ⟨rfl, ?_⟩
        exact ((((Kp.rfl W).new _).new _).new _).draws _
end Go.Proofs.Ytmebkahgdpnajaa
