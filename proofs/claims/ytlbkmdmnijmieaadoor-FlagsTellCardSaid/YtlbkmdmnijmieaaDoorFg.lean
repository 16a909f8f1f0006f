/- Walks of layer 8: conditions. -/
import Derived.Test.YtlbkmdmnijmieaaDoorFd
import Derived.Test.YtlbkmdmnijmieaaDoorFe
import Derived.Deep.RegionWith
namespace Go.Proofs.YtlbkmdmnijmieaaDoor
open Go Go.RowKit
open Cq (U64 I64 isW nb zx sx neg mask)

attribute [local irreducible] wpList Code.wp
theorem zero_any (c o : Bool) (s : Int) (W : World) : Calls Tryd.prog 5 #[.agg #[.bool c, .bool o, .int .u64 s]] W fun e W' => e = .returned (.bool (s == 0)) ∧ W' = W.alloc (.cells #[.bool c, .bool o, .int .u64 s] 25) := by
  go_enter Tryd.func5, Tryd.ntmps5
  go_wp2_with fail
  go_ret
  exact ⟨rfl, rfl⟩
theorem even_th (c o : Bool) (s : Int) (hs : U64 s) (W : World) : Calls Tryd.prog 9 #[.agg #[.bool c, .bool o, .int .u64 s]] W fun e W' => e = .returned (.bool (even s)) ∧ W' = W.alloc (.cells #[.bool c, .bool o, .int .u64 s] 25) := by
  go_enter Tryd.func9, Tryd.ntmps9
  go_wp2_with fail
  refine (even_any _ hs _).mono ?_; rintro e w' ⟨rfl, rfl⟩
  go_wp2_with fail
  go_ret
  exact ⟨rfl, rfl⟩
/-- the first condition of a pair -/
def hold (p : Int) (c o : Bool) (s : Int) : Bool :=
  if p = 0 then o else if p = 1 then c else if p = 2 then s == 0 else if p = 3 then c || s == 0 else if p = 4 then neg s 8 else if p = 5 then even s else if p = 6 then neg s 8 != o else s == 0 || (neg s 8 != o)
/-- a condition -/
def cond (cc : Int) (c o : Bool) (s : Int) : Bool := if cc < 0 ∨ 15 < cc then false else hold (cc / 2) c o s != (cc % 2 == 1)
theorem holds_0 (c o : Bool) (s : Int) (hs : U64 s) (W : World) : Calls Tryd.prog 19 #[.agg #[.bool c, .bool o, .int .u64 s], .int .i64 0] W fun e W' => e = .returned (.bool o) ∧ Kp W W' := by
  obtain ⟨n, hn⟩ : ∃ n, n = neg s 8 := ⟨_, rfl⟩
  have HN := Lib.hid hn.symm
  skip
  clear hn
  go_enter Tryd.func19, Tryd.ntmps19
  go_wp2_with fail
  go_region_with ((go_at_call 7; refine (sign_any _ _ _ hs _).mono ?_; rintro e w' ⟨rfl, rfl⟩))
  all_goals
    rw [HN.out]
    go_wp2_with fail
    go_ret
    refine ⟨rfl, ?_⟩
    repeat (first | with_reducible exact Kp.rfl _ | with_reducible refine Kp.new ?_ _ | with_reducible refine Kp.draws ?_ _ | with_reducible refine Kp.draw ?_)
theorem holds_1 (c o : Bool) (s : Int) (hs : U64 s) (W : World) : Calls Tryd.prog 19 #[.agg #[.bool c, .bool o, .int .u64 s], .int .i64 1] W fun e W' => e = .returned (.bool c) ∧ Kp W W' := by
  obtain ⟨n, hn⟩ : ∃ n, n = neg s 8 := ⟨_, rfl⟩
  have HN := Lib.hid hn.symm
  skip
  clear hn
  go_enter Tryd.func19, Tryd.ntmps19
  go_wp2_with fail
  go_region_with ((go_at_call 7; refine (sign_any _ _ _ hs _).mono ?_; rintro e w' ⟨rfl, rfl⟩))
  all_goals
    rw [HN.out]
    go_wp2_with fail
    go_ret
    refine ⟨rfl, ?_⟩
    repeat (first | with_reducible exact Kp.rfl _ | with_reducible refine Kp.new ?_ _ | with_reducible refine Kp.draws ?_ _ | with_reducible refine Kp.draw ?_)
theorem holds_2 (c o : Bool) (s : Int) (hs : U64 s) (W : World) : Calls Tryd.prog 19 #[.agg #[.bool c, .bool o, .int .u64 s], .int .i64 2] W fun e W' => e = .returned (.bool (s == 0)) ∧ Kp W W' := by
  obtain ⟨n, hn⟩ : ∃ n, n = neg s 8 := ⟨_, rfl⟩
  have HN := Lib.hid hn.symm
  skip
  clear hn
  go_enter Tryd.func19, Tryd.ntmps19
  go_wp2_with fail
  go_region_with ((go_at_call 7; refine (sign_any _ _ _ hs _).mono ?_; rintro e w' ⟨rfl, rfl⟩))
  all_goals
    rw [HN.out]
    go_wp2_with fail
    refine (zero_any _ _ _ _).mono ?_; rintro e w' ⟨rfl, rfl⟩
    go_wp2_with fail
    go_ret
    refine ⟨rfl, ?_⟩
    repeat (first | with_reducible exact Kp.rfl _ | with_reducible refine Kp.new ?_ _ | with_reducible refine Kp.draws ?_ _ | with_reducible refine Kp.draw ?_)
set_option maxHeartbeats 1000000 in
theorem holds_3 (c o : Bool) (s : Int) (hs : U64 s) (W : World) : Calls Tryd.prog 19 #[.agg #[.bool c, .bool o, .int .u64 s], .int .i64 3] W fun e W' => e = .returned (.bool (c || s == 0)) ∧ Kp W W' := by
  obtain ⟨n, hn⟩ : ∃ n, n = neg s 8 := ⟨_, rfl⟩
  have HN := Lib.hid hn.symm
  skip
  clear hn
  obtain ⟨z, hz⟩ : ∃ z, z = (s == 0) := ⟨_, rfl⟩
  have HZ := Lib.hid hz.symm
  rw [← hz]
  clear hz
  cases c
  · go_enter Tryd.func19, Tryd.ntmps19
    go_wp2_with fail
    go_region_with ((go_at_call 7; refine (sign_any _ _ _ hs _).mono ?_; rintro e w' ⟨rfl, rfl⟩))
    all_goals
      rw [HN.out]
      go_wp2_with fail
      refine (zero_any _ _ _ _).mono ?_; rintro e w' ⟨rfl, rfl⟩
      rw [HZ.out]
      go_wp2_with fail
      go_ret
      refine ⟨by simp, ?_⟩
      repeat (first | with_reducible exact Kp.rfl _ | with_reducible refine Kp.new ?_ _ | with_reducible refine Kp.draws ?_ _ | with_reducible refine Kp.draw ?_)
  · go_enter Tryd.func19, Tryd.ntmps19
    go_wp2_with fail
    go_region_with ((go_at_call 7; refine (sign_any _ _ _ hs _).mono ?_; rintro e w' ⟨rfl, rfl⟩))
    all_goals
      rw [HN.out]
      go_wp2_with fail
      go_ret
      refine ⟨by simp, ?_⟩
      repeat (first | with_reducible exact Kp.rfl _ | with_reducible refine Kp.new ?_ _ | with_reducible refine Kp.draws ?_ _ | with_reducible refine Kp.draw ?_)
theorem holds_4 (c o : Bool) (s : Int) (hs : U64 s) (W : World) : Calls Tryd.prog 19 #[.agg #[.bool c, .bool o, .int .u64 s], .int .i64 4] W fun e W' => e = .returned (.bool (neg s 8)) ∧ Kp W W' := by
  obtain ⟨n, hn⟩ : ∃ n, n = neg s 8 := ⟨_, rfl⟩
  have HN := Lib.hid hn.symm
  rw [← hn]
  clear hn
  go_enter Tryd.func19, Tryd.ntmps19
  go_wp2_with fail
  go_region_with ((go_at_call 7; refine (sign_any _ _ _ hs _).mono ?_; rintro e w' ⟨rfl, rfl⟩))
  all_goals
    rw [HN.out]
    go_wp2_with fail
    refine (sign_any _ _ _ hs _).mono ?_; rintro e w' ⟨rfl, rfl⟩
    rw [HN.out]
    go_wp2_with fail
    go_ret
    refine ⟨rfl, ?_⟩
    repeat (first | with_reducible exact Kp.rfl _ | with_reducible refine Kp.new ?_ _ | with_reducible refine Kp.draws ?_ _ | with_reducible refine Kp.draw ?_)
theorem holds_5 (c o : Bool) (s : Int) (hs : U64 s) (W : World) : Calls Tryd.prog 19 #[.agg #[.bool c, .bool o, .int .u64 s], .int .i64 5] W fun e W' => e = .returned (.bool (even s)) ∧ Kp W W' := by
  obtain ⟨n, hn⟩ : ∃ n, n = neg s 8 := ⟨_, rfl⟩
  have HN := Lib.hid hn.symm
  skip
  clear hn
  go_enter Tryd.func19, Tryd.ntmps19
  go_wp2_with fail
  go_region_with ((go_at_call 7; refine (sign_any _ _ _ hs _).mono ?_; rintro e w' ⟨rfl, rfl⟩))
  all_goals
    rw [HN.out]
    go_wp2_with fail
    refine (even_th _ _ _ hs _).mono ?_; rintro e w' ⟨rfl, rfl⟩
    go_wp2_with fail
    go_ret
    refine ⟨rfl, ?_⟩
    repeat (first | with_reducible exact Kp.rfl _ | with_reducible refine Kp.new ?_ _ | with_reducible refine Kp.draws ?_ _ | with_reducible refine Kp.draw ?_)
theorem holds_6 (c o : Bool) (s : Int) (hs : U64 s) (W : World) : Calls Tryd.prog 19 #[.agg #[.bool c, .bool o, .int .u64 s], .int .i64 6] W fun e W' => e = .returned (.bool (neg s 8 != o)) ∧ Kp W W' := by
  obtain ⟨n, hn⟩ : ∃ n, n = neg s 8 := ⟨_, rfl⟩
  have HN := Lib.hid hn.symm
  rw [← hn]
  clear hn
  go_enter Tryd.func19, Tryd.ntmps19
  go_wp2_with fail
  go_region_with ((go_at_call 7; refine (sign_any _ _ _ hs _).mono ?_; rintro e w' ⟨rfl, rfl⟩))
  all_goals
    rw [HN.out]
    go_wp2_with fail
    go_ret
    refine ⟨by simp [bne], ?_⟩
    repeat (first | with_reducible exact Kp.rfl _ | with_reducible refine Kp.new ?_ _ | with_reducible refine Kp.draws ?_ _ | with_reducible refine Kp.draw ?_)
set_option maxHeartbeats 1000000 in
theorem holds_7 (c o : Bool) (s : Int) (hs : U64 s) (W : World) : Calls Tryd.prog 19 #[.agg #[.bool c, .bool o, .int .u64 s], .int .i64 7] W fun e W' => e = .returned (.bool (s == 0 || (neg s 8 != o))) ∧ Kp W W' := by
  obtain ⟨n, hn⟩ : ∃ n, n = neg s 8 := ⟨_, rfl⟩
  have HN := Lib.hid hn.symm
  rw [← hn]
  clear hn
  obtain ⟨z, hz⟩ : ∃ z, z = (s == 0) := ⟨_, rfl⟩
  have HZ := Lib.hid hz.symm
  rw [← hz]
  clear hz
  cases z
  · go_enter Tryd.func19, Tryd.ntmps19
    go_wp2_with fail
    go_region_with ((go_at_call 7; refine (sign_any _ _ _ hs _).mono ?_; rintro e w' ⟨rfl, rfl⟩))
    all_goals
      rw [HN.out]
      go_wp2_with fail
      refine (zero_any _ _ _ _).mono ?_; rintro e w' ⟨rfl, rfl⟩
      rw [HZ.out]
      go_wp2_with fail
      go_ret
      refine ⟨by simp [bne], ?_⟩
      repeat (first | with_reducible exact Kp.rfl _ | with_reducible refine Kp.new ?_ _ | with_reducible refine Kp.draws ?_ _ | with_reducible refine Kp.draw ?_)
  · go_enter Tryd.func19, Tryd.ntmps19
    go_wp2_with fail
    go_region_with ((go_at_call 7; refine (sign_any _ _ _ hs _).mono ?_; rintro e w' ⟨rfl, rfl⟩))
    all_goals
      rw [HN.out]
      go_wp2_with fail
      refine (zero_any _ _ _ _).mono ?_; rintro e w' ⟨rfl, rfl⟩
      rw [HZ.out]
      go_wp2_with fail
      go_ret
      refine ⟨by simp [bne], ?_⟩
      repeat (first | with_reducible exact Kp.rfl _ | with_reducible refine Kp.new ?_ _ | with_reducible refine Kp.draws ?_ _ | with_reducible refine Kp.draw ?_)
theorem cond_at_0 (c o : Bool) (s : Int) (hs : U64 s) (W : World) : Calls Tryd.prog 13 #[.agg #[.bool c, .bool o, .int .u64 s], .int .i64 0] W fun e W' => e = .returned (.bool (o)) ∧ Kp W W' := by
  have h := fun W => holds_0 c o s hs W
  generalize o = v at *
  have H := Lib.hid h
  clear h
  go_enter Tryd.func13, Tryd.ntmps13
  go_wp2_with fail
  refine (H.out _).mono ?_; rintro e wa ⟨rfl, ka⟩
  replace ka := Lib.hid ka
  go_wp2_with fail
  go_ret
  exact ⟨by simp, ((Kp.rfl W).new _).next ka.out⟩
theorem cond_at_1 (c o : Bool) (s : Int) (hs : U64 s) (W : World) : Calls Tryd.prog 13 #[.agg #[.bool c, .bool o, .int .u64 s], .int .i64 1] W fun e W' => e = .returned (.bool (!o)) ∧ Kp W W' := by
  have h := fun W => holds_0 c o s hs W
  generalize o = v at *
  have H := Lib.hid h
  clear h
  go_enter Tryd.func13, Tryd.ntmps13
  go_wp2_with fail
  refine (H.out _).mono ?_; rintro e wa ⟨rfl, ka⟩
  replace ka := Lib.hid ka
  go_wp2_with fail
  go_ret
  exact ⟨by simp, ((Kp.rfl W).new _).next ka.out⟩
theorem cond_at_2 (c o : Bool) (s : Int) (hs : U64 s) (W : World) : Calls Tryd.prog 13 #[.agg #[.bool c, .bool o, .int .u64 s], .int .i64 2] W fun e W' => e = .returned (.bool (c)) ∧ Kp W W' := by
  have h := fun W => holds_1 c o s hs W
  generalize c = v at *
  have H := Lib.hid h
  clear h
  go_enter Tryd.func13, Tryd.ntmps13
  go_wp2_with fail
  refine (H.out _).mono ?_; rintro e wa ⟨rfl, ka⟩
  replace ka := Lib.hid ka
  go_wp2_with fail
  go_ret
  exact ⟨by simp, ((Kp.rfl W).new _).next ka.out⟩
theorem cond_at_3 (c o : Bool) (s : Int) (hs : U64 s) (W : World) : Calls Tryd.prog 13 #[.agg #[.bool c, .bool o, .int .u64 s], .int .i64 3] W fun e W' => e = .returned (.bool (!c)) ∧ Kp W W' := by
  have h := fun W => holds_1 c o s hs W
  generalize c = v at *
  have H := Lib.hid h
  clear h
  go_enter Tryd.func13, Tryd.ntmps13
  go_wp2_with fail
  refine (H.out _).mono ?_; rintro e wa ⟨rfl, ka⟩
  replace ka := Lib.hid ka
  go_wp2_with fail
  go_ret
  exact ⟨by simp, ((Kp.rfl W).new _).next ka.out⟩
theorem cond_at_4 (c o : Bool) (s : Int) (hs : U64 s) (W : World) : Calls Tryd.prog 13 #[.agg #[.bool c, .bool o, .int .u64 s], .int .i64 4] W fun e W' => e = .returned (.bool ((s == 0))) ∧ Kp W W' := by
  have h := fun W => holds_2 c o s hs W
  generalize (s == 0) = v at *
  have H := Lib.hid h
  clear h
  go_enter Tryd.func13, Tryd.ntmps13
  go_wp2_with fail
  refine (H.out _).mono ?_; rintro e wa ⟨rfl, ka⟩
  replace ka := Lib.hid ka
  go_wp2_with fail
  go_ret
  exact ⟨by simp, ((Kp.rfl W).new _).next ka.out⟩
theorem cond_at_5 (c o : Bool) (s : Int) (hs : U64 s) (W : World) : Calls Tryd.prog 13 #[.agg #[.bool c, .bool o, .int .u64 s], .int .i64 5] W fun e W' => e = .returned (.bool (!(s == 0))) ∧ Kp W W' := by
  have h := fun W => holds_2 c o s hs W
  generalize (s == 0) = v at *
  have H := Lib.hid h
  clear h
  go_enter Tryd.func13, Tryd.ntmps13
  go_wp2_with fail
  refine (H.out _).mono ?_; rintro e wa ⟨rfl, ka⟩
  replace ka := Lib.hid ka
  go_wp2_with fail
  go_ret
  exact ⟨by simp, ((Kp.rfl W).new _).next ka.out⟩
theorem cond_at_6 (c o : Bool) (s : Int) (hs : U64 s) (W : World) : Calls Tryd.prog 13 #[.agg #[.bool c, .bool o, .int .u64 s], .int .i64 6] W fun e W' => e = .returned (.bool ((c || s == 0))) ∧ Kp W W' := by
  have h := fun W => holds_3 c o s hs W
  generalize (c || s == 0) = v at *
  have H := Lib.hid h
  clear h
  go_enter Tryd.func13, Tryd.ntmps13
  go_wp2_with fail
  refine (H.out _).mono ?_; rintro e wa ⟨rfl, ka⟩
  replace ka := Lib.hid ka
  go_wp2_with fail
  go_ret
  exact ⟨by simp, ((Kp.rfl W).new _).next ka.out⟩
theorem cond_at_7 (c o : Bool) (s : Int) (hs : U64 s) (W : World) : Calls Tryd.prog 13 #[.agg #[.bool c, .bool o, .int .u64 s], .int .i64 7] W fun e W' => e = .returned (.bool (!(c || s == 0))) ∧ Kp W W' := by
  have h := fun W => holds_3 c o s hs W
  generalize (c || s == 0) = v at *
  have H := Lib.hid h
  clear h
  go_enter Tryd.func13, Tryd.ntmps13
  go_wp2_with fail
  refine (H.out _).mono ?_; rintro e wa ⟨rfl, ka⟩
  replace ka := Lib.hid ka
  go_wp2_with fail
  go_ret
  exact ⟨by simp, ((Kp.rfl W).new _).next ka.out⟩
theorem cond_at_8 (c o : Bool) (s : Int) (hs : U64 s) (W : World) : Calls Tryd.prog 13 #[.agg #[.bool c, .bool o, .int .u64 s], .int .i64 8] W fun e W' => e = .returned (.bool ((neg s 8))) ∧ Kp W W' := by
  have h := fun W => holds_4 c o s hs W
  generalize (neg s 8) = v at *
  have H := Lib.hid h
  clear h
  go_enter Tryd.func13, Tryd.ntmps13
  go_wp2_with fail
  refine (H.out _).mono ?_; rintro e wa ⟨rfl, ka⟩
  replace ka := Lib.hid ka
  go_wp2_with fail
  go_ret
  exact ⟨by simp, ((Kp.rfl W).new _).next ka.out⟩
theorem cond_at_9 (c o : Bool) (s : Int) (hs : U64 s) (W : World) : Calls Tryd.prog 13 #[.agg #[.bool c, .bool o, .int .u64 s], .int .i64 9] W fun e W' => e = .returned (.bool (!(neg s 8))) ∧ Kp W W' := by
  have h := fun W => holds_4 c o s hs W
  generalize (neg s 8) = v at *
  have H := Lib.hid h
  clear h
  go_enter Tryd.func13, Tryd.ntmps13
  go_wp2_with fail
  refine (H.out _).mono ?_; rintro e wa ⟨rfl, ka⟩
  replace ka := Lib.hid ka
  go_wp2_with fail
  go_ret
  exact ⟨by simp, ((Kp.rfl W).new _).next ka.out⟩
theorem cond_at_10 (c o : Bool) (s : Int) (hs : U64 s) (W : World) : Calls Tryd.prog 13 #[.agg #[.bool c, .bool o, .int .u64 s], .int .i64 10] W fun e W' => e = .returned (.bool ((even s))) ∧ Kp W W' := by
  have h := fun W => holds_5 c o s hs W
  generalize (even s) = v at *
  have H := Lib.hid h
  clear h
  go_enter Tryd.func13, Tryd.ntmps13
  go_wp2_with fail
  refine (H.out _).mono ?_; rintro e wa ⟨rfl, ka⟩
  replace ka := Lib.hid ka
  go_wp2_with fail
  go_ret
  exact ⟨by simp, ((Kp.rfl W).new _).next ka.out⟩
theorem cond_at_11 (c o : Bool) (s : Int) (hs : U64 s) (W : World) : Calls Tryd.prog 13 #[.agg #[.bool c, .bool o, .int .u64 s], .int .i64 11] W fun e W' => e = .returned (.bool (!(even s))) ∧ Kp W W' := by
  have h := fun W => holds_5 c o s hs W
  generalize (even s) = v at *
  have H := Lib.hid h
  clear h
  go_enter Tryd.func13, Tryd.ntmps13
  go_wp2_with fail
  refine (H.out _).mono ?_; rintro e wa ⟨rfl, ka⟩
  replace ka := Lib.hid ka
  go_wp2_with fail
  go_ret
  exact ⟨by simp, ((Kp.rfl W).new _).next ka.out⟩
theorem cond_at_12 (c o : Bool) (s : Int) (hs : U64 s) (W : World) : Calls Tryd.prog 13 #[.agg #[.bool c, .bool o, .int .u64 s], .int .i64 12] W fun e W' => e = .returned (.bool ((neg s 8 != o))) ∧ Kp W W' := by
  have h := fun W => holds_6 c o s hs W
  generalize (neg s 8 != o) = v at *
  have H := Lib.hid h
  clear h
  go_enter Tryd.func13, Tryd.ntmps13
  go_wp2_with fail
  refine (H.out _).mono ?_; rintro e wa ⟨rfl, ka⟩
  replace ka := Lib.hid ka
  go_wp2_with fail
  go_ret
  exact ⟨by simp, ((Kp.rfl W).new _).next ka.out⟩
theorem cond_at_13 (c o : Bool) (s : Int) (hs : U64 s) (W : World) : Calls Tryd.prog 13 #[.agg #[.bool c, .bool o, .int .u64 s], .int .i64 13] W fun e W' => e = .returned (.bool (!(neg s 8 != o))) ∧ Kp W W' := by
  have h := fun W => holds_6 c o s hs W
  generalize (neg s 8 != o) = v at *
  have H := Lib.hid h
  clear h
  go_enter Tryd.func13, Tryd.ntmps13
  go_wp2_with fail
  refine (H.out _).mono ?_; rintro e wa ⟨rfl, ka⟩
  replace ka := Lib.hid ka
  go_wp2_with fail
  go_ret
  exact ⟨by simp, ((Kp.rfl W).new _).next ka.out⟩
theorem cond_at_14 (c o : Bool) (s : Int) (hs : U64 s) (W : World) : Calls Tryd.prog 13 #[.agg #[.bool c, .bool o, .int .u64 s], .int .i64 14] W fun e W' => e = .returned (.bool ((s == 0 || (neg s 8 != o)))) ∧ Kp W W' := by
  have h := fun W => holds_7 c o s hs W
  generalize (s == 0 || (neg s 8 != o)) = v at *
  have H := Lib.hid h
  clear h
  go_enter Tryd.func13, Tryd.ntmps13
  go_wp2_with fail
  refine (H.out _).mono ?_; rintro e wa ⟨rfl, ka⟩
  replace ka := Lib.hid ka
  go_wp2_with fail
  go_ret
  exact ⟨by simp, ((Kp.rfl W).new _).next ka.out⟩
theorem cond_at_15 (c o : Bool) (s : Int) (hs : U64 s) (W : World) : Calls Tryd.prog 13 #[.agg #[.bool c, .bool o, .int .u64 s], .int .i64 15] W fun e W' => e = .returned (.bool (!(s == 0 || (neg s 8 != o)))) ∧ Kp W W' := by
  have h := fun W => holds_7 c o s hs W
  generalize (s == 0 || (neg s 8 != o)) = v at *
  have H := Lib.hid h
  clear h
  go_enter Tryd.func13, Tryd.ntmps13
  go_wp2_with fail
  refine (H.out _).mono ?_; rintro e wa ⟨rfl, ka⟩
  replace ka := Lib.hid ka
  go_wp2_with fail
  go_ret
  exact ⟨by simp, ((Kp.rfl W).new _).next ka.out⟩
theorem cond_out (c o : Bool) (s cc : Int) (h : cc < 0 ∨ 15 < cc) (W : World) : Calls Tryd.prog 13 #[.agg #[.bool c, .bool o, .int .u64 s], .int .i64 cc] W fun e W' => e = .returned (.bool false) ∧ Kp W W' := by
  by_cases h1 : cc < 0
  · go_enter Tryd.func13, Tryd.ntmps13
    go_wp2_with fail
    go_ret
    exact ⟨rfl, (Kp.rfl W).new _⟩
  · have h2 : 15 < cc := by omega
    have h1' := Int.not_lt.mp h1
    clear h h1
    go_enter Tryd.func13, Tryd.ntmps13
    go_wp2_with fail
    go_ret
    exact ⟨rfl, (Kp.rfl W).new _⟩
end Go.Proofs.YtlbkmdmnijmieaaDoor
