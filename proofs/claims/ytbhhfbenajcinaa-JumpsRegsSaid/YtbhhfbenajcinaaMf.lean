import Derived.Test.YtbhhfbenajcinaaSXx
import Derived.KernelRfl
import Derived.Test.YtbhhfbenajcinaaMx
import Derived.Test.YtbhhfbenajcinaaMe0
import Derived.Test.YtbhhfbenajcinaaMe1
import Derived.Test.YtbhhfbenajcinaaMe2
import Derived.Test.YtbhhfbenajcinaaMe3
namespace Go.Proofs.Ytbhhfbenajcinaa
open Go Go.SX Go.Proofs
theorem mo_lo : evS cxI DMa 2000 (.not mayV) [] (varsE 20) [(.cmp .lss (.var 0) (.int .i64 1), true)] = true := by kernel_rfl
theorem mo_hi : evS cxI DMa 2000 (.not mayV) [] (varsE 20) [(.cmp .lss (.int .i64 47) (.var 0), true)] = true := by kernel_rfl
theorem reg_all (ρ : Nat → Value) (F : Fits ssI (symS syB) ρ phB) (hm : mayV.den (asV ρ phB (varsE 20)) phB = .bool true) : ∀ k, k < 32 → (CE 5 10 k).den (asV ρ phB (varsE 20)) phB = .bool true ∧ (CE 7 11 k).den (asV ρ phB (varsE 20)) phB = .bool true := by
  obtain ⟨m, h0, _⟩ := F.var 0
  have no : ∀ (fs : Facts), fs.hold ρ phB → evS cxI DMa 2000 (.not mayV) [] (varsE 20) fs = true → False := fun fs hf he => by
    have := evS_all (cx := cxI) F noCt dsDMa hf (by kernel_rfl) he
    simp only [E.den, hm] at this
    simp at this
  refine op_cases m (fun h => (no _ (fun p hp => by
    simp only [List.mem_singleton] at hp
    subst hp
    simp only [E.den, h0, icmp, vint_int]
    exact congrArg Value.bool (decide_eq_true h)) mo_lo).elim) (fun h => (no _ (fun p hp => by
    simp only [List.mem_singleton] at hp
    subst hp
    simp only [E.den, h0, icmp, vint_int]
    exact congrArg Value.bool (decide_eq_true h)) mo_hi).elim)
    (fun h k hk => ⟨reg_sound F (op := 1) (h0.trans (by rw [h]; rfl)) hm sh_1 rw_1 k hk, reg_sound F (op := 1) (h0.trans (by rw [h]; rfl)) hm sh_1 rr_1 k hk⟩)
    (fun h k hk => ⟨reg_sound F (op := 2) (h0.trans (by rw [h]; rfl)) hm sh_2 rw_2 k hk, reg_sound F (op := 2) (h0.trans (by rw [h]; rfl)) hm sh_2 rr_2 k hk⟩)
    (fun h k hk => ⟨reg_sound F (op := 3) (h0.trans (by rw [h]; rfl)) hm sh_3 rw_3 k hk, reg_sound F (op := 3) (h0.trans (by rw [h]; rfl)) hm sh_3 rr_3 k hk⟩)
    (fun h k hk => ⟨reg_sound F (op := 4) (h0.trans (by rw [h]; rfl)) hm sh_4 rw_4 k hk, reg_sound F (op := 4) (h0.trans (by rw [h]; rfl)) hm sh_4 rr_4 k hk⟩)
    (fun h k hk => ⟨reg_sound F (op := 5) (h0.trans (by rw [h]; rfl)) hm sh_5 rw_5 k hk, reg_sound F (op := 5) (h0.trans (by rw [h]; rfl)) hm sh_5 rr_5 k hk⟩)
    (fun h k hk => ⟨reg_sound F (op := 6) (h0.trans (by rw [h]; rfl)) hm sh_6 rw_6 k hk, reg_sound F (op := 6) (h0.trans (by rw [h]; rfl)) hm sh_6 rr_6 k hk⟩)
    (fun h k hk => ⟨reg_sound F (op := 7) (h0.trans (by rw [h]; rfl)) hm sh_7 rw_7 k hk, reg_sound F (op := 7) (h0.trans (by rw [h]; rfl)) hm sh_7 rr_7 k hk⟩)
    (fun h k hk => ⟨reg_sound F (op := 8) (h0.trans (by rw [h]; rfl)) hm sh_8 rw_8 k hk, reg_sound F (op := 8) (h0.trans (by rw [h]; rfl)) hm sh_8 rr_8 k hk⟩)
    (fun h k hk => ⟨reg_sound F (op := 9) (h0.trans (by rw [h]; rfl)) hm sh_9 rw_9 k hk, reg_sound F (op := 9) (h0.trans (by rw [h]; rfl)) hm sh_9 rr_9 k hk⟩)
    (fun h k hk => ⟨reg_sound F (op := 10) (h0.trans (by rw [h]; rfl)) hm sh_10 rw_10 k hk, reg_sound F (op := 10) (h0.trans (by rw [h]; rfl)) hm sh_10 rr_10 k hk⟩)
    (fun h k hk => ⟨reg_sound F (op := 11) (h0.trans (by rw [h]; rfl)) hm sh_11 rw_11 k hk, reg_sound F (op := 11) (h0.trans (by rw [h]; rfl)) hm sh_11 rr_11 k hk⟩)
    (fun h k hk => ⟨reg_sound F (op := 12) (h0.trans (by rw [h]; rfl)) hm sh_12 rw_12 k hk, reg_sound F (op := 12) (h0.trans (by rw [h]; rfl)) hm sh_12 rr_12 k hk⟩)
    (fun h k hk => ⟨reg_sound F (op := 13) (h0.trans (by rw [h]; rfl)) hm sh_13 rw_13 k hk, reg_sound F (op := 13) (h0.trans (by rw [h]; rfl)) hm sh_13 rr_13 k hk⟩)
    (fun h k hk => ⟨reg_sound F (op := 14) (h0.trans (by rw [h]; rfl)) hm sh_14 rw_14 k hk, reg_sound F (op := 14) (h0.trans (by rw [h]; rfl)) hm sh_14 rr_14 k hk⟩)
    (fun h k hk => ⟨reg_sound F (op := 15) (h0.trans (by rw [h]; rfl)) hm sh_15 rw_15 k hk, reg_sound F (op := 15) (h0.trans (by rw [h]; rfl)) hm sh_15 rr_15 k hk⟩)
    (fun h k hk => ⟨reg_sound F (op := 16) (h0.trans (by rw [h]; rfl)) hm sh_16 rw_16 k hk, reg_sound F (op := 16) (h0.trans (by rw [h]; rfl)) hm sh_16 rr_16 k hk⟩)
    (fun h k hk => ⟨reg_sound F (op := 17) (h0.trans (by rw [h]; rfl)) hm sh_17 rw_17 k hk, reg_sound F (op := 17) (h0.trans (by rw [h]; rfl)) hm sh_17 rr_17 k hk⟩)
    (fun h k hk => ⟨reg_sound F (op := 18) (h0.trans (by rw [h]; rfl)) hm sh_18 rw_18 k hk, reg_sound F (op := 18) (h0.trans (by rw [h]; rfl)) hm sh_18 rr_18 k hk⟩)
    (fun h k hk => ⟨reg_sound F (op := 19) (h0.trans (by rw [h]; rfl)) hm sh_19 rw_19 k hk, reg_sound F (op := 19) (h0.trans (by rw [h]; rfl)) hm sh_19 rr_19 k hk⟩)
    (fun h k hk => ⟨reg_sound F (op := 20) (h0.trans (by rw [h]; rfl)) hm sh_20 rw_20 k hk, reg_sound F (op := 20) (h0.trans (by rw [h]; rfl)) hm sh_20 rr_20 k hk⟩)
    (fun h k hk => ⟨reg_sound F (op := 21) (h0.trans (by rw [h]; rfl)) hm sh_21 rw_21 k hk, reg_sound F (op := 21) (h0.trans (by rw [h]; rfl)) hm sh_21 rr_21 k hk⟩)
    (fun h k hk => ⟨reg_sound F (op := 22) (h0.trans (by rw [h]; rfl)) hm sh_22 rw_22 k hk, reg_sound F (op := 22) (h0.trans (by rw [h]; rfl)) hm sh_22 rr_22 k hk⟩)
    (fun h k hk => ⟨reg_sound F (op := 23) (h0.trans (by rw [h]; rfl)) hm sh_23 rw_23 k hk, reg_sound F (op := 23) (h0.trans (by rw [h]; rfl)) hm sh_23 rr_23 k hk⟩)
    (fun h k hk => ⟨reg_sound F (op := 24) (h0.trans (by rw [h]; rfl)) hm sh_24 rw_24 k hk, reg_sound F (op := 24) (h0.trans (by rw [h]; rfl)) hm sh_24 rr_24 k hk⟩)
    (fun h k hk => ⟨reg_sound F (op := 25) (h0.trans (by rw [h]; rfl)) hm sh_25 rw_25 k hk, reg_sound F (op := 25) (h0.trans (by rw [h]; rfl)) hm sh_25 rr_25 k hk⟩)
    (fun h k hk => ⟨reg_sound F (op := 26) (h0.trans (by rw [h]; rfl)) hm sh_26 rw_26 k hk, reg_sound F (op := 26) (h0.trans (by rw [h]; rfl)) hm sh_26 rr_26 k hk⟩)
    (fun h k hk => ⟨reg_sound F (op := 27) (h0.trans (by rw [h]; rfl)) hm sh_27 rw_27 k hk, reg_sound F (op := 27) (h0.trans (by rw [h]; rfl)) hm sh_27 rr_27 k hk⟩)
    (fun h k hk => ⟨reg_sound F (op := 28) (h0.trans (by rw [h]; rfl)) hm sh_28 rw_28 k hk, reg_sound F (op := 28) (h0.trans (by rw [h]; rfl)) hm sh_28 rr_28 k hk⟩)
    (fun h k hk => ⟨reg_sound F (op := 29) (h0.trans (by rw [h]; rfl)) hm sh_29 rw_29 k hk, reg_sound F (op := 29) (h0.trans (by rw [h]; rfl)) hm sh_29 rr_29 k hk⟩)
    (fun h k hk => ⟨reg_sound F (op := 30) (h0.trans (by rw [h]; rfl)) hm sh_30 rw_30 k hk, reg_sound F (op := 30) (h0.trans (by rw [h]; rfl)) hm sh_30 rr_30 k hk⟩)
    (fun h k hk => ⟨reg_sound F (op := 31) (h0.trans (by rw [h]; rfl)) hm sh_31 rw_31 k hk, reg_sound F (op := 31) (h0.trans (by rw [h]; rfl)) hm sh_31 rr_31 k hk⟩)
    (fun h k hk => ⟨reg_sound F (op := 32) (h0.trans (by rw [h]; rfl)) hm sh_32 rw_32 k hk, reg_sound F (op := 32) (h0.trans (by rw [h]; rfl)) hm sh_32 rr_32 k hk⟩)
    (fun h k hk => ⟨reg_sound F (op := 33) (h0.trans (by rw [h]; rfl)) hm sh_33 rw_33 k hk, reg_sound F (op := 33) (h0.trans (by rw [h]; rfl)) hm sh_33 rr_33 k hk⟩)
    (fun h k hk => ⟨reg_sound F (op := 34) (h0.trans (by rw [h]; rfl)) hm sh_34 rw_34 k hk, reg_sound F (op := 34) (h0.trans (by rw [h]; rfl)) hm sh_34 rr_34 k hk⟩)
    (fun h k hk => ⟨reg_sound F (op := 35) (h0.trans (by rw [h]; rfl)) hm sh_35 rw_35 k hk, reg_sound F (op := 35) (h0.trans (by rw [h]; rfl)) hm sh_35 rr_35 k hk⟩)
    (fun h k hk => ⟨reg_sound F (op := 36) (h0.trans (by rw [h]; rfl)) hm sh_36 rw_36 k hk, reg_sound F (op := 36) (h0.trans (by rw [h]; rfl)) hm sh_36 rr_36 k hk⟩)
    (fun h k hk => ⟨reg_sound F (op := 37) (h0.trans (by rw [h]; rfl)) hm sh_37 rw_37 k hk, reg_sound F (op := 37) (h0.trans (by rw [h]; rfl)) hm sh_37 rr_37 k hk⟩)
    (fun h k hk => ⟨reg_sound F (op := 38) (h0.trans (by rw [h]; rfl)) hm sh_38 rw_38 k hk, reg_sound F (op := 38) (h0.trans (by rw [h]; rfl)) hm sh_38 rr_38 k hk⟩)
    (fun h k hk => ⟨reg_sound F (op := 39) (h0.trans (by rw [h]; rfl)) hm sh_39 rw_39 k hk, reg_sound F (op := 39) (h0.trans (by rw [h]; rfl)) hm sh_39 rr_39 k hk⟩)
    (fun h k hk => ⟨reg_sound F (op := 40) (h0.trans (by rw [h]; rfl)) hm sh_40 rw_40 k hk, reg_sound F (op := 40) (h0.trans (by rw [h]; rfl)) hm sh_40 rr_40 k hk⟩)
    (fun h k hk => ⟨reg_sound F (op := 41) (h0.trans (by rw [h]; rfl)) hm sh_41 rw_41 k hk, reg_sound F (op := 41) (h0.trans (by rw [h]; rfl)) hm sh_41 rr_41 k hk⟩)
    (fun h k hk => ⟨reg_sound F (op := 42) (h0.trans (by rw [h]; rfl)) hm sh_42 rw_42 k hk, reg_sound F (op := 42) (h0.trans (by rw [h]; rfl)) hm sh_42 rr_42 k hk⟩)
    (fun h k hk => ⟨reg_sound F (op := 43) (h0.trans (by rw [h]; rfl)) hm sh_43 rw_43 k hk, reg_sound F (op := 43) (h0.trans (by rw [h]; rfl)) hm sh_43 rr_43 k hk⟩)
    (fun h k hk => ⟨reg_sound F (op := 44) (h0.trans (by rw [h]; rfl)) hm sh_44 rw_44 k hk, reg_sound F (op := 44) (h0.trans (by rw [h]; rfl)) hm sh_44 rr_44 k hk⟩)
    (fun h k hk => ⟨reg_sound F (op := 45) (h0.trans (by rw [h]; rfl)) hm sh_45 rw_45 k hk, reg_sound F (op := 45) (h0.trans (by rw [h]; rfl)) hm sh_45 rr_45 k hk⟩)
    (fun h k hk => ⟨reg_sound F (op := 46) (h0.trans (by rw [h]; rfl)) hm sh_46 rw_46 k hk, reg_sound F (op := 46) (h0.trans (by rw [h]; rfl)) hm sh_46 rr_46 k hk⟩)
    (fun h k hk => ⟨reg_sound F (op := 47) (h0.trans (by rw [h]; rfl)) hm sh_47 rw_47 k hk, reg_sound F (op := 47) (h0.trans (by rw [h]; rfl)) hm sh_47 rr_47 k hk⟩)
theorem z5 : evS cxI DC 1000 (.cmp .eql (.app 5 0 (toL (varsE 20))) (.int .u32 (.ofNat 0))) [] (varsE 20) [(mayV, false)] = true := by kernel_rfl
theorem z7 : evS cxI DC 1000 (.cmp .eql (.app 7 0 (toL (varsE 20))) (.int .u32 (.ofNat 0))) [] (varsE 20) [(mayV, false)] = true := by kernel_rfl

theorem aw : evS cxI D9 3000 awE [] (varsE 20) [] = true := by kernel_rfl

end Go.Proofs.Ytbhhfbenajcinaa
