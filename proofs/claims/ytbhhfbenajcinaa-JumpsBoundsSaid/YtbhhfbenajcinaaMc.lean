import Derived.Test.YtbhhfbenajcinaaSXx
import Derived.KernelRfl
import Derived.Test.YtbhhfbenajcinaaMb0
import Derived.Test.YtbhhfbenajcinaaMb1
import Derived.Test.YtbhhfbenajcinaaMb2
import Derived.Test.YtbhhfbenajcinaaMb3
namespace Go.Proofs.Ytbhhfbenajcinaa
open Go Go.SX Go.Proofs
noncomputable def ctE : List Sig := []
theorem noCt : CtSound cxI phB := fun g hg => absurd hg (by simp [cxI])
theorem op_cases {Q : Prop} (m : Int) (h0 : m < 1 → Q) (h1 : 47 < m → Q)(h_1 : m = 1 → Q) (h_2 : m = 2 → Q) (h_3 : m = 3 → Q) (h_4 : m = 4 → Q) (h_5 : m = 5 → Q) (h_6 : m = 6 → Q) (h_7 : m = 7 → Q) (h_8 : m = 8 → Q) (h_9 : m = 9 → Q) (h_10 : m = 10 → Q) (h_11 : m = 11 → Q) (h_12 : m = 12 → Q) (h_13 : m = 13 → Q) (h_14 : m = 14 → Q) (h_15 : m = 15 → Q) (h_16 : m = 16 → Q) (h_17 : m = 17 → Q) (h_18 : m = 18 → Q) (h_19 : m = 19 → Q) (h_20 : m = 20 → Q) (h_21 : m = 21 → Q) (h_22 : m = 22 → Q) (h_23 : m = 23 → Q) (h_24 : m = 24 → Q) (h_25 : m = 25 → Q) (h_26 : m = 26 → Q) (h_27 : m = 27 → Q) (h_28 : m = 28 → Q) (h_29 : m = 29 → Q) (h_30 : m = 30 → Q) (h_31 : m = 31 → Q) (h_32 : m = 32 → Q) (h_33 : m = 33 → Q) (h_34 : m = 34 → Q) (h_35 : m = 35 → Q) (h_36 : m = 36 → Q) (h_37 : m = 37 → Q) (h_38 : m = 38 → Q) (h_39 : m = 39 → Q) (h_40 : m = 40 → Q) (h_41 : m = 41 → Q) (h_42 : m = 42 → Q) (h_43 : m = 43 → Q) (h_44 : m = 44 → Q) (h_45 : m = 45 → Q) (h_46 : m = 46 → Q) (h_47 : m = 47 → Q) : Q := by
  by_cases a : m < 1
  · exact h0 a
  by_cases b : 47 < m
  · exact h1 b
  have : m = 1 ∨ m = 2 ∨ m = 3 ∨ m = 4 ∨ m = 5 ∨ m = 6 ∨ m = 7 ∨ m = 8 ∨ m = 9 ∨ m = 10 ∨ m = 11 ∨ m = 12 ∨ m = 13 ∨ m = 14 ∨ m = 15 ∨ m = 16 ∨ m = 17 ∨ m = 18 ∨ m = 19 ∨ m = 20 ∨ m = 21 ∨ m = 22 ∨ m = 23 ∨ m = 24 ∨ m = 25 ∨ m = 26 ∨ m = 27 ∨ m = 28 ∨ m = 29 ∨ m = 30 ∨ m = 31 ∨ m = 32 ∨ m = 33 ∨ m = 34 ∨ m = 35 ∨ m = 36 ∨ m = 37 ∨ m = 38 ∨ m = 39 ∨ m = 40 ∨ m = 41 ∨ m = 42 ∨ m = 43 ∨ m = 44 ∨ m = 45 ∨ m = 46 ∨ m = 47 := by omega
  rcases this with h | h | h | h | h | h | h | h | h | h | h | h | h | h | h | h | h | h | h | h | h | h | h | h | h | h | h | h | h | h | h | h | h | h | h | h | h | h | h | h | h | h | h | h | h | h | h
  · exact h_1 h
  · exact h_2 h
  · exact h_3 h
  · exact h_4 h
  · exact h_5 h
  · exact h_6 h
  · exact h_7 h
  · exact h_8 h
  · exact h_9 h
  · exact h_10 h
  · exact h_11 h
  · exact h_12 h
  · exact h_13 h
  · exact h_14 h
  · exact h_15 h
  · exact h_16 h
  · exact h_17 h
  · exact h_18 h
  · exact h_19 h
  · exact h_20 h
  · exact h_21 h
  · exact h_22 h
  · exact h_23 h
  · exact h_24 h
  · exact h_25 h
  · exact h_26 h
  · exact h_27 h
  · exact h_28 h
  · exact h_29 h
  · exact h_30 h
  · exact h_31 h
  · exact h_32 h
  · exact h_33 h
  · exact h_34 h
  · exact h_35 h
  · exact h_36 h
  · exact h_37 h
  · exact h_38 h
  · exact h_39 h
  · exact h_40 h
  · exact h_41 h
  · exact h_42 h
  · exact h_43 h
  · exact h_44 h
  · exact h_45 h
  · exact h_46 h
  · exact h_47 h
theorem sm_lo : evS cxI DMa 2000 sameMay [] (varsE 20) [(.cmp .lss (.var 0) (.int .i64 1), true)] = true := by kernel_rfl
theorem sm_hi : evS cxI DMa 2000 sameMay [] (varsE 20) [(.cmp .lss (.int .i64 47) (.var 0), true)] = true := by kernel_rfl
theorem may_all (ρ : Nat → Value) (F : Fits ssI (symS syB) ρ phB) : sameMay.den (asV ρ phB (varsE 20)) phB = .bool true := by
  obtain ⟨m, hm, _⟩ := F.var 0
  have lo : m < 1 → sameMay.den (asV ρ phB (varsE 20)) phB = .bool true := fun h => evS_all (cx := cxI) F noCt dsDMa (fun p hp => by
    simp only [List.mem_singleton] at hp
    subst hp
    simp only [E.den, hm, icmp, vint_int]
    exact congrArg Value.bool (decide_eq_true h)) (by kernel_rfl) sm_lo
  have hi : 47 < m → sameMay.den (asV ρ phB (varsE 20)) phB = .bool true := fun h => evS_all (cx := cxI) F noCt dsDMa (fun p hp => by
    simp only [List.mem_singleton] at hp
    subst hp
    simp only [E.den, hm, icmp, vint_int]
    exact congrArg Value.bool (decide_eq_true h)) (by kernel_rfl) sm_hi
  refine op_cases m lo hi (fun h => evS_at (cx := cxI) (N := 20) (v := 0) F noCt dsDMa (by decide) (hm.trans (by rw [h])) (by kernel_rfl) sm_1) (fun h => evS_at (cx := cxI) (N := 20) (v := 0) F noCt dsDMa (by decide) (hm.trans (by rw [h])) (by kernel_rfl) sm_2) (fun h => evS_at (cx := cxI) (N := 20) (v := 0) F noCt dsDMa (by decide) (hm.trans (by rw [h])) (by kernel_rfl) sm_3) (fun h => evS_at (cx := cxI) (N := 20) (v := 0) F noCt dsDMa (by decide) (hm.trans (by rw [h])) (by kernel_rfl) sm_4) (fun h => evS_at (cx := cxI) (N := 20) (v := 0) F noCt dsDMa (by decide) (hm.trans (by rw [h])) (by kernel_rfl) sm_5) (fun h => evS_at (cx := cxI) (N := 20) (v := 0) F noCt dsDMa (by decide) (hm.trans (by rw [h])) (by kernel_rfl) sm_6) (fun h => evS_at (cx := cxI) (N := 20) (v := 0) F noCt dsDMa (by decide) (hm.trans (by rw [h])) (by kernel_rfl) sm_7) (fun h => evS_at (cx := cxI) (N := 20) (v := 0) F noCt dsDMa (by decide) (hm.trans (by rw [h])) (by kernel_rfl) sm_8) (fun h => evS_at (cx := cxI) (N := 20) (v := 0) F noCt dsDMa (by decide) (hm.trans (by rw [h])) (by kernel_rfl) sm_9) (fun h => evS_at (cx := cxI) (N := 20) (v := 0) F noCt dsDMa (by decide) (hm.trans (by rw [h])) (by kernel_rfl) sm_10) (fun h => evS_at (cx := cxI) (N := 20) (v := 0) F noCt dsDMa (by decide) (hm.trans (by rw [h])) (by kernel_rfl) sm_11) (fun h => evS_at (cx := cxI) (N := 20) (v := 0) F noCt dsDMa (by decide) (hm.trans (by rw [h])) (by kernel_rfl) sm_12) (fun h => evS_at (cx := cxI) (N := 20) (v := 0) F noCt dsDMa (by decide) (hm.trans (by rw [h])) (by kernel_rfl) sm_13) (fun h => evS_at (cx := cxI) (N := 20) (v := 0) F noCt dsDMa (by decide) (hm.trans (by rw [h])) (by kernel_rfl) sm_14) (fun h => evS_at (cx := cxI) (N := 20) (v := 0) F noCt dsDMa (by decide) (hm.trans (by rw [h])) (by kernel_rfl) sm_15) (fun h => evS_at (cx := cxI) (N := 20) (v := 0) F noCt dsDMa (by decide) (hm.trans (by rw [h])) (by kernel_rfl) sm_16) (fun h => evS_at (cx := cxI) (N := 20) (v := 0) F noCt dsDMa (by decide) (hm.trans (by rw [h])) (by kernel_rfl) sm_17) (fun h => evS_at (cx := cxI) (N := 20) (v := 0) F noCt dsDMa (by decide) (hm.trans (by rw [h])) (by kernel_rfl) sm_18) (fun h => evS_at (cx := cxI) (N := 20) (v := 0) F noCt dsDMa (by decide) (hm.trans (by rw [h])) (by kernel_rfl) sm_19) (fun h => evS_at (cx := cxI) (N := 20) (v := 0) F noCt dsDMa (by decide) (hm.trans (by rw [h])) (by kernel_rfl) sm_20) (fun h => evS_at (cx := cxI) (N := 20) (v := 0) F noCt dsDMa (by decide) (hm.trans (by rw [h])) (by kernel_rfl) sm_21) (fun h => evS_at (cx := cxI) (N := 20) (v := 0) F noCt dsDMa (by decide) (hm.trans (by rw [h])) (by kernel_rfl) sm_22) (fun h => evS_at (cx := cxI) (N := 20) (v := 0) F noCt dsDMa (by decide) (hm.trans (by rw [h])) (by kernel_rfl) sm_23) (fun h => evS_at (cx := cxI) (N := 20) (v := 0) F noCt dsDMa (by decide) (hm.trans (by rw [h])) (by kernel_rfl) sm_24) (fun h => evS_at (cx := cxI) (N := 20) (v := 0) F noCt dsDMa (by decide) (hm.trans (by rw [h])) (by kernel_rfl) sm_25) (fun h => evS_at (cx := cxI) (N := 20) (v := 0) F noCt dsDMs (by decide) (hm.trans (by rw [h])) (by kernel_rfl) sm_26) (fun h => evS_at (cx := cxI) (N := 20) (v := 0) F noCt dsDMs (by decide) (hm.trans (by rw [h])) (by kernel_rfl) sm_27) (fun h => evS_at (cx := cxI) (N := 20) (v := 0) F noCt dsDMs (by decide) (hm.trans (by rw [h])) (by kernel_rfl) sm_28) (fun h => evS_at (cx := cxI) (N := 20) (v := 0) F noCt dsDMs (by decide) (hm.trans (by rw [h])) (by kernel_rfl) sm_29) (fun h => evS_at (cx := cxI) (N := 20) (v := 0) F noCt dsDMs (by decide) (hm.trans (by rw [h])) (by kernel_rfl) sm_30) (fun h => evS_at (cx := cxI) (N := 20) (v := 0) F noCt dsDMa (by decide) (hm.trans (by rw [h])) (by kernel_rfl) sm_31) (fun h => evS_at (cx := cxI) (N := 20) (v := 0) F noCt dsDMa (by decide) (hm.trans (by rw [h])) (by kernel_rfl) sm_32) (fun h => evS_at (cx := cxI) (N := 20) (v := 0) F noCt dsDMa (by decide) (hm.trans (by rw [h])) (by kernel_rfl) sm_33) (fun h => evS_at (cx := cxI) (N := 20) (v := 0) F noCt dsDMa (by decide) (hm.trans (by rw [h])) (by kernel_rfl) sm_34) (fun h => evS_at (cx := cxI) (N := 20) (v := 0) F noCt dsDMa (by decide) (hm.trans (by rw [h])) (by kernel_rfl) sm_35) (fun h => evS_at (cx := cxI) (N := 20) (v := 0) F noCt dsDMa (by decide) (hm.trans (by rw [h])) (by kernel_rfl) sm_36) (fun h => evS_at (cx := cxI) (N := 20) (v := 0) F noCt dsDMa (by decide) (hm.trans (by rw [h])) (by kernel_rfl) sm_37) (fun h => evS_at (cx := cxI) (N := 20) (v := 0) F noCt dsDMa (by decide) (hm.trans (by rw [h])) (by kernel_rfl) sm_38) (fun h => evS_at (cx := cxI) (N := 20) (v := 0) F noCt dsDMa (by decide) (hm.trans (by rw [h])) (by kernel_rfl) sm_39) (fun h => evS_at (cx := cxI) (N := 20) (v := 0) F noCt dsDMa (by decide) (hm.trans (by rw [h])) (by kernel_rfl) sm_40) (fun h => evS_at (cx := cxI) (N := 20) (v := 0) F noCt dsDMa (by decide) (hm.trans (by rw [h])) (by kernel_rfl) sm_41) (fun h => evS_at (cx := cxI) (N := 20) (v := 0) F noCt dsDMa (by decide) (hm.trans (by rw [h])) (by kernel_rfl) sm_42) (fun h => evS_at (cx := cxI) (N := 20) (v := 0) F noCt dsDMa (by decide) (hm.trans (by rw [h])) (by kernel_rfl) sm_43) (fun h => evS_at (cx := cxI) (N := 20) (v := 0) F noCt dsDMa (by decide) (hm.trans (by rw [h])) (by kernel_rfl) sm_44) (fun h => evS_at (cx := cxI) (N := 20) (v := 0) F noCt dsDMa (by decide) (hm.trans (by rw [h])) (by kernel_rfl) sm_45) (fun h => evS_at (cx := cxI) (N := 20) (v := 0) F noCt dsDMa (by decide) (hm.trans (by rw [h])) (by kernel_rfl) sm_46) (fun h => evS_at (cx := cxI) (N := 20) (v := 0) F noCt dsDMa (by decide) (hm.trans (by rw [h])) (by kernel_rfl) sm_47)
theorem ok15c : (Def.fn ssI (.leaf [.app 8 0 (toL (varsE 20))])).ok phB 15 :=
  ok_by enB ok15 (.app 8 0 (toL (varsE 20))) (by kernel_rfl) (by kernel_rfl) (by kernel_rfl) (by kernel_rfl) (by kernel_rfl) may_all

end Go.Proofs.Ytbhhfbenajcinaa
