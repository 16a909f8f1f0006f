/- Walks of layer 13: functions of two words: the code and the document's own answers are the same; the law. -/
import Derived.Test.YtebbokaocobmgaaGreatDoorDc
namespace Go.Proofs.YtebbokaocobmgaaGreatDoor
open Go Go.RowKit
open Cq (U64 I64 isW nb zx sx neg mhi mlo shi)
set_option maxRecDepth 100000
set_option linter.unusedVariables false
def Both (f a b v : Int) : Prop := (∀ W, Calls Tryz.prog 4 #[.int .i64 f, .int .u64 a, .int .u64 b] W fun e W' => e = .returned (.int .u64 v) ∧ W' = W) ∧ (∀ W, Calls Tryz.prog 5 #[.int .i64 f, .int .u64 a, .int .u64 b] W fun e W' => e = .returned (.int .u64 v) ∧ Kp W W')
theorem mul_lo (f a b : Int) (h : f < 1) (W : World) : Calls Tryz.prog 8 #[.int .i64 f, .int .u64 a, .int .u64 b] W fun e W' => e = .returned (.int .u64 0) ∧ W' = W := by
  have g1 : (f == 1) = false := by simp; omega
  have g2 : (f == 2) = false := by simp; omega
  have g3 : (f == 3) = false := by simp; omega
  have g4 : (f == 4) = false := by simp; omega
  have g5 : (f == 5) = false := by simp; omega
  have g6 : (f == 6) = false := by simp; omega
  have g7 : (f == 7) = false := by simp; omega
  have g8 : (f == 8) = false := by simp; omega
  have g9 : (f == 9) = false := by simp; omega
  have g10 : (f == 10) = false := by simp; omega
  have g11 : (f == 11) = false := by simp; omega
  have g12 : (f == 12) = false := by simp; omega
  have g13 : (f == 13) = false := by simp; omega
  have g14 : (f == 14) = false := by simp; omega
  have g15 : (f == 15) = false := by simp; omega
  have g16 : (f == 16) = false := by simp; omega
  clear h
  go_enter Tryz.func8, Tryz.ntmps8
  go_wp2_with fail
  go_ret
  exact ⟨rfl, rfl⟩
theorem do_lo (f a b : Int) (h : f < 1) (W : World) : Calls Tryz.prog 4 #[.int .i64 f, .int .u64 a, .int .u64 b] W fun e W' => e = .returned (.int .u64 0) ∧ W' = W := by
  have HM := mul_lo f a b h W
  have g1 : (f == 1) = false := by simp; omega
  have g2 : (f == 2) = false := by simp; omega
  have g3 : (f == 3) = false := by simp; omega
  have g4 : (f == 4) = false := by simp; omega
  have g5 : (f == 5) = false := by simp; omega
  have g6 : (f == 6) = false := by simp; omega
  have g7 : (f == 7) = false := by simp; omega
  have g8 : (f == 8) = false := by simp; omega
  have g9 : (f == 9) = false := by simp; omega
  have g10 : (f == 10) = false := by simp; omega
  have g11 : (f == 11) = false := by simp; omega
  have g12 : (f == 12) = false := by simp; omega
  have g13 : (f == 13) = false := by simp; omega
  have g14 : (f == 14) = false := by simp; omega
  have g15 : (f == 15) = false := by simp; omega
  have g16 : (f == 16) = false := by simp; omega
  clear h
  go_enter Tryz.func4, Tryz.ntmps4
  go_wp2_with fail
  refine HM.mono ?_; rintro e w' ⟨rfl, rfl⟩
  go_wp2_with fail
  go_ret
  exact ⟨rfl, rfl⟩
theorem rdo_lo (f a b : Int) (h : f < 1) (W : World) : Calls Tryz.prog 5 #[.int .i64 f, .int .u64 a, .int .u64 b] W fun e W' => e = .returned (.int .u64 0) ∧ Kp W W' := by

  go_enter Tryz.func5, Tryz.ntmps5
  go_wp2_with fail
  go_ret
  exact ⟨rfl, Kp.rfl W⟩
theorem mul_hi (f a b : Int) (h : 16 < f) (W : World) : Calls Tryz.prog 8 #[.int .i64 f, .int .u64 a, .int .u64 b] W fun e W' => e = .returned (.int .u64 0) ∧ W' = W := by
  have g1 : (f == 1) = false := by simp; omega
  have g2 : (f == 2) = false := by simp; omega
  have g3 : (f == 3) = false := by simp; omega
  have g4 : (f == 4) = false := by simp; omega
  have g5 : (f == 5) = false := by simp; omega
  have g6 : (f == 6) = false := by simp; omega
  have g7 : (f == 7) = false := by simp; omega
  have g8 : (f == 8) = false := by simp; omega
  have g9 : (f == 9) = false := by simp; omega
  have g10 : (f == 10) = false := by simp; omega
  have g11 : (f == 11) = false := by simp; omega
  have g12 : (f == 12) = false := by simp; omega
  have g13 : (f == 13) = false := by simp; omega
  have g14 : (f == 14) = false := by simp; omega
  have g15 : (f == 15) = false := by simp; omega
  have g16 : (f == 16) = false := by simp; omega
  clear h
  go_enter Tryz.func8, Tryz.ntmps8
  go_wp2_with fail
  go_ret
  exact ⟨rfl, rfl⟩
theorem do_hi (f a b : Int) (h : 16 < f) (W : World) : Calls Tryz.prog 4 #[.int .i64 f, .int .u64 a, .int .u64 b] W fun e W' => e = .returned (.int .u64 0) ∧ W' = W := by
  have HM := mul_hi f a b h W
  have g1 : (f == 1) = false := by simp; omega
  have g2 : (f == 2) = false := by simp; omega
  have g3 : (f == 3) = false := by simp; omega
  have g4 : (f == 4) = false := by simp; omega
  have g5 : (f == 5) = false := by simp; omega
  have g6 : (f == 6) = false := by simp; omega
  have g7 : (f == 7) = false := by simp; omega
  have g8 : (f == 8) = false := by simp; omega
  have g9 : (f == 9) = false := by simp; omega
  have g10 : (f == 10) = false := by simp; omega
  have g11 : (f == 11) = false := by simp; omega
  have g12 : (f == 12) = false := by simp; omega
  have g13 : (f == 13) = false := by simp; omega
  have g14 : (f == 14) = false := by simp; omega
  have g15 : (f == 15) = false := by simp; omega
  have g16 : (f == 16) = false := by simp; omega
  clear h
  go_enter Tryz.func4, Tryz.ntmps4
  go_wp2_with fail
  refine HM.mono ?_; rintro e w' ⟨rfl, rfl⟩
  go_wp2_with fail
  go_ret
  exact ⟨rfl, rfl⟩
theorem rdo_hi (f a b : Int) (h : 16 < f) (W : World) : Calls Tryz.prog 5 #[.int .i64 f, .int .u64 a, .int .u64 b] W fun e W' => e = .returned (.int .u64 0) ∧ Kp W W' := by
  have h2 : 1 ≤ f := by omega
  go_enter Tryz.func5, Tryz.ntmps5
  go_wp2_with fail
  go_ret
  exact ⟨rfl, Kp.rfl W⟩
theorem both_10 (a b : Int) (ha : U64 a) (hb : U64 b) : ∃ v, Both 10 a b v := by
  by_cases h0 : b = 0
  · exact ⟨_, do_10_0 a b ha hb h0, rdo_10_0 a b ha hb h0⟩
  · have h := divs_math ha hb h0
    refine ⟨_, do_10_n a b ha hb h0, ?_⟩
    rw [h]
    cases ga : ngB a <;> cases gb : ngB b
    · exact rdo_10_ff a b ha hb h0 ga gb
    · exact rdo_10_ft a b ha hb h0 ga gb
    · exact rdo_10_tf a b ha hb h0 ga gb
    · exact rdo_10_tt a b ha hb h0 ga gb
theorem both_16 (a b : Int) (ha : U64 a) (hb : U64 b) : ∃ v, Both 16 a b v := by
  refine ⟨_, do_16 a b ha hb, ?_⟩
  cases ga : ngB a <;> cases gb : ngB b
  · rw [lts_1 ha hb (by rw [ga, gb])]; exact rdo_16_ff a b ha hb ga gb
  · rw [lts_2 ha hb (by rw [ga, gb]; decide), ga]; exact rdo_16_ft a b ha hb ga gb
  · rw [lts_2 ha hb (by rw [ga, gb]; decide), ga]; exact rdo_16_tf a b ha hb ga gb
  · rw [lts_1 ha hb (by rw [ga, gb])]; exact rdo_16_tt a b ha hb ga gb
theorem both_9 (a b : Int) (ha : U64 a) (hb : U64 b) : ∃ v, Both 9 a b v := by
  by_cases h0 : b = 0
  · exact ⟨_, do_9_0 a b ha hb h0, rdo_9_0 a b ha hb h0⟩
  · exact ⟨_, do_9_n a b ha hb h0, rdo_9_n a b ha hb h0⟩
theorem both_any (f a b : Int) (ha : U64 a) (hb : U64 b) : ∃ v, Both f a b v := by
  by_cases hl : f < 1
  · exact ⟨0, do_lo f a b hl, rdo_lo f a b hl⟩
  by_cases hh : 16 < f
  · exact ⟨0, do_hi f a b hh, rdo_hi f a b hh⟩
  have hc : f = 1 ∨ f = 2 ∨ f = 3 ∨ f = 4 ∨ f = 5 ∨ f = 6 ∨ f = 7 ∨ f = 8 ∨ f = 9 ∨ f = 10 ∨ f = 11 ∨ f = 12 ∨ f = 13 ∨ f = 14 ∨ f = 15 ∨ f = 16 := by omega
  rcases hc with rfl | rfl | rfl | rfl | rfl | rfl | rfl | rfl | rfl | rfl | rfl | rfl | rfl | rfl | rfl | rfl
  · exact ⟨_, do_1 a b ha hb, rdo_1 a b ha hb⟩
  · exact ⟨_, do_2 a b ha hb, rdo_2 a b ha hb⟩
  · exact ⟨_, do_3 a b ha hb, rdo_3 a b ha hb⟩
  · exact ⟨_, do_4 a b ha hb, rdo_4 a b ha hb⟩
  · exact ⟨_, do_5 a b ha hb, rdo_5 a b ha hb⟩
  · exact ⟨_, do_6 a b ha hb, rdo_6 a b ha hb⟩
  · exact ⟨_, do_7 a b ha hb, rdo_7 a b ha hb⟩
  · exact ⟨_, do_8 a b ha hb, rdo_8 a b ha hb⟩
  · exact both_9 a b ha hb
  · exact both_10 a b ha hb
  · exact ⟨_, do_11 a b ha hb, rdo_11 a b ha hb⟩
  · exact ⟨_, do_12 a b ha hb, rdo_12 a b ha hb⟩
  · exact ⟨_, do_13 a b ha hb, rdo_13 a b ha hb⟩
  · exact ⟨_, do_14 a b ha hb, rdo_14 a b ha hb⟩
  · exact ⟨_, do_15 a b ha hb, rdo_15 a b ha hb⟩
  · exact both_16 a b ha hb
theorem law_does (S : World → Prop) (hS : ∀ W W', S W → Kp W W' → S W') (haw : ∀ W, S W → Calls Tryz.prog 6 #[] W fun e W' => e = .returned (.bool true) ∧ Kp W W') (f a b : Int) (ha : U64 a) (hb : U64 b) (W : World) (hs : S W) : Calls Tryz.prog 3 #[.int .i64 f, .int .u64 a, .int .u64 b] W fun e W' => e = .returned (.bool true) ∧ Kp W W' := by
  obtain ⟨v, h1, h2⟩ := both_any f a b ha hb
  go_enter Tryz.func3, Tryz.ntmps3
  go_wp2_with fail
  refine (h1 _).mono ?_; rintro e w' ⟨rfl, rfl⟩
  go_wp2_with fail
  refine (h2 _).mono ?_; rintro e w' ⟨rfl, hk⟩
  go_wp2_with fail
  refine (haw _ (hS _ _ hs hk)).mono ?_; rintro e w2 ⟨rfl, hk2⟩
  go_wp2_with fail
  go_ret
  exact ⟨rfl, hk.next hk2⟩
end Go.Proofs.YtebbokaocobmgaaGreatDoor
