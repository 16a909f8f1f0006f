/- Walks of layer 1: widths, masks, numbers of a width, with and without sign; of the code and of the document's own answers. -/
import Derived.Test.YtebbokaocobmgaaGreatDoorRows
import Derived.Test.YtebbokaocobmgaaGreatDoorBitn
import Derived.WalkKit
import Derived.WalkLawsBesides
import Derived.WalkSpells
import Derived.LoopTactic
import Derived.Lib.Hide
import Derived.Deep.QuietTactic
import Derived.BigQuiet
namespace Go.Proofs.YtebbokaocobmgaaGreatDoor
open Go.RowKit
open Cq (U64 I64 isW nb zx mask neg sx oneI bit)

/-- at most draws apart -/
def Drawn (W W' : World) : Prop := ∃ n, W' = W.drewN n
theorem Drawn.refl (W : World) : Drawn W W := ⟨0, rfl⟩
theorem Drawn.drewN {W W' : World} (h : Drawn W W') (n : Nat) : Drawn W (W'.drewN n) := by
  obtain ⟨m, rfl⟩ := h; exact ⟨m + n, World.drewN_drewN _ _ _⟩
theorem Drawn.drew {W W' : World} (h : Drawn W W') : Drawn W W'.drew := by
  obtain ⟨m, rfl⟩ := h; exact ⟨m + 1, rfl⟩
theorem Drawn.trans {W W' W'' : World} (h : Drawn W W') (g : Drawn W' W'') : Drawn W W'' := by
  obtain ⟨m, rfl⟩ := g; exact h.drewN m
theorem Drawn.grown {W W' : World} (h : Drawn W W') : Grown W W' := by
  obtain ⟨n, rfl⟩ := h
  induction n with
  | zero => exact Grown.refl _
  | succ n ih => exact Grown.drew ih
theorem quiet_left {P : Program} {f : FuncId} {args : Array Value} {w : World} {n : Nat} {v : Value}
    (h : Calls P f args (w.drewN n) fun e w' => e = .returned v ∧ w.drewN n = w') : Calls P f args (w.drewN n) fun e w'' => e = .returned v ∧ ∃ m, w'' = w.drewN m :=
  h.mono fun _ _ ⟨he, hm⟩ => ⟨he, n, hm.symm⟩

theorem is_any (w : Int) (W : World) : Calls Tryz.prog 50 #[.int .i64 w] W fun e W' => e = .returned (.bool (isW w)) ∧ W = W' := by
  by_cases h1 : w = 1
  · subst h1; go_enter Tryz.func50, Tryz.ntmps50; go_wp2; go_ret; exact ⟨rfl, rfl⟩
  by_cases h2 : w = 2
  · subst h2; go_enter Tryz.func50, Tryz.ntmps50; go_wp2; go_ret; exact ⟨rfl, rfl⟩
  by_cases h4 : w = 4
  · subst h4; go_enter Tryz.func50, Tryz.ntmps50; go_wp2; go_ret; exact ⟨rfl, rfl⟩
  by_cases h8 : w = 8
  · subst h8; go_enter Tryz.func50, Tryz.ntmps50; go_wp2; go_ret; exact ⟨rfl, rfl⟩
  have g1 : (w == 1) = false := by simpa using h1
  have g2 : (w == 2) = false := by simpa using h2
  have g4 : (w == 4) = false := by simpa using h4
  have g8 : (w == 8) = false := by simpa using h8
  have gg : isW w = false := by simp [isW, h1, h2, h4, h8]
  rw [gg]
  go_enter Tryz.func50, Tryz.ntmps50; go_wp2; go_ret; exact ⟨rfl, rfl⟩
theorem ris_any (w : Int) (W : World) : Calls Tryz.prog 34 #[.int .i64 w] W fun e W' => e = .returned (.bool (isW w)) ∧ W = W' := by
  by_cases h1 : w = 1
  · subst h1; go_enter Tryz.func34, Tryz.ntmps34; go_wp2; go_ret; exact ⟨rfl, rfl⟩
  by_cases h2 : w = 2
  · subst h2; go_enter Tryz.func34, Tryz.ntmps34; go_wp2; go_ret; exact ⟨rfl, rfl⟩
  by_cases h4 : w = 4
  · subst h4; go_enter Tryz.func34, Tryz.ntmps34; go_wp2; go_ret; exact ⟨rfl, rfl⟩
  by_cases h8 : w = 8
  · subst h8; go_enter Tryz.func34, Tryz.ntmps34; go_wp2; go_ret; exact ⟨rfl, rfl⟩
  have g1 : (w == 1) = false := by simpa using h1
  have g2 : (w == 2) = false := by simpa using h2
  have g4 : (w == 4) = false := by simpa using h4
  have g8 : (w == 8) = false := by simpa using h8
  have gg : isW w = false := by simp [isW, h1, h2, h4, h8]
  rw [gg]
  go_enter Tryz.func34, Tryz.ntmps34; go_wp2; go_ret; exact ⟨rfl, rfl⟩
def sz (w : Int) : Int := IntKind.u64.wrap (8 * IntKind.u64.wrap w)
theorem size_any (w : Int) (W : World) : Calls Tryz.prog 51 #[.int .i64 w] W fun e W' => e = .returned (.int .u64 (sz w)) ∧ W = W' := by
  go_enter Tryz.func51, Tryz.ntmps51; go_wp2; go_ret; exact ⟨rfl, rfl⟩
theorem mask_any (w : Int) (W : World) : Calls Tryz.prog 49 #[.int .i64 w] W fun e W' => e = .returned (.int .u64 (mask w)) ∧ W = W' := by
  by_cases h : isW w = true
  · rcases Cq.isW_cases h with rfl | rfl | rfl | rfl
    all_goals
      go_enter Tryz.func49, Tryz.ntmps49
      go_wp2
      go_ret
      exact ⟨rfl, rfl⟩
  · have h' : isW w = false := by simpa using h
    have e : mask w = 0 := by unfold mask; rw [Cq.nb_not h']; rfl
    rw [e]
    go_enter Tryz.func49, Tryz.ntmps49
    go_wp2_with (go_at_call 50; refine (is_any _ _).mono ?_; rintro e w' ⟨rfl, rfl⟩)
    go_ret
    exact ⟨rfl, rfl⟩
theorem zx_any (v w : Int) (W : World) : Calls Tryz.prog 32 #[.int .u64 v, .int .i64 w] W fun e W' => e = .returned (.int .u64 (zx v w)) ∧ W = W' := by
  rw [← Cq.and_mask]
  go_enter Tryz.func32, Tryz.ntmps32
  go_wp2_with (go_at_call 49; refine (mask_any _ _).mono ?_; rintro e w' ⟨rfl, rfl⟩)
  go_ret
  exact ⟨rfl, rfl⟩
theorem neg_any (v w : Int) (h0 : U64 v) (W : World) : Calls Tryz.prog 33 #[.int .u64 v, .int .i64 w] W fun e W' => e = .returned (.bool (neg v w)) ∧ W = W' := by
  by_cases h : isW w = true
  · rcases Cq.isW_cases h with rfl | rfl | rfl | rfl
    · rw [← Cq.neg_code1 h0]
      go_enter Tryz.func33, Tryz.ntmps33
      go_wp2
      go_ret
      exact ⟨rfl, rfl⟩
    · rw [← Cq.neg_code2 h0]
      go_enter Tryz.func33, Tryz.ntmps33
      go_wp2
      go_ret
      exact ⟨rfl, rfl⟩
    · rw [← Cq.neg_code4 h0]
      go_enter Tryz.func33, Tryz.ntmps33
      go_wp2
      go_ret
      exact ⟨rfl, rfl⟩
    · rw [← Cq.neg_code8 h0]
      go_enter Tryz.func33, Tryz.ntmps33
      go_wp2
      go_ret
      exact ⟨rfl, rfl⟩
  · have h' : isW w = false := by simpa using h
    have e : neg v w = false := by unfold neg; rw [h']; rfl
    rw [e]
    go_enter Tryz.func33, Tryz.ntmps33
    go_wp2_with (go_at_call 50; refine (is_any _ _).mono ?_; rintro e w' ⟨rfl, rfl⟩)
    go_ret
    exact ⟨rfl, rfl⟩
theorem sx_any (v w : Int) (h0 : U64 v) (W : World) : Calls Tryz.prog 40 #[.int .u64 v, .int .i64 w] W fun e W' => e = .returned (.int .u64 (sx v w)) ∧ W = W' := by
  cases h : neg v w
  · have e : sx v w = zx v w := by unfold sx; rw [h]; rfl
    rw [e]
    go_enter Tryz.func40, Tryz.ntmps40
    go_wp2_with fail
    refine (neg_any _ _ h0 _).mono ?_; rintro e w' ⟨rfl, rfl⟩
    rw [h]
    go_wp2_with fail
    refine (zx_any _ _ _).mono ?_; rintro e w' ⟨rfl, rfl⟩
    go_wp2_with fail
    go_ret
    exact ⟨rfl, rfl⟩
  · rw [← Cq.or_notMask v w h]
    go_enter Tryz.func40, Tryz.ntmps40
    go_wp2_with fail
    refine (neg_any _ _ h0 _).mono ?_; rintro e w' ⟨rfl, rfl⟩
    rw [h]
    go_wp2_with fail
    refine (mask_any _ _).mono ?_; rintro e w' ⟨rfl, rfl⟩
    go_wp2_with fail
    go_ret
    exact ⟨rfl, rfl⟩
theorem bit_any (v : Int) (i : Int) (hi : 0 ≤ i ∧ i ≤ 63) (h0 : U64 v) (W : World) : Calls Tryz.prog 23 #[.int .u64 v, .int .i64 i] W fun e W' => e = .returned (.int .u64 (bit v i)) ∧ W = W' := by
  obtain ⟨k, rfl⟩ := Int.eq_ofNat_of_zero_le hi.1
  have hk : k ≤ 63 := by omega
  have hv := h0.1
  go_enter Tryz.func23, Tryz.ntmps23
  go_wp2_with fail
  go_ret
  exact ⟨congrArg (fun n => Ending.returned (Value.int .u64 n)) (Cq.bit_tmod h0 k), rfl⟩
theorem rneg_any (v w : Int) (h0 : U64 v) (W : World) : Calls Tryz.prog 24 #[.int .u64 v, .int .i64 w] W fun e W' => e = .returned (.bool (neg v w)) ∧ W = W' := by
  cases h : isW w
  · have e : neg v w = false := by unfold neg; rw [h]; rfl
    rw [e]
    go_enter Tryz.func24, Tryz.ntmps24
    go_wp2_with fail
    refine (ris_any _ _).mono ?_; rintro e w' ⟨rfl, rfl⟩
    rw [h]
    go_wp2_with fail
    go_ret
    exact ⟨rfl, rfl⟩
  · rw [← Cq.bit_eq_one h0 h]
    have hw := Cq.isW_cases h
    have hb : 1 ≤ w ∧ w ≤ 8 := by omega
    clear hw
    go_enter Tryz.func24, Tryz.ntmps24
    go_wp2_with fail
    refine (ris_any _ _).mono ?_; rintro e w' ⟨rfl, rfl⟩
    rw [h]
    go_wp2_with fail
    refine (bit_any v _ (by omega) h0 _).mono ?_; rintro e w' ⟨rfl, rfl⟩
    go_wp2_with fail
    go_ret
    exact ⟨rfl, rfl⟩
end Go.Proofs.YtebbokaocobmgaaGreatDoor
