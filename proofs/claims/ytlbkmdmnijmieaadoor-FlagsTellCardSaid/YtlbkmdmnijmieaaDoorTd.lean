/- Walk of the statement of layer 8 on what a thunk tells. -/
import Derived.Test.YtlbkmdmnijmieaaDoorTb
import Derived.Test.YtlbkmdmnijmieaaDoorTc
import Derived.LoopTactic
namespace Go.Proofs.YtlbkmdmnijmieaaDoor
open Go Go.RowKit
open Cq (U64 I64 isW nb zx sx neg mask)
attribute [local irreducible] wpList Code.wp

theorem cond_any (c o : Bool) (s cc : Int) (hs : U64 s) (W : World) : Calls Tryd.prog 13 #[.agg #[.bool c, .bool o, .int .u64 s], .int .i64 cc] W fun e W' => e = .returned (.bool (condB cc c o (s == 0) (neg s 8) (even s))) ∧ Kp W W' := by
  by_cases h : cc < 0 ∨ 15 < cc
  · have e : condB cc c o (s == 0) (neg s 8) (even s) = false := by unfold condB; rw [if_pos h]
    rw [e]; exact cond_out c o s cc h W
  · rcases (by omega : cc = 0 ∨ cc = 1 ∨ cc = 2 ∨ cc = 3 ∨ cc = 4 ∨ cc = 5 ∨ cc = 6 ∨ cc = 7 ∨ cc = 8 ∨ cc = 9 ∨ cc = 10 ∨ cc = 11 ∨ cc = 12 ∨ cc = 13 ∨ cc = 14 ∨ cc = 15) with rfl | rfl | rfl | rfl | rfl | rfl | rfl | rfl | rfl | rfl | rfl | rfl | rfl | rfl | rfl | rfl
    · refine (cond_at_0 c o s hs W).mono fun e W' h2 => ⟨h2.1.trans ?_, h2.2⟩
      generalize (s == 0) = z; generalize neg s 8 = n; generalize even s = ev
      cases c <;> cases o <;> cases z <;> cases n <;> cases ev <;> rfl
    · refine (cond_at_1 c o s hs W).mono fun e W' h2 => ⟨h2.1.trans ?_, h2.2⟩
      generalize (s == 0) = z; generalize neg s 8 = n; generalize even s = ev
      cases c <;> cases o <;> cases z <;> cases n <;> cases ev <;> rfl
    · refine (cond_at_2 c o s hs W).mono fun e W' h2 => ⟨h2.1.trans ?_, h2.2⟩
      generalize (s == 0) = z; generalize neg s 8 = n; generalize even s = ev
      cases c <;> cases o <;> cases z <;> cases n <;> cases ev <;> rfl
    · refine (cond_at_3 c o s hs W).mono fun e W' h2 => ⟨h2.1.trans ?_, h2.2⟩
      generalize (s == 0) = z; generalize neg s 8 = n; generalize even s = ev
      cases c <;> cases o <;> cases z <;> cases n <;> cases ev <;> rfl
    · refine (cond_at_4 c o s hs W).mono fun e W' h2 => ⟨h2.1.trans ?_, h2.2⟩
      generalize (s == 0) = z; generalize neg s 8 = n; generalize even s = ev
      cases c <;> cases o <;> cases z <;> cases n <;> cases ev <;> rfl
    · refine (cond_at_5 c o s hs W).mono fun e W' h2 => ⟨h2.1.trans ?_, h2.2⟩
      generalize (s == 0) = z; generalize neg s 8 = n; generalize even s = ev
      cases c <;> cases o <;> cases z <;> cases n <;> cases ev <;> rfl
    · refine (cond_at_6 c o s hs W).mono fun e W' h2 => ⟨h2.1.trans ?_, h2.2⟩
      generalize (s == 0) = z; generalize neg s 8 = n; generalize even s = ev
      cases c <;> cases o <;> cases z <;> cases n <;> cases ev <;> rfl
    · refine (cond_at_7 c o s hs W).mono fun e W' h2 => ⟨h2.1.trans ?_, h2.2⟩
      generalize (s == 0) = z; generalize neg s 8 = n; generalize even s = ev
      cases c <;> cases o <;> cases z <;> cases n <;> cases ev <;> rfl
    · refine (cond_at_8 c o s hs W).mono fun e W' h2 => ⟨h2.1.trans ?_, h2.2⟩
      generalize (s == 0) = z; generalize neg s 8 = n; generalize even s = ev
      cases c <;> cases o <;> cases z <;> cases n <;> cases ev <;> rfl
    · refine (cond_at_9 c o s hs W).mono fun e W' h2 => ⟨h2.1.trans ?_, h2.2⟩
      generalize (s == 0) = z; generalize neg s 8 = n; generalize even s = ev
      cases c <;> cases o <;> cases z <;> cases n <;> cases ev <;> rfl
    · refine (cond_at_10 c o s hs W).mono fun e W' h2 => ⟨h2.1.trans ?_, h2.2⟩
      generalize (s == 0) = z; generalize neg s 8 = n; generalize even s = ev
      cases c <;> cases o <;> cases z <;> cases n <;> cases ev <;> rfl
    · refine (cond_at_11 c o s hs W).mono fun e W' h2 => ⟨h2.1.trans ?_, h2.2⟩
      generalize (s == 0) = z; generalize neg s 8 = n; generalize even s = ev
      cases c <;> cases o <;> cases z <;> cases n <;> cases ev <;> rfl
    · refine (cond_at_12 c o s hs W).mono fun e W' h2 => ⟨h2.1.trans ?_, h2.2⟩
      generalize (s == 0) = z; generalize neg s 8 = n; generalize even s = ev
      cases c <;> cases o <;> cases z <;> cases n <;> cases ev <;> rfl
    · refine (cond_at_13 c o s hs W).mono fun e W' h2 => ⟨h2.1.trans ?_, h2.2⟩
      generalize (s == 0) = z; generalize neg s 8 = n; generalize even s = ev
      cases c <;> cases o <;> cases z <;> cases n <;> cases ev <;> rfl
    · refine (cond_at_14 c o s hs W).mono fun e W' h2 => ⟨h2.1.trans ?_, h2.2⟩
      generalize (s == 0) = z; generalize neg s 8 = n; generalize even s = ev
      cases c <;> cases o <;> cases z <;> cases n <;> cases ev <;> rfl
    · refine (cond_at_15 c o s hs W).mono fun e W' h2 => ⟨h2.1.trans ?_, h2.2⟩
      generalize (s == 0) = z; generalize neg s 8 = n; generalize even s = ev
      cases c <;> cases o <;> cases z <;> cases n <;> cases ev <;> rfl
/-- what is held: both thunks and the variable's cells -/
def Hl (W0 : World) (b1 b2 : Nat) (c o : Bool) (s : Int) (w : World) : Prop :=
  (w.cell? ⟨b1, 0, none⟩ = some (.bool c) ∧ w.cell? ⟨b1, 1, none⟩ = some (.bool o) ∧ w.cell? ⟨b1, 2, none⟩ = some (.int .u64 s))
  ∧ (w.cell? ⟨b2, 0, none⟩ = some (.bool c) ∧ w.cell? ⟨b2, 1, none⟩ = some (.bool o) ∧ w.cell? ⟨b2, 2, none⟩ = some (.int .u64 s))
  ∧ b1 < w.heap.size ∧ b2 < w.heap.size ∧ Kp W0 w
theorem Hl.step {W0 : World} {b1 b2 : Nat} {c o : Bool} {s : Int} {w w2 : World} (h : Hl W0 b1 b2 c o s w) (k : Kp w w2) : Hl W0 b1 b2 c o s w2 := by
  obtain ⟨⟨h0, h1, h2⟩, ⟨h3, h4, h5⟩, z1, z2, hk⟩ := h
  exact ⟨⟨(k.cell (p := ⟨b1, 0, none⟩) z1).trans h0, (k.cell (p := ⟨b1, 1, none⟩) z1).trans h1, (k.cell (p := ⟨b1, 2, none⟩) z1).trans h2⟩,
    ⟨(k.cell (p := ⟨b2, 0, none⟩) z2).trans h3, (k.cell (p := ⟨b2, 1, none⟩) z2).trans h4, (k.cell (p := ⟨b2, 2, none⟩) z2).trans h5⟩,
    Nat.lt_of_lt_of_le z1 k.size, Nat.lt_of_lt_of_le z2 k.size, hk.next k⟩
theorem flip_0 (c o z n ev : Bool) : condB 1 c o z n ev = !condB 0 c o z n ev := by
  cases c <;> cases o <;> cases z <;> cases n <;> cases ev <;> rfl
theorem flip_2 (c o z n ev : Bool) : condB 3 c o z n ev = !condB 2 c o z n ev := by
  cases c <;> cases o <;> cases z <;> cases n <;> cases ev <;> rfl
theorem flip_4 (c o z n ev : Bool) : condB 5 c o z n ev = !condB 4 c o z n ev := by
  cases c <;> cases o <;> cases z <;> cases n <;> cases ev <;> rfl
theorem flip_6 (c o z n ev : Bool) : condB 7 c o z n ev = !condB 6 c o z n ev := by
  cases c <;> cases o <;> cases z <;> cases n <;> cases ev <;> rfl
theorem flip_8 (c o z n ev : Bool) : condB 9 c o z n ev = !condB 8 c o z n ev := by
  cases c <;> cases o <;> cases z <;> cases n <;> cases ev <;> rfl
theorem flip_10 (c o z n ev : Bool) : condB 11 c o z n ev = !condB 10 c o z n ev := by
  cases c <;> cases o <;> cases z <;> cases n <;> cases ev <;> rfl
theorem flip_12 (c o z n ev : Bool) : condB 13 c o z n ev = !condB 12 c o z n ev := by
  cases c <;> cases o <;> cases z <;> cases n <;> cases ev <;> rfl
theorem flip_14 (c o z n ev : Bool) : condB 15 c o z n ev = !condB 14 c o z n ev := by
  cases c <;> cases o <;> cases z <;> cases n <;> cases ev <;> rfl
set_option maxHeartbeats 8000000 in
set_option maxRecDepth 100000 in
theorem law_tell (c o : Bool) (s cc : Int) (hs : U64 s) (W : World) (hz0 : 0 < W.heap.size) (g0 : W.cell? ⟨0, 0, none⟩ = some (.int .u64 1)) (g1 : W.cell? ⟨0, 1, none⟩ = some (.int .u64 4)) (g2 : W.cell? ⟨0, 2, none⟩ = some (.int .u64 64)) (g3 : W.cell? ⟨0, 3, none⟩ = some (.int .u64 128)) (g4 : W.cell? ⟨0, 4, none⟩ = some (.int .u64 2048)) :
    Calls Tryd.prog 3 #[th c o s, .int .i64 cc] W fun e W' => e = .returned (.bool true) ∧ Kp W W' := by
  have GK : ∀ W1, Kp W W1 → ∀ j v, W.cell? ⟨0, j, none⟩ = some v → W1.cell? ⟨0, j, none⟩ = some v := fun W1 k j v h => (k.cell (p := ⟨0, j, none⟩) hz0).trans h
  have kz1 : ∀ W1, Calls Tryd.prog 5 #[.agg #[.bool c, .bool o, .int .u64 s]] W1 fun e W' => e = .returned (.bool (s == 0)) ∧ Kp W1 W' := fun W1 => (zero_any c o s W1).mono fun e W' h => ⟨h.1, by rw [h.2]; exact (Kp.rfl W1).new _⟩
  have Hz1 := Lib.hid kz1
  have kz2 : ∀ W1, Calls Tryd.prog 6 #[.agg #[.bool c, .bool o, .int .u64 s]] W1 fun e W' => e = .returned (.bool (s == 0)) ∧ Kp W1 W' := fun W1 => (rzero_any c o s W1).mono fun e W' h => ⟨h.1, by rw [h.2]; exact (Kp.rfl W1).new _⟩
  have Hz2 := Lib.hid kz2
  have ks1 : ∀ W1, Calls Tryd.prog 7 #[.agg #[.bool c, .bool o, .int .u64 s]] W1 fun e W' => e = .returned (.bool (neg s 8)) ∧ Kp W1 W' := fun W1 => (sign_any c o s hs W1).mono fun e W' h => ⟨h.1, by rw [h.2]; exact (Kp.rfl W1).new _⟩
  have Hs1 := Lib.hid ks1
  have ks2 : ∀ W1, Calls Tryd.prog 8 #[.agg #[.bool c, .bool o, .int .u64 s]] W1 fun e W' => e = .returned (.bool (neg s 8)) ∧ Kp W1 W' := fun W1 => (rsign_any c o s hs W1).mono fun e W' h => ⟨h.1, by rw [h.2]; exact (Kp.rfl W1).new _⟩
  have Hs2 := Lib.hid ks2
  have ke1 : ∀ W1, Calls Tryd.prog 9 #[.agg #[.bool c, .bool o, .int .u64 s]] W1 fun e W' => e = .returned (.bool (even s)) ∧ Kp W1 W' := fun W1 => (even_th c o s hs W1).mono fun e W' h => ⟨h.1, by rw [h.2]; exact (Kp.rfl W1).new _⟩
  have He1 := Lib.hid ke1
  have ke2 : ∀ W1, Calls Tryd.prog 10 #[.agg #[.bool c, .bool o, .int .u64 s]] W1 fun e W' => e = .returned (.bool (even s)) ∧ Kp W1 W' := fun W1 => (reven_th c o s hs W1).mono fun e W' h => ⟨h.1, by rw [h.2]; exact (Kp.rfl W1).new _⟩
  have He2 := Lib.hid ke2
  have kp2 : ∀ W1, Calls Tryd.prog 12 #[.agg #[.bool c, .bool o, .int .u64 s]] W1 fun e W' => e = .returned (.int .u64 (packV c (even s) (s == 0) (neg s 8) o)) ∧ Kp W1 W' := fun W1 => rpack_any c o s hs W1
  have Hp2 := Lib.hid kp2
  have kp1 : ∀ W1, Kp W W1 → Calls Tryd.prog 11 #[.agg #[.bool c, .bool o, .int .u64 s]] W1 fun e W' => e = .returned (.int .u64 (packV c (even s) (s == 0) (neg s 8) o)) ∧ Kp W1 W' := fun W1 k => pack_any c o s hs W1 (Nat.lt_of_lt_of_le hz0 k.size) (GK W1 k 0 _ g0) (GK W1 k 1 _ g1) (GK W1 k 2 _ g2) (GK W1 k 3 _ g3) (GK W1 k 4 _ g4)
  have Hp1 := Lib.hid kp1
  have kc1 : ∀ cc W1, Calls Tryd.prog 13 #[.agg #[.bool c, .bool o, .int .u64 s], .int .i64 cc] W1 fun e W' => e = .returned (.bool (condB cc c o (s == 0) (neg s 8) (even s))) ∧ Kp W1 W' := fun cc W1 => cond_any c o s cc hs W1
  have Hc1 := Lib.hid kc1
  have kc2 : ∀ cc W1, Calls Tryd.prog 14 #[.agg #[.bool c, .bool o, .int .u64 s], .int .i64 cc] W1 fun e W' => e = .returned (.bool (condB cc c o (s == 0) (neg s 8) (even s))) ∧ Kp W1 W' := fun cc W1 => rcond_any c o s cc hs W1
  have Hc2 := Lib.hid kc2
  clear kz1 kz2 ks1 ks2 ke1 ke2 kp2 kp1 kc1 kc2 GK
  unfold th
  go_enter Tryd.func3, Tryd.ntmps3
  go_wp2_with fail
  refine (ours_any c o s _).mono ?_; rintro e wa ⟨rfl, ka⟩
  unfold th
  have a0 := (kcell_new ka 0).trans (show _ = some (.bool c) from rfl)
  have a1 := (kcell_new ka 1).trans (show _ = some (.bool o) from rfl)
  have a2 := (kcell_new ka 2).trans (show _ = some (.int .u64 s) from rfl)
  have az := ksize ka
  have kwa : Kp W wa := ((Kp.rfl W).new _).next ka
  clear ka
  go_wp2_with fail
  have hb : Hl W W.heap.size wa.heap.size c o s (wa.alloc (.cells #[.bool c, .bool o, .int .u64 s] 25)) :=
    ⟨⟨by rw [World.cell?_alloc_past _ _ _ az]; exact a0, by rw [World.cell?_alloc_past _ _ _ az]; exact a1, by rw [World.cell?_alloc_past _ _ _ az]; exact a2⟩, ⟨by simp, by simp, by simp⟩, by simp; omega, by simp, kwa.new _⟩
  generalize hw2 : wa.alloc (.cells #[.bool c, .bool o, .int .u64 s] 25) = wx at *
  clear hw2
  have hbd : Hl W W.heap.size wa.heap.size c o s wx.drew := hb.step (Kp.rfl wx).draw
  obtain ⟨⟨q0, q1, q2⟩, ⟨q3, q4, q5⟩, q6, q7, q8⟩ := hb
  go_region_held3 (fun w' => (w'.cell? ⟨W.heap.size, 0, none⟩ = some (.bool c) ∧ w'.cell? ⟨W.heap.size, 1, none⟩ = some (.bool o) ∧ w'.cell? ⟨W.heap.size, 2, none⟩ = some (.int .u64 s)) ∧ (w'.cell? ⟨wa.heap.size, 0, none⟩ = some (.bool c) ∧ w'.cell? ⟨wa.heap.size, 1, none⟩ = some (.bool o) ∧ w'.cell? ⟨wa.heap.size, 2, none⟩ = some (.int .u64 s)) ∧ W.heap.size < w'.heap.size ∧ wa.heap.size < w'.heap.size ∧ Kp W w') (first | exact hbd | (with_reducible assumption) | exact hs2) ((first | (go_at_call 5; refine (Hz1.out _).mono ?_; rintro e w2 ⟨rfl, hk2⟩; have hs2 := Hl.step (W0 := W) (b1 := W.heap.size) (b2 := wa.heap.size) (c := c) (o := o) (s := s) (by assumption) hk2; clear hk2) | (go_at_call 6; refine (Hz2.out _).mono ?_; rintro e w2 ⟨rfl, hk2⟩; have hs2 := Hl.step (W0 := W) (b1 := W.heap.size) (b2 := wa.heap.size) (c := c) (o := o) (s := s) (by assumption) hk2; clear hk2) | (go_at_call 7; refine (Hs1.out _).mono ?_; rintro e w2 ⟨rfl, hk2⟩; have hs2 := Hl.step (W0 := W) (b1 := W.heap.size) (b2 := wa.heap.size) (c := c) (o := o) (s := s) (by assumption) hk2; clear hk2) | (go_at_call 8; refine (Hs2.out _).mono ?_; rintro e w2 ⟨rfl, hk2⟩; have hs2 := Hl.step (W0 := W) (b1 := W.heap.size) (b2 := wa.heap.size) (c := c) (o := o) (s := s) (by assumption) hk2; clear hk2) | (go_at_call 9; refine (He1.out _).mono ?_; rintro e w2 ⟨rfl, hk2⟩; have hs2 := Hl.step (W0 := W) (b1 := W.heap.size) (b2 := wa.heap.size) (c := c) (o := o) (s := s) (by assumption) hk2; clear hk2) | (go_at_call 10; refine (He2.out _).mono ?_; rintro e w2 ⟨rfl, hk2⟩; have hs2 := Hl.step (W0 := W) (b1 := W.heap.size) (b2 := wa.heap.size) (c := c) (o := o) (s := s) (by assumption) hk2; clear hk2) | (go_at_call 11; refine (Hp1.out _ (by first | assumption | (simp only [*]))).mono ?_; rintro e w2 ⟨rfl, hk2⟩; have hs2 := Hl.step (W0 := W) (b1 := W.heap.size) (b2 := wa.heap.size) (c := c) (o := o) (s := s) (by assumption) hk2; clear hk2) | (go_at_call 12; refine (Hp2.out _).mono ?_; rintro e w2 ⟨rfl, hk2⟩; have hs2 := Hl.step (W0 := W) (b1 := W.heap.size) (b2 := wa.heap.size) (c := c) (o := o) (s := s) (by assumption) hk2; clear hk2) | (go_at_call 13; refine (Hc1.out _ _).mono ?_; rintro e w2 ⟨rfl, hk2⟩; have hs2 := Hl.step (W0 := W) (b1 := W.heap.size) (b2 := wa.heap.size) (c := c) (o := o) (s := s) (by assumption) hk2; clear hk2) | (go_at_call 14; refine (Hc2.out _ _).mono ?_; rintro e w2 ⟨rfl, hk2⟩; have hs2 := Hl.step (W0 := W) (b1 := W.heap.size) (b2 := wa.heap.size) (c := c) (o := o) (s := s) (by assumption) hk2; clear hk2)))
  all_goals
    have hend := Hl.step (W0 := W) (b1 := W.heap.size) (b2 := wa.heap.size) (c := c) (o := o) (s := s) (by first | assumption | exact hs2) (Kp.rfl _)
    clear q0 q1 q2 q3 q4 q5 q6 q7 q8 hbd
    replace hend := Lib.hid hend
    go_wp2_with fail
    go_loopw [6] (fun i wr => ∃ k : Int, (k = 0 ∨ k = 2 ∨ k = 4 ∨ k = 6 ∨ k = 8 ∨ k = 10 ∨ k = 12 ∨ k = 14 ∨ k = 16) ∧ i = .int .i64 k ∧ Hl W W.heap.size wa.heap.size c o s wr) (fun i _ => (16 - intOf i).toNat)
    case atStart => exact ⟨0, by omega, rfl, hend.out⟩
    case round =>
      obtain ⟨k, hk, rfl, hl⟩ := hrel
      clear hend
      rcases hk with rfl | rfl | rfl | rfl | rfl | rfl | rfl | rfl | rfl
      · obtain ⟨x, hx⟩ : ∃ x, x = condB 0 c o (s == 0) (neg s 8) (even s) := ⟨_, rfl⟩
        have hy : condB 1 c o (s == 0) (neg s 8) (even s) = !x := by rw [hx]; exact flip_0 c o _ _ _
        have A1 := Hc1.out 0
        have A2 := Hc1.out 1
        have A3 := Hc2.out 0
        rw [← hx] at A1 A3
        rw [hy] at A2
        have HA1 := Lib.hid A1
        have HA2 := Lib.hid A2
        have HA3 := Lib.hid A3
        clear A1 A2 A3 hx hy
        have hbd : Hl W W.heap.size wa.heap.size c o s wr.drew := hl.step (Kp.rfl wr).draw
        obtain ⟨⟨q0, q1, q2⟩, ⟨q3, q4, q5⟩, q6, q7, q8⟩ := hl
        cases x
        all_goals
          simp only [Bool.not_true, Bool.not_false] at HA2
          go_wp2_with fail
          go_region_held3 (fun w' => (w'.cell? ⟨W.heap.size, 0, none⟩ = some (.bool c) ∧ w'.cell? ⟨W.heap.size, 1, none⟩ = some (.bool o) ∧ w'.cell? ⟨W.heap.size, 2, none⟩ = some (.int .u64 s)) ∧ (w'.cell? ⟨wa.heap.size, 0, none⟩ = some (.bool c) ∧ w'.cell? ⟨wa.heap.size, 1, none⟩ = some (.bool o) ∧ w'.cell? ⟨wa.heap.size, 2, none⟩ = some (.int .u64 s)) ∧ W.heap.size < w'.heap.size ∧ wa.heap.size < w'.heap.size ∧ Kp W w') (first | exact hbd | (with_reducible assumption) | exact hs2) ((first | (go_at_call_of 13 (Value.int IntKind.i64 0); refine (HA1.out _).mono ?_; rintro e w2 ⟨rfl, hk2⟩; have hs2 := Hl.step (W0 := W) (b1 := W.heap.size) (b2 := wa.heap.size) (c := c) (o := o) (s := s) (by assumption) hk2; clear hk2) | (go_at_call 13; refine (HA2.out _).mono ?_; rintro e w2 ⟨rfl, hk2⟩; have hs2 := Hl.step (W0 := W) (b1 := W.heap.size) (b2 := wa.heap.size) (c := c) (o := o) (s := s) (by assumption) hk2; clear hk2) | (go_at_call_of 14 (Value.int IntKind.i64 0); refine (HA3.out _).mono ?_; rintro e w2 ⟨rfl, hk2⟩; have hs2 := Hl.step (W0 := W) (b1 := W.heap.size) (b2 := wa.heap.size) (c := c) (o := o) (s := s) (by assumption) hk2; clear hk2)))
          all_goals
            have hend := Hl.step (W0 := W) (b1 := W.heap.size) (b2 := wa.heap.size) (c := c) (o := o) (s := s) (by first | assumption | exact hs2) (Kp.rfl _)
            replace hend := Lib.hid hend
            clear q0 q1 q2 q3 q4 q5 q6 q7 q8 hbd
            go_wp2_with fail
            go_roundw
            case rel => exact ⟨2, by omega, rfl, hend.out⟩
            case measure => simp [intOf]
      · obtain ⟨x, hx⟩ : ∃ x, x = condB 2 c o (s == 0) (neg s 8) (even s) := ⟨_, rfl⟩
        have hy : condB 3 c o (s == 0) (neg s 8) (even s) = !x := by rw [hx]; exact flip_2 c o _ _ _
        have A1 := Hc1.out 2
        have A2 := Hc1.out 3
        have A3 := Hc2.out 2
        rw [← hx] at A1 A3
        rw [hy] at A2
        have HA1 := Lib.hid A1
        have HA2 := Lib.hid A2
        have HA3 := Lib.hid A3
        clear A1 A2 A3 hx hy
        have hbd : Hl W W.heap.size wa.heap.size c o s wr.drew := hl.step (Kp.rfl wr).draw
        obtain ⟨⟨q0, q1, q2⟩, ⟨q3, q4, q5⟩, q6, q7, q8⟩ := hl
        cases x
        all_goals
          simp only [Bool.not_true, Bool.not_false] at HA2
          go_wp2_with fail
          go_region_held3 (fun w' => (w'.cell? ⟨W.heap.size, 0, none⟩ = some (.bool c) ∧ w'.cell? ⟨W.heap.size, 1, none⟩ = some (.bool o) ∧ w'.cell? ⟨W.heap.size, 2, none⟩ = some (.int .u64 s)) ∧ (w'.cell? ⟨wa.heap.size, 0, none⟩ = some (.bool c) ∧ w'.cell? ⟨wa.heap.size, 1, none⟩ = some (.bool o) ∧ w'.cell? ⟨wa.heap.size, 2, none⟩ = some (.int .u64 s)) ∧ W.heap.size < w'.heap.size ∧ wa.heap.size < w'.heap.size ∧ Kp W w') (first | exact hbd | (with_reducible assumption) | exact hs2) ((first | (go_at_call_of 13 (Value.int IntKind.i64 2); refine (HA1.out _).mono ?_; rintro e w2 ⟨rfl, hk2⟩; have hs2 := Hl.step (W0 := W) (b1 := W.heap.size) (b2 := wa.heap.size) (c := c) (o := o) (s := s) (by assumption) hk2; clear hk2) | (go_at_call 13; refine (HA2.out _).mono ?_; rintro e w2 ⟨rfl, hk2⟩; have hs2 := Hl.step (W0 := W) (b1 := W.heap.size) (b2 := wa.heap.size) (c := c) (o := o) (s := s) (by assumption) hk2; clear hk2) | (go_at_call_of 14 (Value.int IntKind.i64 2); refine (HA3.out _).mono ?_; rintro e w2 ⟨rfl, hk2⟩; have hs2 := Hl.step (W0 := W) (b1 := W.heap.size) (b2 := wa.heap.size) (c := c) (o := o) (s := s) (by assumption) hk2; clear hk2)))
          all_goals
            have hend := Hl.step (W0 := W) (b1 := W.heap.size) (b2 := wa.heap.size) (c := c) (o := o) (s := s) (by first | assumption | exact hs2) (Kp.rfl _)
            replace hend := Lib.hid hend
            clear q0 q1 q2 q3 q4 q5 q6 q7 q8 hbd
            go_wp2_with fail
            go_roundw
            case rel => exact ⟨4, by omega, rfl, hend.out⟩
            case measure => simp [intOf]
      · obtain ⟨x, hx⟩ : ∃ x, x = condB 4 c o (s == 0) (neg s 8) (even s) := ⟨_, rfl⟩
        have hy : condB 5 c o (s == 0) (neg s 8) (even s) = !x := by rw [hx]; exact flip_4 c o _ _ _
        have A1 := Hc1.out 4
        have A2 := Hc1.out 5
        have A3 := Hc2.out 4
        rw [← hx] at A1 A3
        rw [hy] at A2
        have HA1 := Lib.hid A1
        have HA2 := Lib.hid A2
        have HA3 := Lib.hid A3
        clear A1 A2 A3 hx hy
        have hbd : Hl W W.heap.size wa.heap.size c o s wr.drew := hl.step (Kp.rfl wr).draw
        obtain ⟨⟨q0, q1, q2⟩, ⟨q3, q4, q5⟩, q6, q7, q8⟩ := hl
        cases x
        all_goals
          simp only [Bool.not_true, Bool.not_false] at HA2
          go_wp2_with fail
          go_region_held3 (fun w' => (w'.cell? ⟨W.heap.size, 0, none⟩ = some (.bool c) ∧ w'.cell? ⟨W.heap.size, 1, none⟩ = some (.bool o) ∧ w'.cell? ⟨W.heap.size, 2, none⟩ = some (.int .u64 s)) ∧ (w'.cell? ⟨wa.heap.size, 0, none⟩ = some (.bool c) ∧ w'.cell? ⟨wa.heap.size, 1, none⟩ = some (.bool o) ∧ w'.cell? ⟨wa.heap.size, 2, none⟩ = some (.int .u64 s)) ∧ W.heap.size < w'.heap.size ∧ wa.heap.size < w'.heap.size ∧ Kp W w') (first | exact hbd | (with_reducible assumption) | exact hs2) ((first | (go_at_call_of 13 (Value.int IntKind.i64 4); refine (HA1.out _).mono ?_; rintro e w2 ⟨rfl, hk2⟩; have hs2 := Hl.step (W0 := W) (b1 := W.heap.size) (b2 := wa.heap.size) (c := c) (o := o) (s := s) (by assumption) hk2; clear hk2) | (go_at_call 13; refine (HA2.out _).mono ?_; rintro e w2 ⟨rfl, hk2⟩; have hs2 := Hl.step (W0 := W) (b1 := W.heap.size) (b2 := wa.heap.size) (c := c) (o := o) (s := s) (by assumption) hk2; clear hk2) | (go_at_call_of 14 (Value.int IntKind.i64 4); refine (HA3.out _).mono ?_; rintro e w2 ⟨rfl, hk2⟩; have hs2 := Hl.step (W0 := W) (b1 := W.heap.size) (b2 := wa.heap.size) (c := c) (o := o) (s := s) (by assumption) hk2; clear hk2)))
          all_goals
            have hend := Hl.step (W0 := W) (b1 := W.heap.size) (b2 := wa.heap.size) (c := c) (o := o) (s := s) (by first | assumption | exact hs2) (Kp.rfl _)
            replace hend := Lib.hid hend
            clear q0 q1 q2 q3 q4 q5 q6 q7 q8 hbd
            go_wp2_with fail
            go_roundw
            case rel => exact ⟨6, by omega, rfl, hend.out⟩
            case measure => simp [intOf]
      · obtain ⟨x, hx⟩ : ∃ x, x = condB 6 c o (s == 0) (neg s 8) (even s) := ⟨_, rfl⟩
        have hy : condB 7 c o (s == 0) (neg s 8) (even s) = !x := by rw [hx]; exact flip_6 c o _ _ _
        have A1 := Hc1.out 6
        have A2 := Hc1.out 7
        have A3 := Hc2.out 6
        rw [← hx] at A1 A3
        rw [hy] at A2
        have HA1 := Lib.hid A1
        have HA2 := Lib.hid A2
        have HA3 := Lib.hid A3
        clear A1 A2 A3 hx hy
        have hbd : Hl W W.heap.size wa.heap.size c o s wr.drew := hl.step (Kp.rfl wr).draw
        obtain ⟨⟨q0, q1, q2⟩, ⟨q3, q4, q5⟩, q6, q7, q8⟩ := hl
        cases x
        all_goals
          simp only [Bool.not_true, Bool.not_false] at HA2
          go_wp2_with fail
          go_region_held3 (fun w' => (w'.cell? ⟨W.heap.size, 0, none⟩ = some (.bool c) ∧ w'.cell? ⟨W.heap.size, 1, none⟩ = some (.bool o) ∧ w'.cell? ⟨W.heap.size, 2, none⟩ = some (.int .u64 s)) ∧ (w'.cell? ⟨wa.heap.size, 0, none⟩ = some (.bool c) ∧ w'.cell? ⟨wa.heap.size, 1, none⟩ = some (.bool o) ∧ w'.cell? ⟨wa.heap.size, 2, none⟩ = some (.int .u64 s)) ∧ W.heap.size < w'.heap.size ∧ wa.heap.size < w'.heap.size ∧ Kp W w') (first | exact hbd | (with_reducible assumption) | exact hs2) ((first | (go_at_call_of 13 (Value.int IntKind.i64 6); refine (HA1.out _).mono ?_; rintro e w2 ⟨rfl, hk2⟩; have hs2 := Hl.step (W0 := W) (b1 := W.heap.size) (b2 := wa.heap.size) (c := c) (o := o) (s := s) (by assumption) hk2; clear hk2) | (go_at_call 13; refine (HA2.out _).mono ?_; rintro e w2 ⟨rfl, hk2⟩; have hs2 := Hl.step (W0 := W) (b1 := W.heap.size) (b2 := wa.heap.size) (c := c) (o := o) (s := s) (by assumption) hk2; clear hk2) | (go_at_call_of 14 (Value.int IntKind.i64 6); refine (HA3.out _).mono ?_; rintro e w2 ⟨rfl, hk2⟩; have hs2 := Hl.step (W0 := W) (b1 := W.heap.size) (b2 := wa.heap.size) (c := c) (o := o) (s := s) (by assumption) hk2; clear hk2)))
          all_goals
            have hend := Hl.step (W0 := W) (b1 := W.heap.size) (b2 := wa.heap.size) (c := c) (o := o) (s := s) (by first | assumption | exact hs2) (Kp.rfl _)
            replace hend := Lib.hid hend
            clear q0 q1 q2 q3 q4 q5 q6 q7 q8 hbd
            go_wp2_with fail
            go_roundw
            case rel => exact ⟨8, by omega, rfl, hend.out⟩
            case measure => simp [intOf]
      · obtain ⟨x, hx⟩ : ∃ x, x = condB 8 c o (s == 0) (neg s 8) (even s) := ⟨_, rfl⟩
        have hy : condB 9 c o (s == 0) (neg s 8) (even s) = !x := by rw [hx]; exact flip_8 c o _ _ _
        have A1 := Hc1.out 8
        have A2 := Hc1.out 9
        have A3 := Hc2.out 8
        rw [← hx] at A1 A3
        rw [hy] at A2
        have HA1 := Lib.hid A1
        have HA2 := Lib.hid A2
        have HA3 := Lib.hid A3
        clear A1 A2 A3 hx hy
        have hbd : Hl W W.heap.size wa.heap.size c o s wr.drew := hl.step (Kp.rfl wr).draw
        obtain ⟨⟨q0, q1, q2⟩, ⟨q3, q4, q5⟩, q6, q7, q8⟩ := hl
        cases x
        all_goals
          simp only [Bool.not_true, Bool.not_false] at HA2
          go_wp2_with fail
          go_region_held3 (fun w' => (w'.cell? ⟨W.heap.size, 0, none⟩ = some (.bool c) ∧ w'.cell? ⟨W.heap.size, 1, none⟩ = some (.bool o) ∧ w'.cell? ⟨W.heap.size, 2, none⟩ = some (.int .u64 s)) ∧ (w'.cell? ⟨wa.heap.size, 0, none⟩ = some (.bool c) ∧ w'.cell? ⟨wa.heap.size, 1, none⟩ = some (.bool o) ∧ w'.cell? ⟨wa.heap.size, 2, none⟩ = some (.int .u64 s)) ∧ W.heap.size < w'.heap.size ∧ wa.heap.size < w'.heap.size ∧ Kp W w') (first | exact hbd | (with_reducible assumption) | exact hs2) ((first | (go_at_call_of 13 (Value.int IntKind.i64 8); refine (HA1.out _).mono ?_; rintro e w2 ⟨rfl, hk2⟩; have hs2 := Hl.step (W0 := W) (b1 := W.heap.size) (b2 := wa.heap.size) (c := c) (o := o) (s := s) (by assumption) hk2; clear hk2) | (go_at_call 13; refine (HA2.out _).mono ?_; rintro e w2 ⟨rfl, hk2⟩; have hs2 := Hl.step (W0 := W) (b1 := W.heap.size) (b2 := wa.heap.size) (c := c) (o := o) (s := s) (by assumption) hk2; clear hk2) | (go_at_call_of 14 (Value.int IntKind.i64 8); refine (HA3.out _).mono ?_; rintro e w2 ⟨rfl, hk2⟩; have hs2 := Hl.step (W0 := W) (b1 := W.heap.size) (b2 := wa.heap.size) (c := c) (o := o) (s := s) (by assumption) hk2; clear hk2)))
          all_goals
            have hend := Hl.step (W0 := W) (b1 := W.heap.size) (b2 := wa.heap.size) (c := c) (o := o) (s := s) (by first | assumption | exact hs2) (Kp.rfl _)
            replace hend := Lib.hid hend
            clear q0 q1 q2 q3 q4 q5 q6 q7 q8 hbd
            go_wp2_with fail
            go_roundw
            case rel => exact ⟨10, by omega, rfl, hend.out⟩
            case measure => simp [intOf]
      · obtain ⟨x, hx⟩ : ∃ x, x = condB 10 c o (s == 0) (neg s 8) (even s) := ⟨_, rfl⟩
        have hy : condB 11 c o (s == 0) (neg s 8) (even s) = !x := by rw [hx]; exact flip_10 c o _ _ _
        have A1 := Hc1.out 10
        have A2 := Hc1.out 11
        have A3 := Hc2.out 10
        rw [← hx] at A1 A3
        rw [hy] at A2
        have HA1 := Lib.hid A1
        have HA2 := Lib.hid A2
        have HA3 := Lib.hid A3
        clear A1 A2 A3 hx hy
        have hbd : Hl W W.heap.size wa.heap.size c o s wr.drew := hl.step (Kp.rfl wr).draw
        obtain ⟨⟨q0, q1, q2⟩, ⟨q3, q4, q5⟩, q6, q7, q8⟩ := hl
        cases x
        all_goals
          simp only [Bool.not_true, Bool.not_false] at HA2
          go_wp2_with fail
          go_region_held3 (fun w' => (w'.cell? ⟨W.heap.size, 0, none⟩ = some (.bool c) ∧ w'.cell? ⟨W.heap.size, 1, none⟩ = some (.bool o) ∧ w'.cell? ⟨W.heap.size, 2, none⟩ = some (.int .u64 s)) ∧ (w'.cell? ⟨wa.heap.size, 0, none⟩ = some (.bool c) ∧ w'.cell? ⟨wa.heap.size, 1, none⟩ = some (.bool o) ∧ w'.cell? ⟨wa.heap.size, 2, none⟩ = some (.int .u64 s)) ∧ W.heap.size < w'.heap.size ∧ wa.heap.size < w'.heap.size ∧ Kp W w') (first | exact hbd | (with_reducible assumption) | exact hs2) ((first | (go_at_call_of 13 (Value.int IntKind.i64 10); refine (HA1.out _).mono ?_; rintro e w2 ⟨rfl, hk2⟩; have hs2 := Hl.step (W0 := W) (b1 := W.heap.size) (b2 := wa.heap.size) (c := c) (o := o) (s := s) (by assumption) hk2; clear hk2) | (go_at_call 13; refine (HA2.out _).mono ?_; rintro e w2 ⟨rfl, hk2⟩; have hs2 := Hl.step (W0 := W) (b1 := W.heap.size) (b2 := wa.heap.size) (c := c) (o := o) (s := s) (by assumption) hk2; clear hk2) | (go_at_call_of 14 (Value.int IntKind.i64 10); refine (HA3.out _).mono ?_; rintro e w2 ⟨rfl, hk2⟩; have hs2 := Hl.step (W0 := W) (b1 := W.heap.size) (b2 := wa.heap.size) (c := c) (o := o) (s := s) (by assumption) hk2; clear hk2)))
          all_goals
            have hend := Hl.step (W0 := W) (b1 := W.heap.size) (b2 := wa.heap.size) (c := c) (o := o) (s := s) (by first | assumption | exact hs2) (Kp.rfl _)
            replace hend := Lib.hid hend
            clear q0 q1 q2 q3 q4 q5 q6 q7 q8 hbd
            go_wp2_with fail
            go_roundw
            case rel => exact ⟨12, by omega, rfl, hend.out⟩
            case measure => simp [intOf]
      · obtain ⟨x, hx⟩ : ∃ x, x = condB 12 c o (s == 0) (neg s 8) (even s) := ⟨_, rfl⟩
        have hy : condB 13 c o (s == 0) (neg s 8) (even s) = !x := by rw [hx]; exact flip_12 c o _ _ _
        have A1 := Hc1.out 12
        have A2 := Hc1.out 13
        have A3 := Hc2.out 12
        rw [← hx] at A1 A3
        rw [hy] at A2
        have HA1 := Lib.hid A1
        have HA2 := Lib.hid A2
        have HA3 := Lib.hid A3
        clear A1 A2 A3 hx hy
        have hbd : Hl W W.heap.size wa.heap.size c o s wr.drew := hl.step (Kp.rfl wr).draw
        obtain ⟨⟨q0, q1, q2⟩, ⟨q3, q4, q5⟩, q6, q7, q8⟩ := hl
        cases x
        all_goals
          simp only [Bool.not_true, Bool.not_false] at HA2
          go_wp2_with fail
          go_region_held3 (fun w' => (w'.cell? ⟨W.heap.size, 0, none⟩ = some (.bool c) ∧ w'.cell? ⟨W.heap.size, 1, none⟩ = some (.bool o) ∧ w'.cell? ⟨W.heap.size, 2, none⟩ = some (.int .u64 s)) ∧ (w'.cell? ⟨wa.heap.size, 0, none⟩ = some (.bool c) ∧ w'.cell? ⟨wa.heap.size, 1, none⟩ = some (.bool o) ∧ w'.cell? ⟨wa.heap.size, 2, none⟩ = some (.int .u64 s)) ∧ W.heap.size < w'.heap.size ∧ wa.heap.size < w'.heap.size ∧ Kp W w') (first | exact hbd | (with_reducible assumption) | exact hs2) ((first | (go_at_call_of 13 (Value.int IntKind.i64 12); refine (HA1.out _).mono ?_; rintro e w2 ⟨rfl, hk2⟩; have hs2 := Hl.step (W0 := W) (b1 := W.heap.size) (b2 := wa.heap.size) (c := c) (o := o) (s := s) (by assumption) hk2; clear hk2) | (go_at_call 13; refine (HA2.out _).mono ?_; rintro e w2 ⟨rfl, hk2⟩; have hs2 := Hl.step (W0 := W) (b1 := W.heap.size) (b2 := wa.heap.size) (c := c) (o := o) (s := s) (by assumption) hk2; clear hk2) | (go_at_call_of 14 (Value.int IntKind.i64 12); refine (HA3.out _).mono ?_; rintro e w2 ⟨rfl, hk2⟩; have hs2 := Hl.step (W0 := W) (b1 := W.heap.size) (b2 := wa.heap.size) (c := c) (o := o) (s := s) (by assumption) hk2; clear hk2)))
          all_goals
            have hend := Hl.step (W0 := W) (b1 := W.heap.size) (b2 := wa.heap.size) (c := c) (o := o) (s := s) (by first | assumption | exact hs2) (Kp.rfl _)
            replace hend := Lib.hid hend
            clear q0 q1 q2 q3 q4 q5 q6 q7 q8 hbd
            go_wp2_with fail
            go_roundw
            case rel => exact ⟨14, by omega, rfl, hend.out⟩
            case measure => simp [intOf]
      · obtain ⟨x, hx⟩ : ∃ x, x = condB 14 c o (s == 0) (neg s 8) (even s) := ⟨_, rfl⟩
        have hy : condB 15 c o (s == 0) (neg s 8) (even s) = !x := by rw [hx]; exact flip_14 c o _ _ _
        have A1 := Hc1.out 14
        have A2 := Hc1.out 15
        have A3 := Hc2.out 14
        rw [← hx] at A1 A3
        rw [hy] at A2
        have HA1 := Lib.hid A1
        have HA2 := Lib.hid A2
        have HA3 := Lib.hid A3
        clear A1 A2 A3 hx hy
        have hbd : Hl W W.heap.size wa.heap.size c o s wr.drew := hl.step (Kp.rfl wr).draw
        obtain ⟨⟨q0, q1, q2⟩, ⟨q3, q4, q5⟩, q6, q7, q8⟩ := hl
        cases x
        all_goals
          simp only [Bool.not_true, Bool.not_false] at HA2
          go_wp2_with fail
          go_region_held3 (fun w' => (w'.cell? ⟨W.heap.size, 0, none⟩ = some (.bool c) ∧ w'.cell? ⟨W.heap.size, 1, none⟩ = some (.bool o) ∧ w'.cell? ⟨W.heap.size, 2, none⟩ = some (.int .u64 s)) ∧ (w'.cell? ⟨wa.heap.size, 0, none⟩ = some (.bool c) ∧ w'.cell? ⟨wa.heap.size, 1, none⟩ = some (.bool o) ∧ w'.cell? ⟨wa.heap.size, 2, none⟩ = some (.int .u64 s)) ∧ W.heap.size < w'.heap.size ∧ wa.heap.size < w'.heap.size ∧ Kp W w') (first | exact hbd | (with_reducible assumption) | exact hs2) ((first | (go_at_call_of 13 (Value.int IntKind.i64 14); refine (HA1.out _).mono ?_; rintro e w2 ⟨rfl, hk2⟩; have hs2 := Hl.step (W0 := W) (b1 := W.heap.size) (b2 := wa.heap.size) (c := c) (o := o) (s := s) (by assumption) hk2; clear hk2) | (go_at_call 13; refine (HA2.out _).mono ?_; rintro e w2 ⟨rfl, hk2⟩; have hs2 := Hl.step (W0 := W) (b1 := W.heap.size) (b2 := wa.heap.size) (c := c) (o := o) (s := s) (by assumption) hk2; clear hk2) | (go_at_call_of 14 (Value.int IntKind.i64 14); refine (HA3.out _).mono ?_; rintro e w2 ⟨rfl, hk2⟩; have hs2 := Hl.step (W0 := W) (b1 := W.heap.size) (b2 := wa.heap.size) (c := c) (o := o) (s := s) (by assumption) hk2; clear hk2)))
          all_goals
            have hend := Hl.step (W0 := W) (b1 := W.heap.size) (b2 := wa.heap.size) (c := c) (o := o) (s := s) (by first | assumption | exact hs2) (Kp.rfl _)
            replace hend := Lib.hid hend
            clear q0 q1 q2 q3 q4 q5 q6 q7 q8 hbd
            go_wp2_with fail
            go_roundw
            case rel => exact ⟨16, by omega, rfl, hend.out⟩
            case measure => simp [intOf]
      · replace hl := Lib.hid hl
        go_wp2_with fail
        refine (awake_any _).mono ?_; rintro e we ⟨rfl, ke⟩
        replace ke := Lib.hid ke
        go_wp2_with fail
        go_ret
        exact ⟨rfl, hl.out.2.2.2.2.next ke.out⟩
end Go.Proofs.YtlbkmdmnijmieaaDoor
