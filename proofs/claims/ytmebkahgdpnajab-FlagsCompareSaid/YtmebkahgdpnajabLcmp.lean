/- Walk of the statement of layer 8 on comparisons. -/
import Derived.Test.YtmebkahgdpnajabFg
import Derived.Test.YtmebkahgdpnajabFh
namespace Go.Proofs.Ytmebkahgdpnajab
open Go Go.RowKit
open Cq (U64 I64 isW nb zx sx neg mask sg lessV lessC lessO)
attribute [local irreducible] wpList Code.wp

theorem w64' (x : Int) : IntKind.i64.wrap x = wrap64 x := by rw [IntKind.wrap_i64]; unfold wrap64; rfl
theorem law_cmp_bad (a b : Int) (c o : Bool) (s w : Int) (h : isW w = false) (W : World) : Calls Try.prog 3 #[.int .u64 a, .int .u64 b, th c o s, .int .i64 w] W fun e W' => e = .returned (.bool true) ∧ Kp W W' := by
  unfold th
  go_enter Try.func3, Try.ntmps3
  go_wp2_with fail
  refine (is_any _ _).mono ?_; rintro e w' ⟨rfl, rfl⟩
  rw [h]
  go_wp2_with fail
  refine (awake_any _).mono ?_; rintro e we ⟨rfl, ke⟩
  replace ke := Lib.hid ke
  go_wp2_with fail
  go_ret
  exact ⟨rfl, ((Kp.rfl W).new _).next ke.out⟩
set_option maxHeartbeats 1000000 in
theorem law_cmp_is (a b : Int) (c o : Bool) (s w : Int) (ha : U64 a) (hb : U64 b) (h : isW w = true) (W : World) : Calls Try.prog 3 #[.int .u64 a, .int .u64 b, th c o s, .int .i64 w] W fun e W' => e = .returned (.bool true) ∧ Kp W W' := by
  have hp := fun W => two_any 8 a b c o s w W
  rw [two_8 a b c o s w h] at hp
  have eC := Cq.cmp_c a b ha hb h
  have eZ := Cq.cmp_z a b h
  have eS := Cq.cmp_s a b ha hb h
  rw [← Cq.neg_sx8 _ h] at eS
  have us : U64 (sx (lessV a b false w) w) := Cq.sx_u64 w
  have ep : wrap64 (sx a w) = sg a w := by rw [← w64']; exact Cq.i64_sx a h
  have eq : wrap64 (sx b w) = sg b w := by rw [← w64']; exact Cq.i64_sx b h
  have lt := Cq.lt_sign a b h
  obtain ⟨X, hX⟩ : ∃ X, X = zx a w := ⟨_, rfl⟩
  obtain ⟨Y, hY⟩ : ∃ Y, Y = zx b w := ⟨_, rfl⟩
  obtain ⟨P, hP⟩ : ∃ P, P = sg a w := ⟨_, rfl⟩
  obtain ⟨Q, hQ⟩ : ∃ Q, Q = sg b w := ⟨_, rfl⟩
  have xy : (X == Y) = (P == Q) := by
    have := Cq.zx_sg a w
    have := Cq.zx_sg b w
    rw [Bool.eq_iff_iff]; simp only [beq_iff_eq]
    constructor
    · intro g
      rw [hP, hQ]; unfold sg
      rw [Cq.neg_ge a h, Cq.neg_ge b h, ← hX, ← hY, g]
    · intro g
      rw [hX, hY, ← Cq.zx_sg a w, ← Cq.zx_sg b w, ← hP, ← hQ, g]
  clear lt
  rw [← hX, ← hY] at eC eZ
  rw [← hP, ← hQ] at eS
  rw [← hP] at ep
  rw [← hQ] at eq
  unfold T th at hp
  obtain ⟨R, hR⟩ : ∃ R, R = lessV a b false w := ⟨_, rfl⟩
  obtain ⟨F, hF⟩ : ∃ F, F = lessC a b false w := ⟨_, rfl⟩
  obtain ⟨O, hO⟩ : ∃ O, O = lessO a b false w := ⟨_, rfl⟩
  rw [← hR, ← hF, ← hO] at hp
  rw [← hR] at us eZ eS
  rw [← hF] at eC
  rw [← hO] at eS
  obtain ⟨Z, hZ⟩ : ∃ Z, Z = sx R w := ⟨_, rfl⟩
  rw [← hZ] at hp us eZ eS
  have q2 : F = decide (X < Y) := eC
  have k2 : ∀ W, Calls Try.prog 11 #[.agg #[.bool F, .bool O, .int .u64 Z], .int .i64 2] W fun e W' => e = .returned (.bool (decide (X < Y))) ∧ Kp W W' := fun W => (cond_at_2 F O Z us W).mono fun e W' h => ⟨h.1.trans (congrArg (fun z => Ending.returned (.bool z)) q2), h.2⟩
  have q4 : (Z == 0) = (X == Y) := eZ
  have k4 : ∀ W, Calls Try.prog 11 #[.agg #[.bool F, .bool O, .int .u64 Z], .int .i64 4] W fun e W' => e = .returned (.bool ((X == Y))) ∧ Kp W W' := fun W => (cond_at_4 F O Z us W).mono fun e W' h => ⟨h.1.trans (congrArg (fun z => Ending.returned (.bool z)) q4), h.2⟩
  have q6 : (F || Z == 0) = decide (X ≤ Y) := (by rw [eC, eZ, Bool.eq_iff_iff]; simp; omega)
  have k6 : ∀ W, Calls Try.prog 11 #[.agg #[.bool F, .bool O, .int .u64 Z], .int .i64 6] W fun e W' => e = .returned (.bool (decide (X ≤ Y))) ∧ Kp W W' := fun W => (cond_at_6 F O Z us W).mono fun e W' h => ⟨h.1.trans (congrArg (fun z => Ending.returned (.bool z)) q6), h.2⟩
  have q7 : (!(F || Z == 0)) = decide (Y < X) := (by rw [eC, eZ, Bool.eq_iff_iff]; simp; omega)
  have k7 : ∀ W, Calls Try.prog 11 #[.agg #[.bool F, .bool O, .int .u64 Z], .int .i64 7] W fun e W' => e = .returned (.bool (decide (Y < X))) ∧ Kp W W' := fun W => (cond_at_7 F O Z us W).mono fun e W' h => ⟨h.1.trans (congrArg (fun z => Ending.returned (.bool z)) q7), h.2⟩
  have q12 : (neg Z 8 != O) = decide (P < Q) := eS
  have k12 : ∀ W, Calls Try.prog 11 #[.agg #[.bool F, .bool O, .int .u64 Z], .int .i64 12] W fun e W' => e = .returned (.bool (decide (P < Q))) ∧ Kp W W' := fun W => (cond_at_12 F O Z us W).mono fun e W' h => ⟨h.1.trans (congrArg (fun z => Ending.returned (.bool z)) q12), h.2⟩
  have q13 : (!(neg Z 8 != O)) = decide (Q ≤ P) := (by rw [eS, Bool.eq_iff_iff]; simp)
  have k13 : ∀ W, Calls Try.prog 11 #[.agg #[.bool F, .bool O, .int .u64 Z], .int .i64 13] W fun e W' => e = .returned (.bool (decide (Q ≤ P))) ∧ Kp W W' := fun W => (cond_at_13 F O Z us W).mono fun e W' h => ⟨h.1.trans (congrArg (fun z => Ending.returned (.bool z)) q13), h.2⟩
  have q14 : (Z == 0 || (neg Z 8 != O)) = decide (P ≤ Q) := (by rw [eS, eZ, xy, Bool.eq_iff_iff]; simp; omega)
  have k14 : ∀ W, Calls Try.prog 11 #[.agg #[.bool F, .bool O, .int .u64 Z], .int .i64 14] W fun e W' => e = .returned (.bool (decide (P ≤ Q))) ∧ Kp W W' := fun W => (cond_at_14 F O Z us W).mono fun e W' h => ⟨h.1.trans (congrArg (fun z => Ending.returned (.bool z)) q14), h.2⟩
  have q15 : (!(Z == 0 || (neg Z 8 != O))) = decide (Q < P) := (by rw [eS, eZ, xy, Bool.eq_iff_iff]; simp; omega)
  have k15 : ∀ W, Calls Try.prog 11 #[.agg #[.bool F, .bool O, .int .u64 Z], .int .i64 15] W fun e W' => e = .returned (.bool (decide (Q < P))) ∧ Kp W W' := fun W => (cond_at_15 F O Z us W).mono fun e W' h => ⟨h.1.trans (congrArg (fun z => Ending.returned (.bool z)) q15), h.2⟩
  have K2 := Lib.hid k2
  have K4 := Lib.hid k4
  have K6 := Lib.hid k6
  have K7 := Lib.hid k7
  have K12 := Lib.hid k12
  have K13 := Lib.hid k13
  have K14 := Lib.hid k14
  have K15 := Lib.hid k15
  have HP := Lib.hid hp
  have EX := Lib.hid hX.symm
  have EY := Lib.hid hY.symm
  have EP := Lib.hid ep
  have EQ := Lib.hid eq
  clear k2 q2 k4 q4 k6 q6 k7 q7 k12 q12 k13 q13 k14 q14 k15 q15 hp eC eZ eS ep eq hX hY hP hQ xy hR hF hO hZ
  unfold th
  go_enter Try.func3, Try.ntmps3
  go_wp2_with fail
  refine (is_any _ _).mono ?_; rintro e w' ⟨rfl, rfl⟩
  rw [h]
  go_wp2_with fail
  refine (ours_any c o s _).mono ?_; rintro e wa ⟨rfl, ka⟩
  unfold th
  replace ka := Lib.hid ka
  go_wp2_with fail
  refine (HP.out _).mono ?_; rintro e wb ⟨rfl, kb⟩
  replace kb := Lib.hid kb
  go_wp2_with fail
  refine (zx_any _ _ _).mono ?_; rintro e w' ⟨rfl, rfl⟩
  rw [EX.out]
  go_wp2_with fail
  refine (zx_any _ _ _).mono ?_; rintro e w' ⟨rfl, rfl⟩
  rw [EY.out]
  go_wp2_with fail
  refine (sx_any _ _ ha _).mono ?_; rintro e w' ⟨rfl, rfl⟩
  go_wp2_with fail
  refine (sx_any _ _ hb _).mono ?_; rintro e w' ⟨rfl, rfl⟩
  go_wp2_with fail
  rw [EP.out, EQ.out]
  refine (K2.out _).mono ?_; rintro e v2 ⟨rfl, g2⟩
  have b0 := (kcell_new g2 0).trans (show _ = some (.bool F) from rfl)
  have b1 := (kcell_new g2 1).trans (show _ = some (.bool O) from rfl)
  have b2 := (kcell_new g2 2).trans (show _ = some (.int .u64 Z) from rfl)
  have bz := ksize g2
  replace g2 := Lib.hid g2
  go_wp2_with fail
  refine (K4.out _).mono ?_; rintro e v4 ⟨rfl, g4⟩
  replace b0 := (g4.cell (p := ⟨wb.heap.size, 0, none⟩) bz).trans b0
  replace b1 := (g4.cell (p := ⟨wb.heap.size, 1, none⟩) bz).trans b1
  replace b2 := (g4.cell (p := ⟨wb.heap.size, 2, none⟩) bz).trans b2
  replace bz := Nat.lt_of_lt_of_le bz g4.size
  replace g4 := Lib.hid g4
  go_wp2_with fail
  refine (K6.out _).mono ?_; rintro e v6 ⟨rfl, g6⟩
  replace b0 := (g6.cell (p := ⟨wb.heap.size, 0, none⟩) bz).trans b0
  replace b1 := (g6.cell (p := ⟨wb.heap.size, 1, none⟩) bz).trans b1
  replace b2 := (g6.cell (p := ⟨wb.heap.size, 2, none⟩) bz).trans b2
  replace bz := Nat.lt_of_lt_of_le bz g6.size
  replace g6 := Lib.hid g6
  go_wp2_with fail
  refine (K7.out _).mono ?_; rintro e v7 ⟨rfl, g7⟩
  replace b0 := (g7.cell (p := ⟨wb.heap.size, 0, none⟩) bz).trans b0
  replace b1 := (g7.cell (p := ⟨wb.heap.size, 1, none⟩) bz).trans b1
  replace b2 := (g7.cell (p := ⟨wb.heap.size, 2, none⟩) bz).trans b2
  replace bz := Nat.lt_of_lt_of_le bz g7.size
  replace g7 := Lib.hid g7
  go_wp2_with fail
  refine (K12.out _).mono ?_; rintro e v12 ⟨rfl, g12⟩
  replace b0 := (g12.cell (p := ⟨wb.heap.size, 0, none⟩) bz).trans b0
  replace b1 := (g12.cell (p := ⟨wb.heap.size, 1, none⟩) bz).trans b1
  replace b2 := (g12.cell (p := ⟨wb.heap.size, 2, none⟩) bz).trans b2
  replace bz := Nat.lt_of_lt_of_le bz g12.size
  replace g12 := Lib.hid g12
  go_wp2_with fail
  refine (K13.out _).mono ?_; rintro e v13 ⟨rfl, g13⟩
  replace b0 := (g13.cell (p := ⟨wb.heap.size, 0, none⟩) bz).trans b0
  replace b1 := (g13.cell (p := ⟨wb.heap.size, 1, none⟩) bz).trans b1
  replace b2 := (g13.cell (p := ⟨wb.heap.size, 2, none⟩) bz).trans b2
  replace bz := Nat.lt_of_lt_of_le bz g13.size
  replace g13 := Lib.hid g13
  go_wp2_with fail
  refine (K14.out _).mono ?_; rintro e v14 ⟨rfl, g14⟩
  replace b0 := (g14.cell (p := ⟨wb.heap.size, 0, none⟩) bz).trans b0
  replace b1 := (g14.cell (p := ⟨wb.heap.size, 1, none⟩) bz).trans b1
  replace b2 := (g14.cell (p := ⟨wb.heap.size, 2, none⟩) bz).trans b2
  replace bz := Nat.lt_of_lt_of_le bz g14.size
  replace g14 := Lib.hid g14
  go_wp2_with fail
  refine (K15.out _).mono ?_; rintro e v15 ⟨rfl, g15⟩
  replace b0 := (g15.cell (p := ⟨wb.heap.size, 0, none⟩) bz).trans b0
  replace b1 := (g15.cell (p := ⟨wb.heap.size, 1, none⟩) bz).trans b1
  replace b2 := (g15.cell (p := ⟨wb.heap.size, 2, none⟩) bz).trans b2
  replace bz := Nat.lt_of_lt_of_le bz g15.size
  replace g15 := Lib.hid g15
  go_wp2_with fail
  refine (awake_any _).mono ?_; rintro e we ⟨rfl, ke⟩
  replace ke := Lib.hid ke
  go_wp2_with fail
  go_ret
  exact ⟨rfl, Kp.next (Kp.next (Kp.next (Kp.next (Kp.next (Kp.next (Kp.next (Kp.next (Kp.next (Kp.new ((((Kp.rfl W).new _).next ka.out).next kb.out) _) g2.out) g4.out) g6.out) g7.out) g12.out) g13.out) g14.out) g15.out) ke.out⟩
theorem law_cmp (a b : Int) (c o : Bool) (s w : Int) (ha : U64 a) (hb : U64 b) (W : World) : Calls Try.prog 3 #[.int .u64 a, .int .u64 b, th c o s, .int .i64 w] W fun e W' => e = .returned (.bool true) ∧ Kp W W' := by
  cases h : isW w
  · exact law_cmp_bad a b c o s w h W
  · exact law_cmp_is a b c o s w ha hb h W
end Go.Proofs.Ytmebkahgdpnajab
