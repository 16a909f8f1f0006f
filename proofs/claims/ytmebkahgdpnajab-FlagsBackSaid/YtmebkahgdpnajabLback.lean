/- Walk of the statement of layer 8 on sums by halves. -/
import Derived.Test.YtmebkahgdpnajabFd
import Derived.Test.YtmebkahgdpnajabFq
import Derived.Test.YtmebkahgdpnajabFh
namespace Go.Proofs.Ytmebkahgdpnajab
open Go Go.RowKit
open Cq (U64 I64 isW nb zx sx neg mask lessV lessC lessO sumV sumC sumO)
attribute [local irreducible] wpList Code.wp

theorem two_new {W w1 : World} {ca cb : Array Value} {t : Nat} (h : Kp ((W.alloc (.cells ca t)).alloc (.cells cb t)) w1) :
    (∀ i, w1.cell? ⟨W.heap.size, i, none⟩ = ca[i]?) ∧ (∀ i, w1.cell? ⟨W.heap.size + 1, i, none⟩ = cb[i]?) ∧ W.heap.size + 1 < w1.heap.size := by
  refine ⟨fun i => ?_, fun i => ?_, ?_⟩
  · rw [h.cell (p := ⟨W.heap.size, i, none⟩) (by simp; omega)]
    simp [go_sem]
  · rw [h.cell (p := ⟨W.heap.size + 1, i, none⟩) (by simp)]
    simp [go_sem]
  · have := h.size; simp at this; omega
set_option maxHeartbeats 1000000 in
set_option maxRecDepth 100000 in
theorem law_back (a0 a1 b0 b1 : Int) (ua0 : U64 a0) (ua1 : U64 a1) (ub0 : U64 b0) (W : World) :
    Calls Try.prog 4 #[.agg #[.int .u64 a0, .int .u64 a1], .agg #[.int .u64 b0, .int .u64 b1]] W fun e W' => e = .returned (.bool true) ∧ Kp W W' := by
  obtain ⟨lo, hlo⟩ : ∃ lo, lo = sumV a0 b0 false 8 := ⟨_, rfl⟩
  obtain ⟨c1, hc1⟩ : ∃ c, c = sumC a0 b0 false 8 := ⟨_, rfl⟩
  obtain ⟨hi, hhi⟩ : ∃ hi, hi = sumV a1 b1 c1 8 := ⟨_, rfl⟩
  obtain ⟨n, hn⟩ : ∃ n, n = lessV 0 a0 false 8 := ⟨_, rfl⟩
  obtain ⟨o1, s1, e1⟩ : ∃ o1 s1, two 1 a0 b0 false false 0 8 = .tuple #[.int .u64 lo, .agg #[.bool c1, .bool o1, .int .u64 s1]] :=
    ⟨_, _, by rw [two_1 a0 b0 false false 0 8 rfl, hlo, hc1]; unfold T th; rfl⟩
  obtain ⟨c2, o2, s2, e2⟩ : ∃ c2 o2 s2, two 3 a1 b1 c1 o1 s1 8 = .tuple #[.int .u64 hi, .agg #[.bool c2, .bool o2, .int .u64 s2]] :=
    ⟨_, _, _, by rw [two_3 a1 b1 c1 o1 s1 8 rfl, hhi]; unfold T th; rfl⟩
  obtain ⟨o3, s3, e3⟩ : ∃ o3 s3, two 6 lo b0 false false 0 8 = .tuple #[.int .u64 a0, .agg #[.bool c1, .bool o3, .int .u64 s3]] :=
    ⟨_, _, by
      rw [two_6 lo b0 false false 0 8 rfl]
      have x1 : lessV lo b0 false 8 = a0 := by rw [hlo, Cq.back_c, Cq.zx_full ua0]
      have x2 : lessC lo b0 false 8 = c1 := by rw [hlo, hc1]; exact (Cq.back_carry a0 b0 8 ua0 ub0).symm
      rw [x1, x2]; unfold T th; rfl⟩
  obtain ⟨c4, o4, s4, e4⟩ : ∃ c4 o4 s4, two 4 hi b1 c1 o3 s3 8 = .tuple #[.int .u64 a1, .agg #[.bool c4, .bool o4, .int .u64 s4]] :=
    ⟨_, _, _, by
      rw [two_4 hi b1 c1 o3 s3 8 rfl]
      have x1 : lessV hi b1 c1 8 = a1 := by rw [hhi, Cq.back_c, Cq.zx_full ua1]
      rw [x1]; unfold T th; rfl⟩
  obtain ⟨o5, s5, e5⟩ : ∃ o5 s5, oneR 19 a0 false false 0 8 = .tuple #[.int .u64 n, .agg #[.bool (a0 != 0), .bool o5, .int .u64 s5]] :=
    ⟨_, _, by rw [one_19 a0 false false 0 8 rfl, hn, Cq.neg_c ua0]; unfold T th; rfl⟩
  obtain ⟨c6, o6, s6, e6⟩ : ∃ c6 o6 s6, two 1 n a0 (a0 != 0) o5 s5 8 = .tuple #[.int .u64 0, .agg #[.bool c6, .bool o6, .int .u64 s6]] :=
    ⟨_, _, _, by
      rw [two_1 n a0 (a0 != 0) o5 s5 8 rfl]
      have x1 : sumV n a0 false 8 = 0 := by rw [hn]; exact Cq.neg_sum a0
      rw [x1]; unfold T th; rfl⟩
  have k1 := fun W => two_any 1 a0 b0 false false 0 8 W
  have k2 := fun W => two_any 3 a1 b1 c1 o1 s1 8 W
  have k3 := fun W => two_any 6 lo b0 false false 0 8 W
  have k4 := fun W => two_any 4 hi b1 c1 o3 s3 8 W
  have k5 := fun W => one_any' 19 a0 false false 0 8 ua0 W
  have k6 := fun W => two_any 1 n a0 (a0 != 0) o5 s5 8 W
  rw [e1] at k1; rw [e2] at k2; rw [e3] at k3; rw [e4] at k4; rw [e5] at k5; rw [e6] at k6
  unfold th at k1 k2 k3 k4 k5 k6
  have K1 := Lib.hid k1
  have K2 := Lib.hid k2
  have K3 := Lib.hid k3
  have K4 := Lib.hid k4
  have K5 := Lib.hid k5
  have K6 := Lib.hid k6
  clear k1 k2 k3 k4 k5 k6 e1 e2 e3 e4 e5 e6 hlo hc1 hhi hn
  go_enter Try.func4, Try.ntmps4
  go_wp2_with fail
  refine (K1.out _).mono ?_; rintro e w1 ⟨rfl, g⟩
  have tf := two_new g
  have A0 := (tf.1 0).trans (show _ = some (.int .u64 a0) from rfl)
  have A1 := (tf.1 1).trans (show _ = some (.int .u64 a1) from rfl)
  have B0 := (tf.2.1 0).trans (show _ = some (.int .u64 b0) from rfl)
  have B1 := (tf.2.1 1).trans (show _ = some (.int .u64 b1) from rfl)
  have bz := tf.2.2
  clear tf
  have az : W.heap.size < w1.heap.size := by omega
  have g1 := Lib.hid g
  clear g
  go_wp2_with fail
  refine (K2.out _).mono ?_; rintro e w2 ⟨rfl, g⟩
  replace A0 := kcell g az A0
  replace A1 := kcell g az A1
  replace B0 := kcell g bz B0
  replace B1 := kcell g bz B1
  replace az := Nat.lt_trans az (ksize g)
  replace bz := Nat.lt_trans bz (ksize g)
  have g2 := Lib.hid g
  clear g
  go_wp2_with fail
  refine (K3.out _).mono ?_; rintro e w3 ⟨rfl, g⟩
  replace A0 := kcell g az A0
  replace A1 := kcell g az A1
  replace B0 := kcell g bz B0
  replace B1 := kcell g bz B1
  replace az := Nat.lt_trans az (ksize g)
  replace bz := Nat.lt_trans bz (ksize g)
  have g3 := Lib.hid g
  clear g
  go_wp2_with fail
  refine (K4.out _).mono ?_; rintro e w4 ⟨rfl, g⟩
  replace A0 := kcell g az A0
  replace A1 := kcell g az A1
  replace B0 := kcell g bz B0
  replace B1 := kcell g bz B1
  replace az := Nat.lt_trans az (ksize g)
  replace bz := Nat.lt_trans bz (ksize g)
  have g4 := Lib.hid g
  clear g
  go_wp2_with fail
  refine (K5.out _).mono ?_; rintro e w5 ⟨rfl, g⟩
  replace A0 := kcell g az A0
  replace A1 := kcell g az A1
  replace B0 := kcell g bz B0
  replace B1 := kcell g bz B1
  replace az := Nat.lt_trans az (ksize g)
  replace bz := Nat.lt_trans bz (ksize g)
  have g5 := Lib.hid g
  clear g
  go_wp2_with fail
  refine (K6.out _).mono ?_; rintro e w6 ⟨rfl, g⟩
  replace A0 := kcell g az A0
  replace A1 := kcell g az A1
  replace B0 := kcell g bz B0
  replace B1 := kcell g bz B1
  have C0 := (kcell_new g 0).trans (show _ = some (.bool (a0 != 0)) from rfl)
  have cz := ksize g
  replace az := Nat.lt_trans az (ksize g)
  replace bz := Nat.lt_trans bz (ksize g)
  have g6 := Lib.hid g
  clear g
  go_wp2_with fail
  refine (awake_any _).mono ?_; rintro e we ⟨rfl, ke⟩
  replace ke := Lib.hid ke
  go_wp2_with fail
  go_ret
  exact ⟨rfl, Kp.next (Kp.new (Kp.next (Kp.new (Kp.next (Kp.new (Kp.next (Kp.new (Kp.next (Kp.new (Kp.next (Kp.new (Kp.next (((Kp.rfl W).new _).new _) g1.out) _) g2.out) _) g3.out) _) g4.out) _) g5.out) _) g6.out) _) ke.out⟩
end Go.Proofs.Ytmebkahgdpnajab
