import Derived.Test.YtbhhfbenajcinaaNf
namespace Go.Proofs.Ytbhhfbenajcinaa
open Go Go.SX Go.Proofs Go.RowKit
set_option maxRecDepth 100000 in
set_option maxHeartbeats 4000000 in
theorem law4 (A : Option Addr) (n c : Nat) (vs : List Value) (W : World) (h : In20 W A n vs) (hnc : n ≤ c) (hcA : A = none → c = 0) : Calls Try.prog 4 #[.slice A n c] W fun e W' => e = .returned (.bool true) ∧ Below W.heap.size W W' := by
  have H := Lib.hid h
  have HC := Lib.hid hcA
  clear h hcA
  go_enter Try.func4, Try.ntmps4
  go_wp2_with fail
  refine (ours12 A n c vs W H.out hnc).mono ?_
  rintro e w1 ⟨o, m, hm, rfl, hO, hK⟩
  have hmn : m ≤ n := by omega
  have hm12 : m ≤ 12 := by omega
  obtain ⟨A2, c2, rfl, hmc, hc2, hI2⟩ := H.out.own hmn hO
  obtain ⟨a0, a1, b, hbd⟩ := bounds (vs := vs.take (m * 20)) hm12
  have HB := Lib.hid hbd
  have HI2 := Lib.hid hI2
  have HC2 := Lib.hid hc2
  have HK := Lib.hid hK
  clear hbd hI2 hc2 hK hO hm
  go_wp2_with fail
  refine (HB.out w1 A2 c2 HI2.out hmc HC2.out).1.mono ?_
  rintro e w2 ⟨rfl, hb2⟩
  have HK2 : Hid (Below W.heap.size W w2) := HK.out.trans (hb2.mono HK.out.size)
  clear hb2
  go_wp2_with fail
  have HKA : Hid (Below W.heap.size W (w2.alloc (.cells #[.int .i64 a0, .int .i64 a1] 44))) := HK2.out.alloc HK2.out.size _
  refine (HB.out _ A c ((H.out.take hmn).low HKA.out) (by omega) HC.out).2.mono ?_
  rintro e w3 ⟨rfl, hb3⟩
  have HK3 : Hid (Below W.heap.size W w3) := HKA.out.trans (hb3.mono HKA.out.size)
  have c40 : w3.cell? ⟨w2.heap.size, 0, none⟩ = some (.int .i64 a0) := by
    rw [hb3.cell (p := ⟨w2.heap.size, 0, none⟩) (by simp)]
    exact cell_of_row _ _ 0 _ 44 (0, 0) (heap_alloc_new w2 _)
  have c41 : w3.cell? ⟨w2.heap.size, 1, none⟩ = some (.int .i64 a1) := by
    rw [hb3.cell (p := ⟨w2.heap.size, 1, none⟩) (by simp)]
    exact cell_of_row _ _ 1 _ 44 (0, 0) (heap_alloc_new w2 _)
  have hlt3 : w2.heap.size < w3.heap.size := by have := hb3.size; simp at this; omega
  clear hb3
  have q0 : (a0 == a0) = true := beq_self_eq_true a0
  have q1 : (a1 == a1) = true := beq_self_eq_true a1
  have qb : (b == b) = true := beq_self_eq_true b
  go_wp2_with (refine (awake9 _).mono ?_; rintro e w4 ⟨rfl, hb4⟩; have HK4 : Hid (Below W.heap.size W w4) := (HK3.out.alloc HK3.out.size _).trans (hb4.mono (by have := HK3.out.size; simp; omega)); clear hb4)
  go_ret
  exact ⟨rfl, HK4.out⟩
end Go.Proofs.Ytbhhfbenajcinaa
