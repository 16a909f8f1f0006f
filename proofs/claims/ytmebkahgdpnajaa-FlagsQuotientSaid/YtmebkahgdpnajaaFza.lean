/- Walks of layer 8: quotients, by the document's own answers. -/
import Derived.Test.YtmebkahgdpnajaaFz
namespace Go.Proofs.Ytmebkahgdpnajaa
open Go Go.RowKit
open Cq (U64 I64 isW nb zx sx neg mask sg isQ qN qA qS qOk)

theorem um : U64 18446744073709551615 := ⟨by decide, by decide⟩
theorem rquoU_1_yes (hi lo d : Int) (hh : U64 hi) (hl : U64 lo) (hd : U64 d) (hz : zx d 1 ≠ 0) (hk : qN hi lo 1 / zx d 1 ≤ zx 18446744073709551615 1) (W : World) : Calls Try.prog 20 #[.int .u64 hi, .int .u64 lo, .int .u64 d, .bool false, .int .i64 1] W fun e W' => e = .returned (quoU hi lo d 1) ∧ W = W' := by
  have hb := Cq.qN_bd hi lo (w := 1) (by decide)
  have e1 := Cq.qN_sum hi lo (w := 1) (by decide)
  rw [show (2 : Int) ^ nb 1 = 256 from rfl] at e1
  unfold quoU
  rw [if_pos hk]
  have zl := Cq.zx_lt d 1
  have z1 := Cq.quo_zx (w := 1) _ (Int.ediv_nonneg hb.1 zl.1) (by decide) hk
  have z2 := Cq.rem_zx (w := 1) (qN hi lo 1) d hz
  obtain ⟨X, hX⟩ : ∃ X, X = qN hi lo 1 := ⟨_, rfl⟩
  obtain ⟨D, hD⟩ : ∃ D, D = zx d 1 := ⟨_, rfl⟩
  rw [← hX] at hb e1 hk z1 z2 ⊢
  rw [← hD] at hz zl hk z1 z2 ⊢
  have HX := Lib.hid e1
  have HD := Lib.hid hD.symm
  have x0 := hb.1
  have ux := hb.2.2
  have d0 : 0 < D := by omega
  have hz1 : (D == 0) = false := by simpa using hz
  have uq : U64 (X / D) := ⟨Int.ediv_nonneg x0 (by omega), Int.lt_of_le_of_lt (Int.ediv_le_self _ x0) ux.2⟩
  have ur : U64 (X % D) := ⟨Int.emod_nonneg _ hz, by have := Int.emod_lt_of_pos X d0; have := Cq.zx_u64 (v := d) 1; rw [← hD] at this; unfold U64 at this; omega⟩
  have HQ : Hid (IntKind.u64.wrap (X.tdiv D) = X / D) := Lib.hid (by rw [Int.tdiv_eq_ediv_of_nonneg x0]; exact Cq.wrap_of_u64 uq)
  rw [show zx 18446744073709551615 1 = 255 from by decide] at hk
  have HZ1 := Lib.hid z1
  have HZ2 := Lib.hid z2
  clear z1 z2
  obtain ⟨q, hq⟩ : ∃ q, q = X / D := ⟨_, rfl⟩
  rw [← hq] at HQ uq hk HZ1 ⊢
  clear hb e1 hX hD zl hz hq 
  go_enter Try.func20, Try.ntmps20
  go_wp2_with fail
  refine (ris_any _ _).mono ?_; rintro e w' ⟨rfl, rfl⟩
  rw [show isW 1 = true from rfl]
  go_wp2_with fail
  refine (rzx_any _ _ hd _).mono ?_; rintro e w' ⟨rfl, rfl⟩
  rw [HD.out]
  go_wp2_with fail
  refine (rzx_any _ _ hh _).mono ?_; rintro e w' ⟨rfl, rfl⟩
  go_wp2_with fail
  refine (rzx_any _ _ hl _).mono ?_; rintro e w' ⟨rfl, rfl⟩
  go_wp2_with fail
  rw [HX.out]
  refine (rzx_any _ _ hd _).mono ?_; rintro e w' ⟨rfl, rfl⟩
  rw [HD.out]
  go_upto_region 13 with fail
  rw [HQ.out]
  go_wp2_with fail
  refine (rzx_any _ _ um _).mono ?_; rintro e w' ⟨rfl, rfl⟩
  rw [show zx 18446744073709551615 1 = 255 from by decide]
  go_wp2_with fail
  refine (rzx_any _ _ uq _).mono ?_; rintro e w' ⟨rfl, rfl⟩
  rw [HZ1.out]
  go_wp2_with fail
  refine (rzx_any _ _ ur _).mono ?_; rintro e w' ⟨rfl, rfl⟩
  rw [HZ2.out]
  go_wp2_with fail
  go_ret3
  exact ⟨rfl, rfl⟩
theorem rquoU_1_no (hi lo d : Int) (hh : U64 hi) (hl : U64 lo) (hd : U64 d) (hz : zx d 1 ≠ 0) (hk : ¬ qN hi lo 1 / zx d 1 ≤ zx 18446744073709551615 1) (W : World) : Calls Try.prog 20 #[.int .u64 hi, .int .u64 lo, .int .u64 d, .bool false, .int .i64 1] W fun e W' => e = .returned (quoU hi lo d 1) ∧ W = W' := by
  have hb := Cq.qN_bd hi lo (w := 1) (by decide)
  have e1 := Cq.qN_sum hi lo (w := 1) (by decide)
  rw [show (2 : Int) ^ nb 1 = 256 from rfl] at e1
  unfold quoU
  rw [if_neg hk]
  have zl := Cq.zx_lt d 1
  obtain ⟨X, hX⟩ : ∃ X, X = qN hi lo 1 := ⟨_, rfl⟩
  obtain ⟨D, hD⟩ : ∃ D, D = zx d 1 := ⟨_, rfl⟩
  rw [← hX] at hb e1 hk 
  rw [← hD] at hz zl hk 
  have HX := Lib.hid e1
  have HD := Lib.hid hD.symm
  have x0 := hb.1
  have ux := hb.2.2
  have d0 : 0 < D := by omega
  have hz1 : (D == 0) = false := by simpa using hz
  have uq : U64 (X / D) := ⟨Int.ediv_nonneg x0 (by omega), Int.lt_of_le_of_lt (Int.ediv_le_self _ x0) ux.2⟩
  have ur : U64 (X % D) := ⟨Int.emod_nonneg _ hz, by have := Int.emod_lt_of_pos X d0; have := Cq.zx_u64 (v := d) 1; rw [← hD] at this; unfold U64 at this; omega⟩
  have HQ : Hid (IntKind.u64.wrap (X.tdiv D) = X / D) := Lib.hid (by rw [Int.tdiv_eq_ediv_of_nonneg x0]; exact Cq.wrap_of_u64 uq)
  rw [show zx 18446744073709551615 1 = 255 from by decide] at hk
  obtain ⟨q, hq⟩ : ∃ q, q = X / D := ⟨_, rfl⟩
  rw [← hq] at HQ uq hk 
  have hk2 := Int.not_le.mp hk
  clear hb e1 hX hD zl hz hq hk
  go_enter Try.func20, Try.ntmps20
  go_wp2_with fail
  refine (ris_any _ _).mono ?_; rintro e w' ⟨rfl, rfl⟩
  rw [show isW 1 = true from rfl]
  go_wp2_with fail
  refine (rzx_any _ _ hd _).mono ?_; rintro e w' ⟨rfl, rfl⟩
  rw [HD.out]
  go_wp2_with fail
  refine (rzx_any _ _ hh _).mono ?_; rintro e w' ⟨rfl, rfl⟩
  go_wp2_with fail
  refine (rzx_any _ _ hl _).mono ?_; rintro e w' ⟨rfl, rfl⟩
  go_wp2_with fail
  rw [HX.out]
  refine (rzx_any _ _ hd _).mono ?_; rintro e w' ⟨rfl, rfl⟩
  rw [HD.out]
  go_upto_region 13 with fail
  rw [HQ.out]
  go_wp2_with fail
  refine (rzx_any _ _ um _).mono ?_; rintro e w' ⟨rfl, rfl⟩
  rw [show zx 18446744073709551615 1 = 255 from by decide]
  go_wp2_with fail
  go_ret3
  exact ⟨rfl, rfl⟩
theorem rquoS_1_false_false_yes (hi lo d : Int) (hh : U64 hi) (hl : U64 lo) (hd : U64 d) (hz : zx d 1 ≠ 0) (hnv : neg hi 1 = false) (hnd : neg d 1 = false) (hk : qOk (qq hi lo d 1) (qm hi lo d 1) 1 = true) (W : World) : Calls Try.prog 20 #[.int .u64 hi, .int .u64 lo, .int .u64 d, .bool true, .int .i64 1] W fun e W' => e = .returned (quoS hi lo d 1) ∧ W = W' := by
  have hb := Cq.qN_bd hi lo (w := 1) (by decide)
  have e1 := Cq.qN_sum hi lo (w := 1) (by decide)
  rw [show (2 : Int) ^ nb 1 = 256 from rfl] at e1
  have ng := Cq.neg_qN hi lo (w := 1) (by decide)
  have zq := Cq.zx_qN hi lo (w := 1) (by decide)
  unfold quoS
  rw [if_pos hk]
  unfold qq qm at hk
  rw [hnv] at ng
  obtain ⟨X, hX⟩ : ∃ X, X = qN hi lo 1 := ⟨_, rfl⟩
  rw [← hX] at hb e1 hk ng zq ⊢
  rw [show (2 * 1 : Int) = 2 from rfl] at hk ng zq ⊢
  have hA := Cq.qA_bd (w := 2) X (by decide)
  have hE := Cq.qA_bd (w := 1) d (by decide)
  have t1 := Cq.tdiv_sign (qA (zx X 2) (neg X 2) (nb 2)) (qA (zx d 1) (neg d 1) (nb 1)) (neg X 2) (neg d 1) hA.1
  have t2 := Cq.tmod_sign (qA (zx X 2) (neg X 2) (nb 2)) (qA (zx d 1) (neg d 1) (nb 1)) (neg X 2) (neg d 1) hA.1
  rw [← Cq.sg_size, ← Cq.sg_size] at t1 t2
  rw [t1, t2]
  clear t1 t2
  have hnd2 := (Cq.neg_zx d 1).trans hnd
  have uD := Cq.zx_u64 (v := d) 1
  rw [ng, hnd, zq] at hk ⊢
  rw [ng, zq] at hA
  rw [hnd] at hE
  obtain ⟨D, hD⟩ : ∃ D, D = zx d 1 := ⟨_, rfl⟩
  rw [← hD] at hk hE hz uD hnd2  ⊢
  obtain ⟨A, hA2⟩ : ∃ A, A = qA X false (nb 2) := ⟨_, rfl⟩
  obtain ⟨E, hE2⟩ : ∃ E, E = qA D false (nb 1) := ⟨_, rfl⟩
  rw [← hA2] at hA hk ⊢
  rw [← hE2] at hE hk ⊢
  have HA : Hid (X = A) := Lib.hid (hA2.symm)
  have HE : Hid (D = E) := Lib.hid (hE2.symm)
  have HX := Lib.hid e1
  have HD := Lib.hid hD.symm
  have HNV := Lib.hid hnv
  have HND := Lib.hid hnd2
  have a0 := hA.1
  have d0 := hE.2.2 hz
  have a1 : A < 18446744073709551616 := Int.lt_of_le_of_lt hA.2.1 (by decide)
  have ux := hb.2.2
  have hz1 : (D == 0) = false := by simpa using hz
  have hz3 : (E == 0) = false := by simp; omega
  have uq : U64 (A / E) := ⟨Int.ediv_nonneg a0 (by omega), Int.lt_of_le_of_lt (Int.ediv_le_self _ a0) a1⟩
  have e1l : E < 18446744073709551616 := Int.lt_of_le_of_lt hE.2.1 (by decide)
  have ur : U64 (A % E) := ⟨Int.emod_nonneg _ (by omega), by have := Int.emod_lt_of_pos A d0; omega⟩
  unfold qOk at hk
  rw [show zx 18446744073709551615 1 = 255 from by decide] at hk
  obtain ⟨q, hq⟩ : ∃ q, q = A / E := ⟨_, rfl⟩
  have HQ := Lib.hid hq.symm
  rw [← hq] at uq hk ⊢
  have hk2 : q ≤ 127 := by simp at hk; omega
  unfold qS
  simp only [show (false != false) = false from rfl]
  clear hb e1 ng zq hA hE hX hD hnv hnd hnd2 hA2 hE2 hz hk hq
  go_enter Try.func20, Try.ntmps20
  go_wp2_with fail
  refine (ris_any _ _).mono ?_; rintro e w' ⟨rfl, rfl⟩
  rw [show isW 1 = true from rfl]
  go_wp2_with fail
  refine (rzx_any _ _ hd _).mono ?_; rintro e w' ⟨rfl, rfl⟩
  rw [HD.out]
  go_wp2_with fail
  refine (rzx_any _ _ hh _).mono ?_; rintro e w' ⟨rfl, rfl⟩
  go_wp2_with fail
  refine (rzx_any _ _ hl _).mono ?_; rintro e w' ⟨rfl, rfl⟩
  go_wp2_with fail
  rw [HX.out]
  refine (rzx_any _ _ hd _).mono ?_; rintro e w' ⟨rfl, rfl⟩
  rw [HD.out]
  go_wp2_with fail
  refine (rneg_any _ _ hh _).mono ?_; rintro e w' ⟨rfl, rfl⟩
  rw [HNV.out]
  go_wp2_with fail
  refine (rneg_any _ _ uD _).mono ?_; rintro e w' ⟨rfl, rfl⟩
  rw [HND.out]
  go_upto_region 11 with fail
  rw [HA.out]
  rw [HE.out]
  go_upto_region 13 with fail
  rw [HQ.out]
  go_wp2_with fail
  refine (rzx_any _ _ um _).mono ?_; rintro e w' ⟨rfl, rfl⟩
  rw [show zx 18446744073709551615 1 = 255 from by decide]
  go_wp2_with fail
  refine (rzx_any _ _ uq _).mono ?_; rintro e w' ⟨rfl, rfl⟩
  go_wp2_with fail
  refine (rzx_any _ _ ur _).mono ?_; rintro e w' ⟨rfl, rfl⟩
  go_wp2_with fail
  go_ret3
  exact ⟨rfl, rfl⟩
theorem rquoS_1_false_false_no (hi lo d : Int) (hh : U64 hi) (hl : U64 lo) (hd : U64 d) (hz : zx d 1 ≠ 0) (hnv : neg hi 1 = false) (hnd : neg d 1 = false) (hk : qOk (qq hi lo d 1) (qm hi lo d 1) 1 = false) (W : World) : Calls Try.prog 20 #[.int .u64 hi, .int .u64 lo, .int .u64 d, .bool true, .int .i64 1] W fun e W' => e = .returned (quoS hi lo d 1) ∧ W = W' := by
  have hb := Cq.qN_bd hi lo (w := 1) (by decide)
  have e1 := Cq.qN_sum hi lo (w := 1) (by decide)
  rw [show (2 : Int) ^ nb 1 = 256 from rfl] at e1
  have ng := Cq.neg_qN hi lo (w := 1) (by decide)
  have zq := Cq.zx_qN hi lo (w := 1) (by decide)
  unfold quoS
  rw [if_neg (by rw [hk]; decide)]
  unfold qq qm at hk
  rw [hnv] at ng
  obtain ⟨X, hX⟩ : ∃ X, X = qN hi lo 1 := ⟨_, rfl⟩
  rw [← hX] at hb e1 hk ng zq 
  rw [show (2 * 1 : Int) = 2 from rfl] at hk ng zq 
  have hA := Cq.qA_bd (w := 2) X (by decide)
  have hE := Cq.qA_bd (w := 1) d (by decide)
  have hnd2 := (Cq.neg_zx d 1).trans hnd
  have uD := Cq.zx_u64 (v := d) 1
  rw [ng, hnd, zq] at hk 
  rw [ng, zq] at hA
  rw [hnd] at hE
  obtain ⟨D, hD⟩ : ∃ D, D = zx d 1 := ⟨_, rfl⟩
  rw [← hD] at hk hE hz uD hnd2  
  obtain ⟨A, hA2⟩ : ∃ A, A = qA X false (nb 2) := ⟨_, rfl⟩
  obtain ⟨E, hE2⟩ : ∃ E, E = qA D false (nb 1) := ⟨_, rfl⟩
  rw [← hA2] at hA hk 
  rw [← hE2] at hE hk 
  have HA : Hid (X = A) := Lib.hid (hA2.symm)
  have HE : Hid (D = E) := Lib.hid (hE2.symm)
  have HX := Lib.hid e1
  have HD := Lib.hid hD.symm
  have HNV := Lib.hid hnv
  have HND := Lib.hid hnd2
  have a0 := hA.1
  have d0 := hE.2.2 hz
  have a1 : A < 18446744073709551616 := Int.lt_of_le_of_lt hA.2.1 (by decide)
  have ux := hb.2.2
  have hz1 : (D == 0) = false := by simpa using hz
  have hz3 : (E == 0) = false := by simp; omega
  have uq : U64 (A / E) := ⟨Int.ediv_nonneg a0 (by omega), Int.lt_of_le_of_lt (Int.ediv_le_self _ a0) a1⟩
  have e1l : E < 18446744073709551616 := Int.lt_of_le_of_lt hE.2.1 (by decide)
  have ur : U64 (A % E) := ⟨Int.emod_nonneg _ (by omega), by have := Int.emod_lt_of_pos A d0; omega⟩
  unfold qOk at hk
  rw [show zx 18446744073709551615 1 = 255 from by decide] at hk
  obtain ⟨q, hq⟩ : ∃ q, q = A / E := ⟨_, rfl⟩
  have HQ := Lib.hid hq.symm
  rw [← hq] at uq hk 
  have hk2 : 127 < q := by simp at hk; omega
  clear hb e1 ng zq hA hE hX hD hnv hnd hnd2 hA2 hE2 hz hk hq
  go_enter Try.func20, Try.ntmps20
  go_wp2_with fail
  refine (ris_any _ _).mono ?_; rintro e w' ⟨rfl, rfl⟩
  rw [show isW 1 = true from rfl]
  go_wp2_with fail
  refine (rzx_any _ _ hd _).mono ?_; rintro e w' ⟨rfl, rfl⟩
  rw [HD.out]
  go_wp2_with fail
  refine (rzx_any _ _ hh _).mono ?_; rintro e w' ⟨rfl, rfl⟩
  go_wp2_with fail
  refine (rzx_any _ _ hl _).mono ?_; rintro e w' ⟨rfl, rfl⟩
  go_wp2_with fail
  rw [HX.out]
  refine (rzx_any _ _ hd _).mono ?_; rintro e w' ⟨rfl, rfl⟩
  rw [HD.out]
  go_wp2_with fail
  refine (rneg_any _ _ hh _).mono ?_; rintro e w' ⟨rfl, rfl⟩
  rw [HNV.out]
  go_wp2_with fail
  refine (rneg_any _ _ uD _).mono ?_; rintro e w' ⟨rfl, rfl⟩
  rw [HND.out]
  go_upto_region 11 with fail
  rw [HA.out]
  rw [HE.out]
  go_upto_region 13 with fail
  rw [HQ.out]
  go_wp2_with fail
  refine (rzx_any _ _ um _).mono ?_; rintro e w' ⟨rfl, rfl⟩
  rw [show zx 18446744073709551615 1 = 255 from by decide]
  go_wp2_with fail
  go_ret3
  exact ⟨rfl, rfl⟩
theorem rquoS_1_false_true_yes (hi lo d : Int) (hh : U64 hi) (hl : U64 lo) (hd : U64 d) (hz : zx d 1 ≠ 0) (hnv : neg hi 1 = false) (hnd : neg d 1 = true) (hk : qOk (qq hi lo d 1) (qm hi lo d 1) 1 = true) (W : World) : Calls Try.prog 20 #[.int .u64 hi, .int .u64 lo, .int .u64 d, .bool true, .int .i64 1] W fun e W' => e = .returned (quoS hi lo d 1) ∧ W = W' := by
  have hb := Cq.qN_bd hi lo (w := 1) (by decide)
  have e1 := Cq.qN_sum hi lo (w := 1) (by decide)
  rw [show (2 : Int) ^ nb 1 = 256 from rfl] at e1
  have ng := Cq.neg_qN hi lo (w := 1) (by decide)
  have zq := Cq.zx_qN hi lo (w := 1) (by decide)
  unfold quoS
  rw [if_pos hk]
  unfold qq qm at hk
  rw [hnv] at ng
  obtain ⟨X, hX⟩ : ∃ X, X = qN hi lo 1 := ⟨_, rfl⟩
  rw [← hX] at hb e1 hk ng zq ⊢
  rw [show (2 * 1 : Int) = 2 from rfl] at hk ng zq ⊢
  have hA := Cq.qA_bd (w := 2) X (by decide)
  have hE := Cq.qA_bd (w := 1) d (by decide)
  have t1 := Cq.tdiv_sign (qA (zx X 2) (neg X 2) (nb 2)) (qA (zx d 1) (neg d 1) (nb 1)) (neg X 2) (neg d 1) hA.1
  have t2 := Cq.tmod_sign (qA (zx X 2) (neg X 2) (nb 2)) (qA (zx d 1) (neg d 1) (nb 1)) (neg X 2) (neg d 1) hA.1
  rw [← Cq.sg_size, ← Cq.sg_size] at t1 t2
  rw [t1, t2]
  clear t1 t2
  have hx := Cq.qA_zx (w := 1) d (by decide) hnd
  rw [Int.zero_sub] at hx
  have hnd2 := (Cq.neg_zx d 1).trans hnd
  have uD := Cq.zx_u64 (v := d) 1
  rw [ng, hnd, zq] at hk ⊢
  rw [ng, zq] at hA
  rw [hnd] at hE
  obtain ⟨D, hD⟩ : ∃ D, D = zx d 1 := ⟨_, rfl⟩
  rw [← hD] at hk hE hz uD hnd2 hx ⊢
  obtain ⟨A, hA2⟩ : ∃ A, A = qA X false (nb 2) := ⟨_, rfl⟩
  obtain ⟨E, hE2⟩ : ∃ E, E = qA D true (nb 1) := ⟨_, rfl⟩
  rw [← hA2] at hA hk ⊢
  rw [← hE2] at hE hk ⊢
  have HA : Hid (X = A) := Lib.hid (hA2.symm)
  have HE : Hid (zx (IntKind.u64.wrap (-D)) 1 = E) := Lib.hid (hx.trans hE2.symm)
  have HX := Lib.hid e1
  have HD := Lib.hid hD.symm
  have HNV := Lib.hid hnv
  have HND := Lib.hid hnd2
  have a0 := hA.1
  have d0 := hE.2.2 hz
  have a1 : A < 18446744073709551616 := Int.lt_of_le_of_lt hA.2.1 (by decide)
  have ux := hb.2.2
  have hz1 : (D == 0) = false := by simpa using hz
  have hz3 : (E == 0) = false := by simp; omega
  have uq : U64 (A / E) := ⟨Int.ediv_nonneg a0 (by omega), Int.lt_of_le_of_lt (Int.ediv_le_self _ a0) a1⟩
  have e1l : E < 18446744073709551616 := Int.lt_of_le_of_lt hE.2.1 (by decide)
  have ur : U64 (A % E) := ⟨Int.emod_nonneg _ (by omega), by have := Int.emod_lt_of_pos A d0; omega⟩
  unfold qOk at hk
  rw [show zx 18446744073709551615 1 = 255 from by decide] at hk
  obtain ⟨q, hq⟩ : ∃ q, q = A / E := ⟨_, rfl⟩
  have HQ := Lib.hid hq.symm
  rw [← hq] at uq hk ⊢
  have hk2 : q ≤ 128 := by simp at hk; omega
  unfold qS
  simp only [show (false != true) = true from rfl]
  have HZ1 := Lib.hid (Cq.zx_wrap (-q) 1)
  clear hb e1 ng zq hA hE hX hD hnv hnd hnd2 hA2 hE2 hz hk hq hx
  go_enter Try.func20, Try.ntmps20
  go_wp2_with fail
  refine (ris_any _ _).mono ?_; rintro e w' ⟨rfl, rfl⟩
  rw [show isW 1 = true from rfl]
  go_wp2_with fail
  refine (rzx_any _ _ hd _).mono ?_; rintro e w' ⟨rfl, rfl⟩
  rw [HD.out]
  go_wp2_with fail
  refine (rzx_any _ _ hh _).mono ?_; rintro e w' ⟨rfl, rfl⟩
  go_wp2_with fail
  refine (rzx_any _ _ hl _).mono ?_; rintro e w' ⟨rfl, rfl⟩
  go_wp2_with fail
  rw [HX.out]
  refine (rzx_any _ _ hd _).mono ?_; rintro e w' ⟨rfl, rfl⟩
  rw [HD.out]
  go_wp2_with fail
  refine (rneg_any _ _ hh _).mono ?_; rintro e w' ⟨rfl, rfl⟩
  rw [HNV.out]
  go_wp2_with fail
  refine (rneg_any _ _ uD _).mono ?_; rintro e w' ⟨rfl, rfl⟩
  rw [HND.out]
  go_wp2_with fail
  refine (rzx_any _ _ (Cq.u64_wrap _) _).mono ?_; rintro e w' ⟨rfl, rfl⟩
  rw [HE.out]
  go_upto_region 11 with fail
  rw [HA.out]
  go_upto_region 13 with fail
  rw [HQ.out]
  go_wp2_with fail
  refine (rzx_any _ _ um _).mono ?_; rintro e w' ⟨rfl, rfl⟩
  rw [show zx 18446744073709551615 1 = 255 from by decide]
  go_wp2_with fail
  refine (rzx_any _ _ (Cq.u64_wrap _) _).mono ?_; rintro e w' ⟨rfl, rfl⟩
  rw [HZ1.out]
  go_wp2_with fail
  refine (rzx_any _ _ ur _).mono ?_; rintro e w' ⟨rfl, rfl⟩
  go_wp2_with fail
  go_ret3
  exact ⟨rfl, rfl⟩
theorem rquoS_1_false_true_no (hi lo d : Int) (hh : U64 hi) (hl : U64 lo) (hd : U64 d) (hz : zx d 1 ≠ 0) (hnv : neg hi 1 = false) (hnd : neg d 1 = true) (hk : qOk (qq hi lo d 1) (qm hi lo d 1) 1 = false) (W : World) : Calls Try.prog 20 #[.int .u64 hi, .int .u64 lo, .int .u64 d, .bool true, .int .i64 1] W fun e W' => e = .returned (quoS hi lo d 1) ∧ W = W' := by
  have hb := Cq.qN_bd hi lo (w := 1) (by decide)
  have e1 := Cq.qN_sum hi lo (w := 1) (by decide)
  rw [show (2 : Int) ^ nb 1 = 256 from rfl] at e1
  have ng := Cq.neg_qN hi lo (w := 1) (by decide)
  have zq := Cq.zx_qN hi lo (w := 1) (by decide)
  unfold quoS
  rw [if_neg (by rw [hk]; decide)]
  unfold qq qm at hk
  rw [hnv] at ng
  obtain ⟨X, hX⟩ : ∃ X, X = qN hi lo 1 := ⟨_, rfl⟩
  rw [← hX] at hb e1 hk ng zq 
  rw [show (2 * 1 : Int) = 2 from rfl] at hk ng zq 
  have hA := Cq.qA_bd (w := 2) X (by decide)
  have hE := Cq.qA_bd (w := 1) d (by decide)
  have hx := Cq.qA_zx (w := 1) d (by decide) hnd
  rw [Int.zero_sub] at hx
  have hnd2 := (Cq.neg_zx d 1).trans hnd
  have uD := Cq.zx_u64 (v := d) 1
  rw [ng, hnd, zq] at hk 
  rw [ng, zq] at hA
  rw [hnd] at hE
  obtain ⟨D, hD⟩ : ∃ D, D = zx d 1 := ⟨_, rfl⟩
  rw [← hD] at hk hE hz uD hnd2 hx 
  obtain ⟨A, hA2⟩ : ∃ A, A = qA X false (nb 2) := ⟨_, rfl⟩
  obtain ⟨E, hE2⟩ : ∃ E, E = qA D true (nb 1) := ⟨_, rfl⟩
  rw [← hA2] at hA hk 
  rw [← hE2] at hE hk 
  have HA : Hid (X = A) := Lib.hid (hA2.symm)
  have HE : Hid (zx (IntKind.u64.wrap (-D)) 1 = E) := Lib.hid (hx.trans hE2.symm)
  have HX := Lib.hid e1
  have HD := Lib.hid hD.symm
  have HNV := Lib.hid hnv
  have HND := Lib.hid hnd2
  have a0 := hA.1
  have d0 := hE.2.2 hz
  have a1 : A < 18446744073709551616 := Int.lt_of_le_of_lt hA.2.1 (by decide)
  have ux := hb.2.2
  have hz1 : (D == 0) = false := by simpa using hz
  have hz3 : (E == 0) = false := by simp; omega
  have uq : U64 (A / E) := ⟨Int.ediv_nonneg a0 (by omega), Int.lt_of_le_of_lt (Int.ediv_le_self _ a0) a1⟩
  have e1l : E < 18446744073709551616 := Int.lt_of_le_of_lt hE.2.1 (by decide)
  have ur : U64 (A % E) := ⟨Int.emod_nonneg _ (by omega), by have := Int.emod_lt_of_pos A d0; omega⟩
  unfold qOk at hk
  rw [show zx 18446744073709551615 1 = 255 from by decide] at hk
  obtain ⟨q, hq⟩ : ∃ q, q = A / E := ⟨_, rfl⟩
  have HQ := Lib.hid hq.symm
  rw [← hq] at uq hk 
  have hk2 : 128 < q := by simp at hk; omega
  clear hb e1 ng zq hA hE hX hD hnv hnd hnd2 hA2 hE2 hz hk hq hx
  go_enter Try.func20, Try.ntmps20
  go_wp2_with fail
  refine (ris_any _ _).mono ?_; rintro e w' ⟨rfl, rfl⟩
  rw [show isW 1 = true from rfl]
  go_wp2_with fail
  refine (rzx_any _ _ hd _).mono ?_; rintro e w' ⟨rfl, rfl⟩
  rw [HD.out]
  go_wp2_with fail
  refine (rzx_any _ _ hh _).mono ?_; rintro e w' ⟨rfl, rfl⟩
  go_wp2_with fail
  refine (rzx_any _ _ hl _).mono ?_; rintro e w' ⟨rfl, rfl⟩
  go_wp2_with fail
  rw [HX.out]
  refine (rzx_any _ _ hd _).mono ?_; rintro e w' ⟨rfl, rfl⟩
  rw [HD.out]
  go_wp2_with fail
  refine (rneg_any _ _ hh _).mono ?_; rintro e w' ⟨rfl, rfl⟩
  rw [HNV.out]
  go_wp2_with fail
  refine (rneg_any _ _ uD _).mono ?_; rintro e w' ⟨rfl, rfl⟩
  rw [HND.out]
  go_wp2_with fail
  refine (rzx_any _ _ (Cq.u64_wrap _) _).mono ?_; rintro e w' ⟨rfl, rfl⟩
  rw [HE.out]
  go_upto_region 11 with fail
  rw [HA.out]
  go_upto_region 13 with fail
  rw [HQ.out]
  go_wp2_with fail
  refine (rzx_any _ _ um _).mono ?_; rintro e w' ⟨rfl, rfl⟩
  rw [show zx 18446744073709551615 1 = 255 from by decide]
  go_wp2_with fail
  go_ret3
  exact ⟨rfl, rfl⟩
theorem rquoS_1_true_false_yes (hi lo d : Int) (hh : U64 hi) (hl : U64 lo) (hd : U64 d) (hz : zx d 1 ≠ 0) (hnv : neg hi 1 = true) (hnd : neg d 1 = false) (hk : qOk (qq hi lo d 1) (qm hi lo d 1) 1 = true) (W : World) : Calls Try.prog 20 #[.int .u64 hi, .int .u64 lo, .int .u64 d, .bool true, .int .i64 1] W fun e W' => e = .returned (quoS hi lo d 1) ∧ W = W' := by
  have hb := Cq.qN_bd hi lo (w := 1) (by decide)
  have e1 := Cq.qN_sum hi lo (w := 1) (by decide)
  rw [show (2 : Int) ^ nb 1 = 256 from rfl] at e1
  have ng := Cq.neg_qN hi lo (w := 1) (by decide)
  have zq := Cq.zx_qN hi lo (w := 1) (by decide)
  unfold quoS
  rw [if_pos hk]
  unfold qq qm at hk
  rw [hnv] at ng
  obtain ⟨X, hX⟩ : ∃ X, X = qN hi lo 1 := ⟨_, rfl⟩
  rw [← hX] at hb e1 hk ng zq ⊢
  rw [show (2 * 1 : Int) = 2 from rfl] at hk ng zq ⊢
  have hA := Cq.qA_bd (w := 2) X (by decide)
  have hE := Cq.qA_bd (w := 1) d (by decide)
  have t1 := Cq.tdiv_sign (qA (zx X 2) (neg X 2) (nb 2)) (qA (zx d 1) (neg d 1) (nb 1)) (neg X 2) (neg d 1) hA.1
  have t2 := Cq.tmod_sign (qA (zx X 2) (neg X 2) (nb 2)) (qA (zx d 1) (neg d 1) (nb 1)) (neg X 2) (neg d 1) hA.1
  rw [← Cq.sg_size, ← Cq.sg_size] at t1 t2
  rw [t1, t2]
  clear t1 t2
  have ha := Cq.qA_zx (w := 2) X (by decide) ng
  rw [zq, Int.zero_sub] at ha
  have hnd2 := (Cq.neg_zx d 1).trans hnd
  have uD := Cq.zx_u64 (v := d) 1
  rw [ng, hnd, zq] at hk ⊢
  rw [ng, zq] at hA
  rw [hnd] at hE
  obtain ⟨D, hD⟩ : ∃ D, D = zx d 1 := ⟨_, rfl⟩
  rw [← hD] at hk hE hz uD hnd2  ⊢
  obtain ⟨A, hA2⟩ : ∃ A, A = qA X true (nb 2) := ⟨_, rfl⟩
  obtain ⟨E, hE2⟩ : ∃ E, E = qA D false (nb 1) := ⟨_, rfl⟩
  rw [← hA2] at hA hk ⊢
  rw [← hE2] at hE hk ⊢
  have HA : Hid (zx (IntKind.u64.wrap (-X)) 2 = A) := Lib.hid (ha.trans hA2.symm)
  have HE : Hid (D = E) := Lib.hid (hE2.symm)
  have HX := Lib.hid e1
  have HD := Lib.hid hD.symm
  have HNV := Lib.hid hnv
  have HND := Lib.hid hnd2
  have a0 := hA.1
  have d0 := hE.2.2 hz
  have a1 : A < 18446744073709551616 := Int.lt_of_le_of_lt hA.2.1 (by decide)
  have ux := hb.2.2
  have hz1 : (D == 0) = false := by simpa using hz
  have hz3 : (E == 0) = false := by simp; omega
  have uq : U64 (A / E) := ⟨Int.ediv_nonneg a0 (by omega), Int.lt_of_le_of_lt (Int.ediv_le_self _ a0) a1⟩
  have e1l : E < 18446744073709551616 := Int.lt_of_le_of_lt hE.2.1 (by decide)
  have ur : U64 (A % E) := ⟨Int.emod_nonneg _ (by omega), by have := Int.emod_lt_of_pos A d0; omega⟩
  unfold qOk at hk
  rw [show zx 18446744073709551615 1 = 255 from by decide] at hk
  obtain ⟨q, hq⟩ : ∃ q, q = A / E := ⟨_, rfl⟩
  have HQ := Lib.hid hq.symm
  rw [← hq] at uq hk ⊢
  have hk2 : q ≤ 128 := by simp at hk; omega
  unfold qS
  simp only [show (true != false) = true from rfl]
  have HZ1 := Lib.hid (Cq.zx_wrap (-q) 1)
  have HZ2 := Lib.hid (Cq.zx_wrap (-(A % E)) 1)
  clear hb e1 ng zq hA hE hX hD hnv hnd hnd2 hA2 hE2 hz hk hq ha
  go_enter Try.func20, Try.ntmps20
  go_wp2_with fail
  refine (ris_any _ _).mono ?_; rintro e w' ⟨rfl, rfl⟩
  rw [show isW 1 = true from rfl]
  go_wp2_with fail
  refine (rzx_any _ _ hd _).mono ?_; rintro e w' ⟨rfl, rfl⟩
  rw [HD.out]
  go_wp2_with fail
  refine (rzx_any _ _ hh _).mono ?_; rintro e w' ⟨rfl, rfl⟩
  go_wp2_with fail
  refine (rzx_any _ _ hl _).mono ?_; rintro e w' ⟨rfl, rfl⟩
  go_wp2_with fail
  rw [HX.out]
  refine (rzx_any _ _ hd _).mono ?_; rintro e w' ⟨rfl, rfl⟩
  rw [HD.out]
  go_wp2_with fail
  refine (rneg_any _ _ hh _).mono ?_; rintro e w' ⟨rfl, rfl⟩
  rw [HNV.out]
  go_wp2_with fail
  refine (rneg_any _ _ uD _).mono ?_; rintro e w' ⟨rfl, rfl⟩
  rw [HND.out]
  go_wp2_with fail
  refine (rzx_any _ _ (Cq.u64_wrap _) _).mono ?_; rintro e w' ⟨rfl, rfl⟩
  rw [HA.out]
  go_upto_region 11 with fail
  rw [HE.out]
  go_upto_region 13 with fail
  rw [HQ.out]
  go_wp2_with fail
  refine (rzx_any _ _ um _).mono ?_; rintro e w' ⟨rfl, rfl⟩
  rw [show zx 18446744073709551615 1 = 255 from by decide]
  go_wp2_with fail
  refine (rzx_any _ _ (Cq.u64_wrap _) _).mono ?_; rintro e w' ⟨rfl, rfl⟩
  rw [HZ1.out]
  go_wp2_with fail
  refine (rzx_any _ _ (Cq.u64_wrap _) _).mono ?_; rintro e w' ⟨rfl, rfl⟩
  rw [HZ2.out]
  go_wp2_with fail
  go_ret3
  exact ⟨rfl, rfl⟩
theorem rquoS_1_true_false_no (hi lo d : Int) (hh : U64 hi) (hl : U64 lo) (hd : U64 d) (hz : zx d 1 ≠ 0) (hnv : neg hi 1 = true) (hnd : neg d 1 = false) (hk : qOk (qq hi lo d 1) (qm hi lo d 1) 1 = false) (W : World) : Calls Try.prog 20 #[.int .u64 hi, .int .u64 lo, .int .u64 d, .bool true, .int .i64 1] W fun e W' => e = .returned (quoS hi lo d 1) ∧ W = W' := by
  have hb := Cq.qN_bd hi lo (w := 1) (by decide)
  have e1 := Cq.qN_sum hi lo (w := 1) (by decide)
  rw [show (2 : Int) ^ nb 1 = 256 from rfl] at e1
  have ng := Cq.neg_qN hi lo (w := 1) (by decide)
  have zq := Cq.zx_qN hi lo (w := 1) (by decide)
  unfold quoS
  rw [if_neg (by rw [hk]; decide)]
  unfold qq qm at hk
  rw [hnv] at ng
  obtain ⟨X, hX⟩ : ∃ X, X = qN hi lo 1 := ⟨_, rfl⟩
  rw [← hX] at hb e1 hk ng zq 
  rw [show (2 * 1 : Int) = 2 from rfl] at hk ng zq 
  have hA := Cq.qA_bd (w := 2) X (by decide)
  have hE := Cq.qA_bd (w := 1) d (by decide)
  have ha := Cq.qA_zx (w := 2) X (by decide) ng
  rw [zq, Int.zero_sub] at ha
  have hnd2 := (Cq.neg_zx d 1).trans hnd
  have uD := Cq.zx_u64 (v := d) 1
  rw [ng, hnd, zq] at hk 
  rw [ng, zq] at hA
  rw [hnd] at hE
  obtain ⟨D, hD⟩ : ∃ D, D = zx d 1 := ⟨_, rfl⟩
  rw [← hD] at hk hE hz uD hnd2  
  obtain ⟨A, hA2⟩ : ∃ A, A = qA X true (nb 2) := ⟨_, rfl⟩
  obtain ⟨E, hE2⟩ : ∃ E, E = qA D false (nb 1) := ⟨_, rfl⟩
  rw [← hA2] at hA hk 
  rw [← hE2] at hE hk 
  have HA : Hid (zx (IntKind.u64.wrap (-X)) 2 = A) := Lib.hid (ha.trans hA2.symm)
  have HE : Hid (D = E) := Lib.hid (hE2.symm)
  have HX := Lib.hid e1
  have HD := Lib.hid hD.symm
  have HNV := Lib.hid hnv
  have HND := Lib.hid hnd2
  have a0 := hA.1
  have d0 := hE.2.2 hz
  have a1 : A < 18446744073709551616 := Int.lt_of_le_of_lt hA.2.1 (by decide)
  have ux := hb.2.2
  have hz1 : (D == 0) = false := by simpa using hz
  have hz3 : (E == 0) = false := by simp; omega
  have uq : U64 (A / E) := ⟨Int.ediv_nonneg a0 (by omega), Int.lt_of_le_of_lt (Int.ediv_le_self _ a0) a1⟩
  have e1l : E < 18446744073709551616 := Int.lt_of_le_of_lt hE.2.1 (by decide)
  have ur : U64 (A % E) := ⟨Int.emod_nonneg _ (by omega), by have := Int.emod_lt_of_pos A d0; omega⟩
  unfold qOk at hk
  rw [show zx 18446744073709551615 1 = 255 from by decide] at hk
  obtain ⟨q, hq⟩ : ∃ q, q = A / E := ⟨_, rfl⟩
  have HQ := Lib.hid hq.symm
  rw [← hq] at uq hk 
  have hk2 : 128 < q := by simp at hk; omega
  clear hb e1 ng zq hA hE hX hD hnv hnd hnd2 hA2 hE2 hz hk hq ha
  go_enter Try.func20, Try.ntmps20
  go_wp2_with fail
  refine (ris_any _ _).mono ?_; rintro e w' ⟨rfl, rfl⟩
  rw [show isW 1 = true from rfl]
  go_wp2_with fail
  refine (rzx_any _ _ hd _).mono ?_; rintro e w' ⟨rfl, rfl⟩
  rw [HD.out]
  go_wp2_with fail
  refine (rzx_any _ _ hh _).mono ?_; rintro e w' ⟨rfl, rfl⟩
  go_wp2_with fail
  refine (rzx_any _ _ hl _).mono ?_; rintro e w' ⟨rfl, rfl⟩
  go_wp2_with fail
  rw [HX.out]
  refine (rzx_any _ _ hd _).mono ?_; rintro e w' ⟨rfl, rfl⟩
  rw [HD.out]
  go_wp2_with fail
  refine (rneg_any _ _ hh _).mono ?_; rintro e w' ⟨rfl, rfl⟩
  rw [HNV.out]
  go_wp2_with fail
  refine (rneg_any _ _ uD _).mono ?_; rintro e w' ⟨rfl, rfl⟩
  rw [HND.out]
  go_wp2_with fail
  refine (rzx_any _ _ (Cq.u64_wrap _) _).mono ?_; rintro e w' ⟨rfl, rfl⟩
  rw [HA.out]
  go_upto_region 11 with fail
  rw [HE.out]
  go_upto_region 13 with fail
  rw [HQ.out]
  go_wp2_with fail
  refine (rzx_any _ _ um _).mono ?_; rintro e w' ⟨rfl, rfl⟩
  rw [show zx 18446744073709551615 1 = 255 from by decide]
  go_wp2_with fail
  go_ret3
  exact ⟨rfl, rfl⟩
theorem rquoS_1_true_true_yes (hi lo d : Int) (hh : U64 hi) (hl : U64 lo) (hd : U64 d) (hz : zx d 1 ≠ 0) (hnv : neg hi 1 = true) (hnd : neg d 1 = true) (hk : qOk (qq hi lo d 1) (qm hi lo d 1) 1 = true) (W : World) : Calls Try.prog 20 #[.int .u64 hi, .int .u64 lo, .int .u64 d, .bool true, .int .i64 1] W fun e W' => e = .returned (quoS hi lo d 1) ∧ W = W' := by
  have hb := Cq.qN_bd hi lo (w := 1) (by decide)
  have e1 := Cq.qN_sum hi lo (w := 1) (by decide)
  rw [show (2 : Int) ^ nb 1 = 256 from rfl] at e1
  have ng := Cq.neg_qN hi lo (w := 1) (by decide)
  have zq := Cq.zx_qN hi lo (w := 1) (by decide)
  unfold quoS
  rw [if_pos hk]
  unfold qq qm at hk
  rw [hnv] at ng
  obtain ⟨X, hX⟩ : ∃ X, X = qN hi lo 1 := ⟨_, rfl⟩
  rw [← hX] at hb e1 hk ng zq ⊢
  rw [show (2 * 1 : Int) = 2 from rfl] at hk ng zq ⊢
  have hA := Cq.qA_bd (w := 2) X (by decide)
  have hE := Cq.qA_bd (w := 1) d (by decide)
  have t1 := Cq.tdiv_sign (qA (zx X 2) (neg X 2) (nb 2)) (qA (zx d 1) (neg d 1) (nb 1)) (neg X 2) (neg d 1) hA.1
  have t2 := Cq.tmod_sign (qA (zx X 2) (neg X 2) (nb 2)) (qA (zx d 1) (neg d 1) (nb 1)) (neg X 2) (neg d 1) hA.1
  rw [← Cq.sg_size, ← Cq.sg_size] at t1 t2
  rw [t1, t2]
  clear t1 t2
  have ha := Cq.qA_zx (w := 2) X (by decide) ng
  rw [zq, Int.zero_sub] at ha
  have hx := Cq.qA_zx (w := 1) d (by decide) hnd
  rw [Int.zero_sub] at hx
  have hnd2 := (Cq.neg_zx d 1).trans hnd
  have uD := Cq.zx_u64 (v := d) 1
  rw [ng, hnd, zq] at hk ⊢
  rw [ng, zq] at hA
  rw [hnd] at hE
  obtain ⟨D, hD⟩ : ∃ D, D = zx d 1 := ⟨_, rfl⟩
  rw [← hD] at hk hE hz uD hnd2 hx ⊢
  obtain ⟨A, hA2⟩ : ∃ A, A = qA X true (nb 2) := ⟨_, rfl⟩
  obtain ⟨E, hE2⟩ : ∃ E, E = qA D true (nb 1) := ⟨_, rfl⟩
  rw [← hA2] at hA hk ⊢
  rw [← hE2] at hE hk ⊢
  have HA : Hid (zx (IntKind.u64.wrap (-X)) 2 = A) := Lib.hid (ha.trans hA2.symm)
  have HE : Hid (zx (IntKind.u64.wrap (-D)) 1 = E) := Lib.hid (hx.trans hE2.symm)
  have HX := Lib.hid e1
  have HD := Lib.hid hD.symm
  have HNV := Lib.hid hnv
  have HND := Lib.hid hnd2
  have a0 := hA.1
  have d0 := hE.2.2 hz
  have a1 : A < 18446744073709551616 := Int.lt_of_le_of_lt hA.2.1 (by decide)
  have ux := hb.2.2
  have hz1 : (D == 0) = false := by simpa using hz
  have hz3 : (E == 0) = false := by simp; omega
  have uq : U64 (A / E) := ⟨Int.ediv_nonneg a0 (by omega), Int.lt_of_le_of_lt (Int.ediv_le_self _ a0) a1⟩
  have e1l : E < 18446744073709551616 := Int.lt_of_le_of_lt hE.2.1 (by decide)
  have ur : U64 (A % E) := ⟨Int.emod_nonneg _ (by omega), by have := Int.emod_lt_of_pos A d0; omega⟩
  unfold qOk at hk
  rw [show zx 18446744073709551615 1 = 255 from by decide] at hk
  obtain ⟨q, hq⟩ : ∃ q, q = A / E := ⟨_, rfl⟩
  have HQ := Lib.hid hq.symm
  rw [← hq] at uq hk ⊢
  have hk2 : q ≤ 127 := by simp at hk; omega
  unfold qS
  simp only [show (true != true) = false from rfl]
  have HZ2 := Lib.hid (Cq.zx_wrap (-(A % E)) 1)
  clear hb e1 ng zq hA hE hX hD hnv hnd hnd2 hA2 hE2 hz hk hq ha hx
  go_enter Try.func20, Try.ntmps20
  go_wp2_with fail
  refine (ris_any _ _).mono ?_; rintro e w' ⟨rfl, rfl⟩
  rw [show isW 1 = true from rfl]
  go_wp2_with fail
  refine (rzx_any _ _ hd _).mono ?_; rintro e w' ⟨rfl, rfl⟩
  rw [HD.out]
  go_wp2_with fail
  refine (rzx_any _ _ hh _).mono ?_; rintro e w' ⟨rfl, rfl⟩
  go_wp2_with fail
  refine (rzx_any _ _ hl _).mono ?_; rintro e w' ⟨rfl, rfl⟩
  go_wp2_with fail
  rw [HX.out]
  refine (rzx_any _ _ hd _).mono ?_; rintro e w' ⟨rfl, rfl⟩
  rw [HD.out]
  go_wp2_with fail
  refine (rneg_any _ _ hh _).mono ?_; rintro e w' ⟨rfl, rfl⟩
  rw [HNV.out]
  go_wp2_with fail
  refine (rneg_any _ _ uD _).mono ?_; rintro e w' ⟨rfl, rfl⟩
  rw [HND.out]
  go_wp2_with fail
  refine (rzx_any _ _ (Cq.u64_wrap _) _).mono ?_; rintro e w' ⟨rfl, rfl⟩
  rw [HA.out]
  go_wp2_with fail
  refine (rzx_any _ _ (Cq.u64_wrap _) _).mono ?_; rintro e w' ⟨rfl, rfl⟩
  rw [HE.out]
  go_upto_region 11 with fail
  go_upto_region 13 with fail
  rw [HQ.out]
  go_wp2_with fail
  refine (rzx_any _ _ um _).mono ?_; rintro e w' ⟨rfl, rfl⟩
  rw [show zx 18446744073709551615 1 = 255 from by decide]
  go_wp2_with fail
  refine (rzx_any _ _ uq _).mono ?_; rintro e w' ⟨rfl, rfl⟩
  go_wp2_with fail
  refine (rzx_any _ _ (Cq.u64_wrap _) _).mono ?_; rintro e w' ⟨rfl, rfl⟩
  rw [HZ2.out]
  go_wp2_with fail
  go_ret3
  exact ⟨rfl, rfl⟩
theorem rquoS_1_true_true_no (hi lo d : Int) (hh : U64 hi) (hl : U64 lo) (hd : U64 d) (hz : zx d 1 ≠ 0) (hnv : neg hi 1 = true) (hnd : neg d 1 = true) (hk : qOk (qq hi lo d 1) (qm hi lo d 1) 1 = false) (W : World) : Calls Try.prog 20 #[.int .u64 hi, .int .u64 lo, .int .u64 d, .bool true, .int .i64 1] W fun e W' => e = .returned (quoS hi lo d 1) ∧ W = W' := by
  have hb := Cq.qN_bd hi lo (w := 1) (by decide)
  have e1 := Cq.qN_sum hi lo (w := 1) (by decide)
  rw [show (2 : Int) ^ nb 1 = 256 from rfl] at e1
  have ng := Cq.neg_qN hi lo (w := 1) (by decide)
  have zq := Cq.zx_qN hi lo (w := 1) (by decide)
  unfold quoS
  rw [if_neg (by rw [hk]; decide)]
  unfold qq qm at hk
  rw [hnv] at ng
  obtain ⟨X, hX⟩ : ∃ X, X = qN hi lo 1 := ⟨_, rfl⟩
  rw [← hX] at hb e1 hk ng zq 
  rw [show (2 * 1 : Int) = 2 from rfl] at hk ng zq 
  have hA := Cq.qA_bd (w := 2) X (by decide)
  have hE := Cq.qA_bd (w := 1) d (by decide)
  have ha := Cq.qA_zx (w := 2) X (by decide) ng
  rw [zq, Int.zero_sub] at ha
  have hx := Cq.qA_zx (w := 1) d (by decide) hnd
  rw [Int.zero_sub] at hx
  have hnd2 := (Cq.neg_zx d 1).trans hnd
  have uD := Cq.zx_u64 (v := d) 1
  rw [ng, hnd, zq] at hk 
  rw [ng, zq] at hA
  rw [hnd] at hE
  obtain ⟨D, hD⟩ : ∃ D, D = zx d 1 := ⟨_, rfl⟩
  rw [← hD] at hk hE hz uD hnd2 hx 
  obtain ⟨A, hA2⟩ : ∃ A, A = qA X true (nb 2) := ⟨_, rfl⟩
  obtain ⟨E, hE2⟩ : ∃ E, E = qA D true (nb 1) := ⟨_, rfl⟩
  rw [← hA2] at hA hk 
  rw [← hE2] at hE hk 
  have HA : Hid (zx (IntKind.u64.wrap (-X)) 2 = A) := Lib.hid (ha.trans hA2.symm)
  have HE : Hid (zx (IntKind.u64.wrap (-D)) 1 = E) := Lib.hid (hx.trans hE2.symm)
  have HX := Lib.hid e1
  have HD := Lib.hid hD.symm
  have HNV := Lib.hid hnv
  have HND := Lib.hid hnd2
  have a0 := hA.1
  have d0 := hE.2.2 hz
  have a1 : A < 18446744073709551616 := Int.lt_of_le_of_lt hA.2.1 (by decide)
  have ux := hb.2.2
  have hz1 : (D == 0) = false := by simpa using hz
  have hz3 : (E == 0) = false := by simp; omega
  have uq : U64 (A / E) := ⟨Int.ediv_nonneg a0 (by omega), Int.lt_of_le_of_lt (Int.ediv_le_self _ a0) a1⟩
  have e1l : E < 18446744073709551616 := Int.lt_of_le_of_lt hE.2.1 (by decide)
  have ur : U64 (A % E) := ⟨Int.emod_nonneg _ (by omega), by have := Int.emod_lt_of_pos A d0; omega⟩
  unfold qOk at hk
  rw [show zx 18446744073709551615 1 = 255 from by decide] at hk
  obtain ⟨q, hq⟩ : ∃ q, q = A / E := ⟨_, rfl⟩
  have HQ := Lib.hid hq.symm
  rw [← hq] at uq hk 
  have hk2 : 127 < q := by simp at hk; omega
  clear hb e1 ng zq hA hE hX hD hnv hnd hnd2 hA2 hE2 hz hk hq ha hx
  go_enter Try.func20, Try.ntmps20
  go_wp2_with fail
  refine (ris_any _ _).mono ?_; rintro e w' ⟨rfl, rfl⟩
  rw [show isW 1 = true from rfl]
  go_wp2_with fail
  refine (rzx_any _ _ hd _).mono ?_; rintro e w' ⟨rfl, rfl⟩
  rw [HD.out]
  go_wp2_with fail
  refine (rzx_any _ _ hh _).mono ?_; rintro e w' ⟨rfl, rfl⟩
  go_wp2_with fail
  refine (rzx_any _ _ hl _).mono ?_; rintro e w' ⟨rfl, rfl⟩
  go_wp2_with fail
  rw [HX.out]
  refine (rzx_any _ _ hd _).mono ?_; rintro e w' ⟨rfl, rfl⟩
  rw [HD.out]
  go_wp2_with fail
  refine (rneg_any _ _ hh _).mono ?_; rintro e w' ⟨rfl, rfl⟩
  rw [HNV.out]
  go_wp2_with fail
  refine (rneg_any _ _ uD _).mono ?_; rintro e w' ⟨rfl, rfl⟩
  rw [HND.out]
  go_wp2_with fail
  refine (rzx_any _ _ (Cq.u64_wrap _) _).mono ?_; rintro e w' ⟨rfl, rfl⟩
  rw [HA.out]
  go_wp2_with fail
  refine (rzx_any _ _ (Cq.u64_wrap _) _).mono ?_; rintro e w' ⟨rfl, rfl⟩
  rw [HE.out]
  go_upto_region 11 with fail
  go_upto_region 13 with fail
  rw [HQ.out]
  go_wp2_with fail
  refine (rzx_any _ _ um _).mono ?_; rintro e w' ⟨rfl, rfl⟩
  rw [show zx 18446744073709551615 1 = 255 from by decide]
  go_wp2_with fail
  go_ret3
  exact ⟨rfl, rfl⟩
theorem rquoU_2_yes (hi lo d : Int) (hh : U64 hi) (hl : U64 lo) (hd : U64 d) (hz : zx d 2 ≠ 0) (hk : qN hi lo 2 / zx d 2 ≤ zx 18446744073709551615 2) (W : World) : Calls Try.prog 20 #[.int .u64 hi, .int .u64 lo, .int .u64 d, .bool false, .int .i64 2] W fun e W' => e = .returned (quoU hi lo d 2) ∧ W = W' := by
  have hb := Cq.qN_bd hi lo (w := 2) (by decide)
  have e1 := Cq.qN_sum hi lo (w := 2) (by decide)
  rw [show (2 : Int) ^ nb 2 = 65536 from rfl] at e1
  unfold quoU
  rw [if_pos hk]
  have zl := Cq.zx_lt d 2
  have z1 := Cq.quo_zx (w := 2) _ (Int.ediv_nonneg hb.1 zl.1) (by decide) hk
  have z2 := Cq.rem_zx (w := 2) (qN hi lo 2) d hz
  obtain ⟨X, hX⟩ : ∃ X, X = qN hi lo 2 := ⟨_, rfl⟩
  obtain ⟨D, hD⟩ : ∃ D, D = zx d 2 := ⟨_, rfl⟩
  rw [← hX] at hb e1 hk z1 z2 ⊢
  rw [← hD] at hz zl hk z1 z2 ⊢
  have HX := Lib.hid e1
  have HD := Lib.hid hD.symm
  have x0 := hb.1
  have ux := hb.2.2
  have d0 : 0 < D := by omega
  have hz1 : (D == 0) = false := by simpa using hz
  have uq : U64 (X / D) := ⟨Int.ediv_nonneg x0 (by omega), Int.lt_of_le_of_lt (Int.ediv_le_self _ x0) ux.2⟩
  have ur : U64 (X % D) := ⟨Int.emod_nonneg _ hz, by have := Int.emod_lt_of_pos X d0; have := Cq.zx_u64 (v := d) 2; rw [← hD] at this; unfold U64 at this; omega⟩
  have HQ : Hid (IntKind.u64.wrap (X.tdiv D) = X / D) := Lib.hid (by rw [Int.tdiv_eq_ediv_of_nonneg x0]; exact Cq.wrap_of_u64 uq)
  rw [show zx 18446744073709551615 2 = 65535 from by decide] at hk
  have HZ1 := Lib.hid z1
  have HZ2 := Lib.hid z2
  clear z1 z2
  obtain ⟨q, hq⟩ : ∃ q, q = X / D := ⟨_, rfl⟩
  rw [← hq] at HQ uq hk HZ1 ⊢
  clear hb e1 hX hD zl hz hq 
  go_enter Try.func20, Try.ntmps20
  go_wp2_with fail
  refine (ris_any _ _).mono ?_; rintro e w' ⟨rfl, rfl⟩
  rw [show isW 2 = true from rfl]
  go_wp2_with fail
  refine (rzx_any _ _ hd _).mono ?_; rintro e w' ⟨rfl, rfl⟩
  rw [HD.out]
  go_wp2_with fail
  refine (rzx_any _ _ hh _).mono ?_; rintro e w' ⟨rfl, rfl⟩
  go_wp2_with fail
  refine (rzx_any _ _ hl _).mono ?_; rintro e w' ⟨rfl, rfl⟩
  go_wp2_with fail
  rw [HX.out]
  refine (rzx_any _ _ hd _).mono ?_; rintro e w' ⟨rfl, rfl⟩
  rw [HD.out]
  go_upto_region 13 with fail
  rw [HQ.out]
  go_wp2_with fail
  refine (rzx_any _ _ um _).mono ?_; rintro e w' ⟨rfl, rfl⟩
  rw [show zx 18446744073709551615 2 = 65535 from by decide]
  go_wp2_with fail
  refine (rzx_any _ _ uq _).mono ?_; rintro e w' ⟨rfl, rfl⟩
  rw [HZ1.out]
  go_wp2_with fail
  refine (rzx_any _ _ ur _).mono ?_; rintro e w' ⟨rfl, rfl⟩
  rw [HZ2.out]
  go_wp2_with fail
  go_ret3
  exact ⟨rfl, rfl⟩
theorem rquoU_2_no (hi lo d : Int) (hh : U64 hi) (hl : U64 lo) (hd : U64 d) (hz : zx d 2 ≠ 0) (hk : ¬ qN hi lo 2 / zx d 2 ≤ zx 18446744073709551615 2) (W : World) : Calls Try.prog 20 #[.int .u64 hi, .int .u64 lo, .int .u64 d, .bool false, .int .i64 2] W fun e W' => e = .returned (quoU hi lo d 2) ∧ W = W' := by
  have hb := Cq.qN_bd hi lo (w := 2) (by decide)
  have e1 := Cq.qN_sum hi lo (w := 2) (by decide)
  rw [show (2 : Int) ^ nb 2 = 65536 from rfl] at e1
  unfold quoU
  rw [if_neg hk]
  have zl := Cq.zx_lt d 2
  obtain ⟨X, hX⟩ : ∃ X, X = qN hi lo 2 := ⟨_, rfl⟩
  obtain ⟨D, hD⟩ : ∃ D, D = zx d 2 := ⟨_, rfl⟩
  rw [← hX] at hb e1 hk 
  rw [← hD] at hz zl hk 
  have HX := Lib.hid e1
  have HD := Lib.hid hD.symm
  have x0 := hb.1
  have ux := hb.2.2
  have d0 : 0 < D := by omega
  have hz1 : (D == 0) = false := by simpa using hz
  have uq : U64 (X / D) := ⟨Int.ediv_nonneg x0 (by omega), Int.lt_of_le_of_lt (Int.ediv_le_self _ x0) ux.2⟩
  have ur : U64 (X % D) := ⟨Int.emod_nonneg _ hz, by have := Int.emod_lt_of_pos X d0; have := Cq.zx_u64 (v := d) 2; rw [← hD] at this; unfold U64 at this; omega⟩
  have HQ : Hid (IntKind.u64.wrap (X.tdiv D) = X / D) := Lib.hid (by rw [Int.tdiv_eq_ediv_of_nonneg x0]; exact Cq.wrap_of_u64 uq)
  rw [show zx 18446744073709551615 2 = 65535 from by decide] at hk
  obtain ⟨q, hq⟩ : ∃ q, q = X / D := ⟨_, rfl⟩
  rw [← hq] at HQ uq hk 
  have hk2 := Int.not_le.mp hk
  clear hb e1 hX hD zl hz hq hk
  go_enter Try.func20, Try.ntmps20
  go_wp2_with fail
  refine (ris_any _ _).mono ?_; rintro e w' ⟨rfl, rfl⟩
  rw [show isW 2 = true from rfl]
  go_wp2_with fail
  refine (rzx_any _ _ hd _).mono ?_; rintro e w' ⟨rfl, rfl⟩
  rw [HD.out]
  go_wp2_with fail
  refine (rzx_any _ _ hh _).mono ?_; rintro e w' ⟨rfl, rfl⟩
  go_wp2_with fail
  refine (rzx_any _ _ hl _).mono ?_; rintro e w' ⟨rfl, rfl⟩
  go_wp2_with fail
  rw [HX.out]
  refine (rzx_any _ _ hd _).mono ?_; rintro e w' ⟨rfl, rfl⟩
  rw [HD.out]
  go_upto_region 13 with fail
  rw [HQ.out]
  go_wp2_with fail
  refine (rzx_any _ _ um _).mono ?_; rintro e w' ⟨rfl, rfl⟩
  rw [show zx 18446744073709551615 2 = 65535 from by decide]
  go_wp2_with fail
  go_ret3
  exact ⟨rfl, rfl⟩
theorem rquoS_2_false_false_yes (hi lo d : Int) (hh : U64 hi) (hl : U64 lo) (hd : U64 d) (hz : zx d 2 ≠ 0) (hnv : neg hi 2 = false) (hnd : neg d 2 = false) (hk : qOk (qq hi lo d 2) (qm hi lo d 2) 2 = true) (W : World) : Calls Try.prog 20 #[.int .u64 hi, .int .u64 lo, .int .u64 d, .bool true, .int .i64 2] W fun e W' => e = .returned (quoS hi lo d 2) ∧ W = W' := by
  have hb := Cq.qN_bd hi lo (w := 2) (by decide)
  have e1 := Cq.qN_sum hi lo (w := 2) (by decide)
  rw [show (2 : Int) ^ nb 2 = 65536 from rfl] at e1
  have ng := Cq.neg_qN hi lo (w := 2) (by decide)
  have zq := Cq.zx_qN hi lo (w := 2) (by decide)
  unfold quoS
  rw [if_pos hk]
  unfold qq qm at hk
  rw [hnv] at ng
  obtain ⟨X, hX⟩ : ∃ X, X = qN hi lo 2 := ⟨_, rfl⟩
  rw [← hX] at hb e1 hk ng zq ⊢
  rw [show (2 * 2 : Int) = 4 from rfl] at hk ng zq ⊢
  have hA := Cq.qA_bd (w := 4) X (by decide)
  have hE := Cq.qA_bd (w := 2) d (by decide)
  have t1 := Cq.tdiv_sign (qA (zx X 4) (neg X 4) (nb 4)) (qA (zx d 2) (neg d 2) (nb 2)) (neg X 4) (neg d 2) hA.1
  have t2 := Cq.tmod_sign (qA (zx X 4) (neg X 4) (nb 4)) (qA (zx d 2) (neg d 2) (nb 2)) (neg X 4) (neg d 2) hA.1
  rw [← Cq.sg_size, ← Cq.sg_size] at t1 t2
  rw [t1, t2]
  clear t1 t2
  have hnd2 := (Cq.neg_zx d 2).trans hnd
  have uD := Cq.zx_u64 (v := d) 2
  rw [ng, hnd, zq] at hk ⊢
  rw [ng, zq] at hA
  rw [hnd] at hE
  obtain ⟨D, hD⟩ : ∃ D, D = zx d 2 := ⟨_, rfl⟩
  rw [← hD] at hk hE hz uD hnd2  ⊢
  obtain ⟨A, hA2⟩ : ∃ A, A = qA X false (nb 4) := ⟨_, rfl⟩
  obtain ⟨E, hE2⟩ : ∃ E, E = qA D false (nb 2) := ⟨_, rfl⟩
  rw [← hA2] at hA hk ⊢
  rw [← hE2] at hE hk ⊢
  have HA : Hid (X = A) := Lib.hid (hA2.symm)
  have HE : Hid (D = E) := Lib.hid (hE2.symm)
  have HX := Lib.hid e1
  have HD := Lib.hid hD.symm
  have HNV := Lib.hid hnv
  have HND := Lib.hid hnd2
  have a0 := hA.1
  have d0 := hE.2.2 hz
  have a1 : A < 18446744073709551616 := Int.lt_of_le_of_lt hA.2.1 (by decide)
  have ux := hb.2.2
  have hz1 : (D == 0) = false := by simpa using hz
  have hz3 : (E == 0) = false := by simp; omega
  have uq : U64 (A / E) := ⟨Int.ediv_nonneg a0 (by omega), Int.lt_of_le_of_lt (Int.ediv_le_self _ a0) a1⟩
  have e1l : E < 18446744073709551616 := Int.lt_of_le_of_lt hE.2.1 (by decide)
  have ur : U64 (A % E) := ⟨Int.emod_nonneg _ (by omega), by have := Int.emod_lt_of_pos A d0; omega⟩
  unfold qOk at hk
  rw [show zx 18446744073709551615 2 = 65535 from by decide] at hk
  obtain ⟨q, hq⟩ : ∃ q, q = A / E := ⟨_, rfl⟩
  have HQ := Lib.hid hq.symm
  rw [← hq] at uq hk ⊢
  have hk2 : q ≤ 32767 := by simp at hk; omega
  unfold qS
  simp only [show (false != false) = false from rfl]
  clear hb e1 ng zq hA hE hX hD hnv hnd hnd2 hA2 hE2 hz hk hq
  go_enter Try.func20, Try.ntmps20
  go_wp2_with fail
  refine (ris_any _ _).mono ?_; rintro e w' ⟨rfl, rfl⟩
  rw [show isW 2 = true from rfl]
  go_wp2_with fail
  refine (rzx_any _ _ hd _).mono ?_; rintro e w' ⟨rfl, rfl⟩
  rw [HD.out]
  go_wp2_with fail
  refine (rzx_any _ _ hh _).mono ?_; rintro e w' ⟨rfl, rfl⟩
  go_wp2_with fail
  refine (rzx_any _ _ hl _).mono ?_; rintro e w' ⟨rfl, rfl⟩
  go_wp2_with fail
  rw [HX.out]
  refine (rzx_any _ _ hd _).mono ?_; rintro e w' ⟨rfl, rfl⟩
  rw [HD.out]
  go_wp2_with fail
  refine (rneg_any _ _ hh _).mono ?_; rintro e w' ⟨rfl, rfl⟩
  rw [HNV.out]
  go_wp2_with fail
  refine (rneg_any _ _ uD _).mono ?_; rintro e w' ⟨rfl, rfl⟩
  rw [HND.out]
  go_upto_region 11 with fail
  rw [HA.out]
  rw [HE.out]
  go_upto_region 13 with fail
  rw [HQ.out]
  go_wp2_with fail
  refine (rzx_any _ _ um _).mono ?_; rintro e w' ⟨rfl, rfl⟩
  rw [show zx 18446744073709551615 2 = 65535 from by decide]
  go_wp2_with fail
  refine (rzx_any _ _ uq _).mono ?_; rintro e w' ⟨rfl, rfl⟩
  go_wp2_with fail
  refine (rzx_any _ _ ur _).mono ?_; rintro e w' ⟨rfl, rfl⟩
  go_wp2_with fail
  go_ret3
  exact ⟨rfl, rfl⟩
theorem rquoS_2_false_false_no (hi lo d : Int) (hh : U64 hi) (hl : U64 lo) (hd : U64 d) (hz : zx d 2 ≠ 0) (hnv : neg hi 2 = false) (hnd : neg d 2 = false) (hk : qOk (qq hi lo d 2) (qm hi lo d 2) 2 = false) (W : World) : Calls Try.prog 20 #[.int .u64 hi, .int .u64 lo, .int .u64 d, .bool true, .int .i64 2] W fun e W' => e = .returned (quoS hi lo d 2) ∧ W = W' := by
  have hb := Cq.qN_bd hi lo (w := 2) (by decide)
  have e1 := Cq.qN_sum hi lo (w := 2) (by decide)
  rw [show (2 : Int) ^ nb 2 = 65536 from rfl] at e1
  have ng := Cq.neg_qN hi lo (w := 2) (by decide)
  have zq := Cq.zx_qN hi lo (w := 2) (by decide)
  unfold quoS
  rw [if_neg (by rw [hk]; decide)]
  unfold qq qm at hk
  rw [hnv] at ng
  obtain ⟨X, hX⟩ : ∃ X, X = qN hi lo 2 := ⟨_, rfl⟩
  rw [← hX] at hb e1 hk ng zq 
  rw [show (2 * 2 : Int) = 4 from rfl] at hk ng zq 
  have hA := Cq.qA_bd (w := 4) X (by decide)
  have hE := Cq.qA_bd (w := 2) d (by decide)
  have hnd2 := (Cq.neg_zx d 2).trans hnd
  have uD := Cq.zx_u64 (v := d) 2
  rw [ng, hnd, zq] at hk 
  rw [ng, zq] at hA
  rw [hnd] at hE
  obtain ⟨D, hD⟩ : ∃ D, D = zx d 2 := ⟨_, rfl⟩
  rw [← hD] at hk hE hz uD hnd2  
  obtain ⟨A, hA2⟩ : ∃ A, A = qA X false (nb 4) := ⟨_, rfl⟩
  obtain ⟨E, hE2⟩ : ∃ E, E = qA D false (nb 2) := ⟨_, rfl⟩
  rw [← hA2] at hA hk 
  rw [← hE2] at hE hk 
  have HA : Hid (X = A) := Lib.hid (hA2.symm)
  have HE : Hid (D = E) := Lib.hid (hE2.symm)
  have HX := Lib.hid e1
  have HD := Lib.hid hD.symm
  have HNV := Lib.hid hnv
  have HND := Lib.hid hnd2
  have a0 := hA.1
  have d0 := hE.2.2 hz
  have a1 : A < 18446744073709551616 := Int.lt_of_le_of_lt hA.2.1 (by decide)
  have ux := hb.2.2
  have hz1 : (D == 0) = false := by simpa using hz
  have hz3 : (E == 0) = false := by simp; omega
  have uq : U64 (A / E) := ⟨Int.ediv_nonneg a0 (by omega), Int.lt_of_le_of_lt (Int.ediv_le_self _ a0) a1⟩
  have e1l : E < 18446744073709551616 := Int.lt_of_le_of_lt hE.2.1 (by decide)
  have ur : U64 (A % E) := ⟨Int.emod_nonneg _ (by omega), by have := Int.emod_lt_of_pos A d0; omega⟩
  unfold qOk at hk
  rw [show zx 18446744073709551615 2 = 65535 from by decide] at hk
  obtain ⟨q, hq⟩ : ∃ q, q = A / E := ⟨_, rfl⟩
  have HQ := Lib.hid hq.symm
  rw [← hq] at uq hk 
  have hk2 : 32767 < q := by simp at hk; omega
  clear hb e1 ng zq hA hE hX hD hnv hnd hnd2 hA2 hE2 hz hk hq
  go_enter Try.func20, Try.ntmps20
  go_wp2_with fail
  refine (ris_any _ _).mono ?_; rintro e w' ⟨rfl, rfl⟩
  rw [show isW 2 = true from rfl]
  go_wp2_with fail
  refine (rzx_any _ _ hd _).mono ?_; rintro e w' ⟨rfl, rfl⟩
  rw [HD.out]
  go_wp2_with fail
  refine (rzx_any _ _ hh _).mono ?_; rintro e w' ⟨rfl, rfl⟩
  go_wp2_with fail
  refine (rzx_any _ _ hl _).mono ?_; rintro e w' ⟨rfl, rfl⟩
  go_wp2_with fail
  rw [HX.out]
  refine (rzx_any _ _ hd _).mono ?_; rintro e w' ⟨rfl, rfl⟩
  rw [HD.out]
  go_wp2_with fail
  refine (rneg_any _ _ hh _).mono ?_; rintro e w' ⟨rfl, rfl⟩
  rw [HNV.out]
  go_wp2_with fail
  refine (rneg_any _ _ uD _).mono ?_; rintro e w' ⟨rfl, rfl⟩
  rw [HND.out]
  go_upto_region 11 with fail
  rw [HA.out]
  rw [HE.out]
  go_upto_region 13 with fail
  rw [HQ.out]
  go_wp2_with fail
  refine (rzx_any _ _ um _).mono ?_; rintro e w' ⟨rfl, rfl⟩
  rw [show zx 18446744073709551615 2 = 65535 from by decide]
  go_wp2_with fail
  go_ret3
  exact ⟨rfl, rfl⟩
theorem rquoS_2_false_true_yes (hi lo d : Int) (hh : U64 hi) (hl : U64 lo) (hd : U64 d) (hz : zx d 2 ≠ 0) (hnv : neg hi 2 = false) (hnd : neg d 2 = true) (hk : qOk (qq hi lo d 2) (qm hi lo d 2) 2 = true) (W : World) : Calls Try.prog 20 #[.int .u64 hi, .int .u64 lo, .int .u64 d, .bool true, .int .i64 2] W fun e W' => e = .returned (quoS hi lo d 2) ∧ W = W' := by
  have hb := Cq.qN_bd hi lo (w := 2) (by decide)
  have e1 := Cq.qN_sum hi lo (w := 2) (by decide)
  rw [show (2 : Int) ^ nb 2 = 65536 from rfl] at e1
  have ng := Cq.neg_qN hi lo (w := 2) (by decide)
  have zq := Cq.zx_qN hi lo (w := 2) (by decide)
  unfold quoS
  rw [if_pos hk]
  unfold qq qm at hk
  rw [hnv] at ng
  obtain ⟨X, hX⟩ : ∃ X, X = qN hi lo 2 := ⟨_, rfl⟩
  rw [← hX] at hb e1 hk ng zq ⊢
  rw [show (2 * 2 : Int) = 4 from rfl] at hk ng zq ⊢
  have hA := Cq.qA_bd (w := 4) X (by decide)
  have hE := Cq.qA_bd (w := 2) d (by decide)
  have t1 := Cq.tdiv_sign (qA (zx X 4) (neg X 4) (nb 4)) (qA (zx d 2) (neg d 2) (nb 2)) (neg X 4) (neg d 2) hA.1
  have t2 := Cq.tmod_sign (qA (zx X 4) (neg X 4) (nb 4)) (qA (zx d 2) (neg d 2) (nb 2)) (neg X 4) (neg d 2) hA.1
  rw [← Cq.sg_size, ← Cq.sg_size] at t1 t2
  rw [t1, t2]
  clear t1 t2
  have hx := Cq.qA_zx (w := 2) d (by decide) hnd
  rw [Int.zero_sub] at hx
  have hnd2 := (Cq.neg_zx d 2).trans hnd
  have uD := Cq.zx_u64 (v := d) 2
  rw [ng, hnd, zq] at hk ⊢
  rw [ng, zq] at hA
  rw [hnd] at hE
  obtain ⟨D, hD⟩ : ∃ D, D = zx d 2 := ⟨_, rfl⟩
  rw [← hD] at hk hE hz uD hnd2 hx ⊢
  obtain ⟨A, hA2⟩ : ∃ A, A = qA X false (nb 4) := ⟨_, rfl⟩
  obtain ⟨E, hE2⟩ : ∃ E, E = qA D true (nb 2) := ⟨_, rfl⟩
  rw [← hA2] at hA hk ⊢
  rw [← hE2] at hE hk ⊢
  have HA : Hid (X = A) := Lib.hid (hA2.symm)
  have HE : Hid (zx (IntKind.u64.wrap (-D)) 2 = E) := Lib.hid (hx.trans hE2.symm)
  have HX := Lib.hid e1
  have HD := Lib.hid hD.symm
  have HNV := Lib.hid hnv
  have HND := Lib.hid hnd2
  have a0 := hA.1
  have d0 := hE.2.2 hz
  have a1 : A < 18446744073709551616 := Int.lt_of_le_of_lt hA.2.1 (by decide)
  have ux := hb.2.2
  have hz1 : (D == 0) = false := by simpa using hz
  have hz3 : (E == 0) = false := by simp; omega
  have uq : U64 (A / E) := ⟨Int.ediv_nonneg a0 (by omega), Int.lt_of_le_of_lt (Int.ediv_le_self _ a0) a1⟩
  have e1l : E < 18446744073709551616 := Int.lt_of_le_of_lt hE.2.1 (by decide)
  have ur : U64 (A % E) := ⟨Int.emod_nonneg _ (by omega), by have := Int.emod_lt_of_pos A d0; omega⟩
  unfold qOk at hk
  rw [show zx 18446744073709551615 2 = 65535 from by decide] at hk
  obtain ⟨q, hq⟩ : ∃ q, q = A / E := ⟨_, rfl⟩
  have HQ := Lib.hid hq.symm
  rw [← hq] at uq hk ⊢
  have hk2 : q ≤ 32768 := by simp at hk; omega
  unfold qS
  simp only [show (false != true) = true from rfl]
  have HZ1 := Lib.hid (Cq.zx_wrap (-q) 2)
  clear hb e1 ng zq hA hE hX hD hnv hnd hnd2 hA2 hE2 hz hk hq hx
  go_enter Try.func20, Try.ntmps20
  go_wp2_with fail
  refine (ris_any _ _).mono ?_; rintro e w' ⟨rfl, rfl⟩
  rw [show isW 2 = true from rfl]
  go_wp2_with fail
  refine (rzx_any _ _ hd _).mono ?_; rintro e w' ⟨rfl, rfl⟩
  rw [HD.out]
  go_wp2_with fail
  refine (rzx_any _ _ hh _).mono ?_; rintro e w' ⟨rfl, rfl⟩
  go_wp2_with fail
  refine (rzx_any _ _ hl _).mono ?_; rintro e w' ⟨rfl, rfl⟩
  go_wp2_with fail
  rw [HX.out]
  refine (rzx_any _ _ hd _).mono ?_; rintro e w' ⟨rfl, rfl⟩
  rw [HD.out]
  go_wp2_with fail
  refine (rneg_any _ _ hh _).mono ?_; rintro e w' ⟨rfl, rfl⟩
  rw [HNV.out]
  go_wp2_with fail
  refine (rneg_any _ _ uD _).mono ?_; rintro e w' ⟨rfl, rfl⟩
  rw [HND.out]
  go_wp2_with fail
  refine (rzx_any _ _ (Cq.u64_wrap _) _).mono ?_; rintro e w' ⟨rfl, rfl⟩
  rw [HE.out]
  go_upto_region 11 with fail
  rw [HA.out]
  go_upto_region 13 with fail
  rw [HQ.out]
  go_wp2_with fail
  refine (rzx_any _ _ um _).mono ?_; rintro e w' ⟨rfl, rfl⟩
  rw [show zx 18446744073709551615 2 = 65535 from by decide]
  go_wp2_with fail
  refine (rzx_any _ _ (Cq.u64_wrap _) _).mono ?_; rintro e w' ⟨rfl, rfl⟩
  rw [HZ1.out]
  go_wp2_with fail
  refine (rzx_any _ _ ur _).mono ?_; rintro e w' ⟨rfl, rfl⟩
  go_wp2_with fail
  go_ret3
  exact ⟨rfl, rfl⟩
theorem rquoS_2_false_true_no (hi lo d : Int) (hh : U64 hi) (hl : U64 lo) (hd : U64 d) (hz : zx d 2 ≠ 0) (hnv : neg hi 2 = false) (hnd : neg d 2 = true) (hk : qOk (qq hi lo d 2) (qm hi lo d 2) 2 = false) (W : World) : Calls Try.prog 20 #[.int .u64 hi, .int .u64 lo, .int .u64 d, .bool true, .int .i64 2] W fun e W' => e = .returned (quoS hi lo d 2) ∧ W = W' := by
  have hb := Cq.qN_bd hi lo (w := 2) (by decide)
  have e1 := Cq.qN_sum hi lo (w := 2) (by decide)
  rw [show (2 : Int) ^ nb 2 = 65536 from rfl] at e1
  have ng := Cq.neg_qN hi lo (w := 2) (by decide)
  have zq := Cq.zx_qN hi lo (w := 2) (by decide)
  unfold quoS
  rw [if_neg (by rw [hk]; decide)]
  unfold qq qm at hk
  rw [hnv] at ng
  obtain ⟨X, hX⟩ : ∃ X, X = qN hi lo 2 := ⟨_, rfl⟩
  rw [← hX] at hb e1 hk ng zq 
  rw [show (2 * 2 : Int) = 4 from rfl] at hk ng zq 
  have hA := Cq.qA_bd (w := 4) X (by decide)
  have hE := Cq.qA_bd (w := 2) d (by decide)
  have hx := Cq.qA_zx (w := 2) d (by decide) hnd
  rw [Int.zero_sub] at hx
  have hnd2 := (Cq.neg_zx d 2).trans hnd
  have uD := Cq.zx_u64 (v := d) 2
  rw [ng, hnd, zq] at hk 
  rw [ng, zq] at hA
  rw [hnd] at hE
  obtain ⟨D, hD⟩ : ∃ D, D = zx d 2 := ⟨_, rfl⟩
  rw [← hD] at hk hE hz uD hnd2 hx 
  obtain ⟨A, hA2⟩ : ∃ A, A = qA X false (nb 4) := ⟨_, rfl⟩
  obtain ⟨E, hE2⟩ : ∃ E, E = qA D true (nb 2) := ⟨_, rfl⟩
  rw [← hA2] at hA hk 
  rw [← hE2] at hE hk 
  have HA : Hid (X = A) := Lib.hid (hA2.symm)
  have HE : Hid (zx (IntKind.u64.wrap (-D)) 2 = E) := Lib.hid (hx.trans hE2.symm)
  have HX := Lib.hid e1
  have HD := Lib.hid hD.symm
  have HNV := Lib.hid hnv
  have HND := Lib.hid hnd2
  have a0 := hA.1
  have d0 := hE.2.2 hz
  have a1 : A < 18446744073709551616 := Int.lt_of_le_of_lt hA.2.1 (by decide)
  have ux := hb.2.2
  have hz1 : (D == 0) = false := by simpa using hz
  have hz3 : (E == 0) = false := by simp; omega
  have uq : U64 (A / E) := ⟨Int.ediv_nonneg a0 (by omega), Int.lt_of_le_of_lt (Int.ediv_le_self _ a0) a1⟩
  have e1l : E < 18446744073709551616 := Int.lt_of_le_of_lt hE.2.1 (by decide)
  have ur : U64 (A % E) := ⟨Int.emod_nonneg _ (by omega), by have := Int.emod_lt_of_pos A d0; omega⟩
  unfold qOk at hk
  rw [show zx 18446744073709551615 2 = 65535 from by decide] at hk
  obtain ⟨q, hq⟩ : ∃ q, q = A / E := ⟨_, rfl⟩
  have HQ := Lib.hid hq.symm
  rw [← hq] at uq hk 
  have hk2 : 32768 < q := by simp at hk; omega
  clear hb e1 ng zq hA hE hX hD hnv hnd hnd2 hA2 hE2 hz hk hq hx
  go_enter Try.func20, Try.ntmps20
  go_wp2_with fail
  refine (ris_any _ _).mono ?_; rintro e w' ⟨rfl, rfl⟩
  rw [show isW 2 = true from rfl]
  go_wp2_with fail
  refine (rzx_any _ _ hd _).mono ?_; rintro e w' ⟨rfl, rfl⟩
  rw [HD.out]
  go_wp2_with fail
  refine (rzx_any _ _ hh _).mono ?_; rintro e w' ⟨rfl, rfl⟩
  go_wp2_with fail
  refine (rzx_any _ _ hl _).mono ?_; rintro e w' ⟨rfl, rfl⟩
  go_wp2_with fail
  rw [HX.out]
  refine (rzx_any _ _ hd _).mono ?_; rintro e w' ⟨rfl, rfl⟩
  rw [HD.out]
  go_wp2_with fail
  refine (rneg_any _ _ hh _).mono ?_; rintro e w' ⟨rfl, rfl⟩
  rw [HNV.out]
  go_wp2_with fail
  refine (rneg_any _ _ uD _).mono ?_; rintro e w' ⟨rfl, rfl⟩
  rw [HND.out]
  go_wp2_with fail
  refine (rzx_any _ _ (Cq.u64_wrap _) _).mono ?_; rintro e w' ⟨rfl, rfl⟩
  rw [HE.out]
  go_upto_region 11 with fail
  rw [HA.out]
  go_upto_region 13 with fail
  rw [HQ.out]
  go_wp2_with fail
  refine (rzx_any _ _ um _).mono ?_; rintro e w' ⟨rfl, rfl⟩
  rw [show zx 18446744073709551615 2 = 65535 from by decide]
  go_wp2_with fail
  go_ret3
  exact ⟨rfl, rfl⟩
theorem rquoS_2_true_false_yes (hi lo d : Int) (hh : U64 hi) (hl : U64 lo) (hd : U64 d) (hz : zx d 2 ≠ 0) (hnv : neg hi 2 = true) (hnd : neg d 2 = false) (hk : qOk (qq hi lo d 2) (qm hi lo d 2) 2 = true) (W : World) : Calls Try.prog 20 #[.int .u64 hi, .int .u64 lo, .int .u64 d, .bool true, .int .i64 2] W fun e W' => e = .returned (quoS hi lo d 2) ∧ W = W' := by
  have hb := Cq.qN_bd hi lo (w := 2) (by decide)
  have e1 := Cq.qN_sum hi lo (w := 2) (by decide)
  rw [show (2 : Int) ^ nb 2 = 65536 from rfl] at e1
  have ng := Cq.neg_qN hi lo (w := 2) (by decide)
  have zq := Cq.zx_qN hi lo (w := 2) (by decide)
  unfold quoS
  rw [if_pos hk]
  unfold qq qm at hk
  rw [hnv] at ng
  obtain ⟨X, hX⟩ : ∃ X, X = qN hi lo 2 := ⟨_, rfl⟩
  rw [← hX] at hb e1 hk ng zq ⊢
  rw [show (2 * 2 : Int) = 4 from rfl] at hk ng zq ⊢
  have hA := Cq.qA_bd (w := 4) X (by decide)
  have hE := Cq.qA_bd (w := 2) d (by decide)
  have t1 := Cq.tdiv_sign (qA (zx X 4) (neg X 4) (nb 4)) (qA (zx d 2) (neg d 2) (nb 2)) (neg X 4) (neg d 2) hA.1
  have t2 := Cq.tmod_sign (qA (zx X 4) (neg X 4) (nb 4)) (qA (zx d 2) (neg d 2) (nb 2)) (neg X 4) (neg d 2) hA.1
  rw [← Cq.sg_size, ← Cq.sg_size] at t1 t2
  rw [t1, t2]
  clear t1 t2
  have ha := Cq.qA_zx (w := 4) X (by decide) ng
  rw [zq, Int.zero_sub] at ha
  have hnd2 := (Cq.neg_zx d 2).trans hnd
  have uD := Cq.zx_u64 (v := d) 2
  rw [ng, hnd, zq] at hk ⊢
  rw [ng, zq] at hA
  rw [hnd] at hE
  obtain ⟨D, hD⟩ : ∃ D, D = zx d 2 := ⟨_, rfl⟩
  rw [← hD] at hk hE hz uD hnd2  ⊢
  obtain ⟨A, hA2⟩ : ∃ A, A = qA X true (nb 4) := ⟨_, rfl⟩
  obtain ⟨E, hE2⟩ : ∃ E, E = qA D false (nb 2) := ⟨_, rfl⟩
  rw [← hA2] at hA hk ⊢
  rw [← hE2] at hE hk ⊢
  have HA : Hid (zx (IntKind.u64.wrap (-X)) 4 = A) := Lib.hid (ha.trans hA2.symm)
  have HE : Hid (D = E) := Lib.hid (hE2.symm)
  have HX := Lib.hid e1
  have HD := Lib.hid hD.symm
  have HNV := Lib.hid hnv
  have HND := Lib.hid hnd2
  have a0 := hA.1
  have d0 := hE.2.2 hz
  have a1 : A < 18446744073709551616 := Int.lt_of_le_of_lt hA.2.1 (by decide)
  have ux := hb.2.2
  have hz1 : (D == 0) = false := by simpa using hz
  have hz3 : (E == 0) = false := by simp; omega
  have uq : U64 (A / E) := ⟨Int.ediv_nonneg a0 (by omega), Int.lt_of_le_of_lt (Int.ediv_le_self _ a0) a1⟩
  have e1l : E < 18446744073709551616 := Int.lt_of_le_of_lt hE.2.1 (by decide)
  have ur : U64 (A % E) := ⟨Int.emod_nonneg _ (by omega), by have := Int.emod_lt_of_pos A d0; omega⟩
  unfold qOk at hk
  rw [show zx 18446744073709551615 2 = 65535 from by decide] at hk
  obtain ⟨q, hq⟩ : ∃ q, q = A / E := ⟨_, rfl⟩
  have HQ := Lib.hid hq.symm
  rw [← hq] at uq hk ⊢
  have hk2 : q ≤ 32768 := by simp at hk; omega
  unfold qS
  simp only [show (true != false) = true from rfl]
  have HZ1 := Lib.hid (Cq.zx_wrap (-q) 2)
  have HZ2 := Lib.hid (Cq.zx_wrap (-(A % E)) 2)
  clear hb e1 ng zq hA hE hX hD hnv hnd hnd2 hA2 hE2 hz hk hq ha
  go_enter Try.func20, Try.ntmps20
  go_wp2_with fail
  refine (ris_any _ _).mono ?_; rintro e w' ⟨rfl, rfl⟩
  rw [show isW 2 = true from rfl]
  go_wp2_with fail
  refine (rzx_any _ _ hd _).mono ?_; rintro e w' ⟨rfl, rfl⟩
  rw [HD.out]
  go_wp2_with fail
  refine (rzx_any _ _ hh _).mono ?_; rintro e w' ⟨rfl, rfl⟩
  go_wp2_with fail
  refine (rzx_any _ _ hl _).mono ?_; rintro e w' ⟨rfl, rfl⟩
  go_wp2_with fail
  rw [HX.out]
  refine (rzx_any _ _ hd _).mono ?_; rintro e w' ⟨rfl, rfl⟩
  rw [HD.out]
  go_wp2_with fail
  refine (rneg_any _ _ hh _).mono ?_; rintro e w' ⟨rfl, rfl⟩
  rw [HNV.out]
  go_wp2_with fail
  refine (rneg_any _ _ uD _).mono ?_; rintro e w' ⟨rfl, rfl⟩
  rw [HND.out]
  go_wp2_with fail
  refine (rzx_any _ _ (Cq.u64_wrap _) _).mono ?_; rintro e w' ⟨rfl, rfl⟩
  rw [HA.out]
  go_upto_region 11 with fail
  rw [HE.out]
  go_upto_region 13 with fail
  rw [HQ.out]
  go_wp2_with fail
  refine (rzx_any _ _ um _).mono ?_; rintro e w' ⟨rfl, rfl⟩
  rw [show zx 18446744073709551615 2 = 65535 from by decide]
  go_wp2_with fail
  refine (rzx_any _ _ (Cq.u64_wrap _) _).mono ?_; rintro e w' ⟨rfl, rfl⟩
  rw [HZ1.out]
  go_wp2_with fail
  refine (rzx_any _ _ (Cq.u64_wrap _) _).mono ?_; rintro e w' ⟨rfl, rfl⟩
  rw [HZ2.out]
  go_wp2_with fail
  go_ret3
  exact ⟨rfl, rfl⟩
theorem rquoS_2_true_false_no (hi lo d : Int) (hh : U64 hi) (hl : U64 lo) (hd : U64 d) (hz : zx d 2 ≠ 0) (hnv : neg hi 2 = true) (hnd : neg d 2 = false) (hk : qOk (qq hi lo d 2) (qm hi lo d 2) 2 = false) (W : World) : Calls Try.prog 20 #[.int .u64 hi, .int .u64 lo, .int .u64 d, .bool true, .int .i64 2] W fun e W' => e = .returned (quoS hi lo d 2) ∧ W = W' := by
  have hb := Cq.qN_bd hi lo (w := 2) (by decide)
  have e1 := Cq.qN_sum hi lo (w := 2) (by decide)
  rw [show (2 : Int) ^ nb 2 = 65536 from rfl] at e1
  have ng := Cq.neg_qN hi lo (w := 2) (by decide)
  have zq := Cq.zx_qN hi lo (w := 2) (by decide)
  unfold quoS
  rw [if_neg (by rw [hk]; decide)]
  unfold qq qm at hk
  rw [hnv] at ng
  obtain ⟨X, hX⟩ : ∃ X, X = qN hi lo 2 := ⟨_, rfl⟩
  rw [← hX] at hb e1 hk ng zq 
  rw [show (2 * 2 : Int) = 4 from rfl] at hk ng zq 
  have hA := Cq.qA_bd (w := 4) X (by decide)
  have hE := Cq.qA_bd (w := 2) d (by decide)
  have ha := Cq.qA_zx (w := 4) X (by decide) ng
  rw [zq, Int.zero_sub] at ha
  have hnd2 := (Cq.neg_zx d 2).trans hnd
  have uD := Cq.zx_u64 (v := d) 2
  rw [ng, hnd, zq] at hk 
  rw [ng, zq] at hA
  rw [hnd] at hE
  obtain ⟨D, hD⟩ : ∃ D, D = zx d 2 := ⟨_, rfl⟩
  rw [← hD] at hk hE hz uD hnd2  
  obtain ⟨A, hA2⟩ : ∃ A, A = qA X true (nb 4) := ⟨_, rfl⟩
  obtain ⟨E, hE2⟩ : ∃ E, E = qA D false (nb 2) := ⟨_, rfl⟩
  rw [← hA2] at hA hk 
  rw [← hE2] at hE hk 
  have HA : Hid (zx (IntKind.u64.wrap (-X)) 4 = A) := Lib.hid (ha.trans hA2.symm)
  have HE : Hid (D = E) := Lib.hid (hE2.symm)
  have HX := Lib.hid e1
  have HD := Lib.hid hD.symm
  have HNV := Lib.hid hnv
  have HND := Lib.hid hnd2
  have a0 := hA.1
  have d0 := hE.2.2 hz
  have a1 : A < 18446744073709551616 := Int.lt_of_le_of_lt hA.2.1 (by decide)
  have ux := hb.2.2
  have hz1 : (D == 0) = false := by simpa using hz
  have hz3 : (E == 0) = false := by simp; omega
  have uq : U64 (A / E) := ⟨Int.ediv_nonneg a0 (by omega), Int.lt_of_le_of_lt (Int.ediv_le_self _ a0) a1⟩
  have e1l : E < 18446744073709551616 := Int.lt_of_le_of_lt hE.2.1 (by decide)
  have ur : U64 (A % E) := ⟨Int.emod_nonneg _ (by omega), by have := Int.emod_lt_of_pos A d0; omega⟩
  unfold qOk at hk
  rw [show zx 18446744073709551615 2 = 65535 from by decide] at hk
  obtain ⟨q, hq⟩ : ∃ q, q = A / E := ⟨_, rfl⟩
  have HQ := Lib.hid hq.symm
  rw [← hq] at uq hk 
  have hk2 : 32768 < q := by simp at hk; omega
  clear hb e1 ng zq hA hE hX hD hnv hnd hnd2 hA2 hE2 hz hk hq ha
  go_enter Try.func20, Try.ntmps20
  go_wp2_with fail
  refine (ris_any _ _).mono ?_; rintro e w' ⟨rfl, rfl⟩
  rw [show isW 2 = true from rfl]
  go_wp2_with fail
  refine (rzx_any _ _ hd _).mono ?_; rintro e w' ⟨rfl, rfl⟩
  rw [HD.out]
  go_wp2_with fail
  refine (rzx_any _ _ hh _).mono ?_; rintro e w' ⟨rfl, rfl⟩
  go_wp2_with fail
  refine (rzx_any _ _ hl _).mono ?_; rintro e w' ⟨rfl, rfl⟩
  go_wp2_with fail
  rw [HX.out]
  refine (rzx_any _ _ hd _).mono ?_; rintro e w' ⟨rfl, rfl⟩
  rw [HD.out]
  go_wp2_with fail
  refine (rneg_any _ _ hh _).mono ?_; rintro e w' ⟨rfl, rfl⟩
  rw [HNV.out]
  go_wp2_with fail
  refine (rneg_any _ _ uD _).mono ?_; rintro e w' ⟨rfl, rfl⟩
  rw [HND.out]
  go_wp2_with fail
  refine (rzx_any _ _ (Cq.u64_wrap _) _).mono ?_; rintro e w' ⟨rfl, rfl⟩
  rw [HA.out]
  go_upto_region 11 with fail
  rw [HE.out]
  go_upto_region 13 with fail
  rw [HQ.out]
  go_wp2_with fail
  refine (rzx_any _ _ um _).mono ?_; rintro e w' ⟨rfl, rfl⟩
  rw [show zx 18446744073709551615 2 = 65535 from by decide]
  go_wp2_with fail
  go_ret3
  exact ⟨rfl, rfl⟩
theorem rquoS_2_true_true_yes (hi lo d : Int) (hh : U64 hi) (hl : U64 lo) (hd : U64 d) (hz : zx d 2 ≠ 0) (hnv : neg hi 2 = true) (hnd : neg d 2 = true) (hk : qOk (qq hi lo d 2) (qm hi lo d 2) 2 = true) (W : World) : Calls Try.prog 20 #[.int .u64 hi, .int .u64 lo, .int .u64 d, .bool true, .int .i64 2] W fun e W' => e = .returned (quoS hi lo d 2) ∧ W = W' := by
  have hb := Cq.qN_bd hi lo (w := 2) (by decide)
  have e1 := Cq.qN_sum hi lo (w := 2) (by decide)
  rw [show (2 : Int) ^ nb 2 = 65536 from rfl] at e1
  have ng := Cq.neg_qN hi lo (w := 2) (by decide)
  have zq := Cq.zx_qN hi lo (w := 2) (by decide)
  unfold quoS
  rw [if_pos hk]
  unfold qq qm at hk
  rw [hnv] at ng
  obtain ⟨X, hX⟩ : ∃ X, X = qN hi lo 2 := ⟨_, rfl⟩
  rw [← hX] at hb e1 hk ng zq ⊢
  rw [show (2 * 2 : Int) = 4 from rfl] at hk ng zq ⊢
  have hA := Cq.qA_bd (w := 4) X (by decide)
  have hE := Cq.qA_bd (w := 2) d (by decide)
  have t1 := Cq.tdiv_sign (qA (zx X 4) (neg X 4) (nb 4)) (qA (zx d 2) (neg d 2) (nb 2)) (neg X 4) (neg d 2) hA.1
  have t2 := Cq.tmod_sign (qA (zx X 4) (neg X 4) (nb 4)) (qA (zx d 2) (neg d 2) (nb 2)) (neg X 4) (neg d 2) hA.1
  rw [← Cq.sg_size, ← Cq.sg_size] at t1 t2
  rw [t1, t2]
  clear t1 t2
  have ha := Cq.qA_zx (w := 4) X (by decide) ng
  rw [zq, Int.zero_sub] at ha
  have hx := Cq.qA_zx (w := 2) d (by decide) hnd
  rw [Int.zero_sub] at hx
  have hnd2 := (Cq.neg_zx d 2).trans hnd
  have uD := Cq.zx_u64 (v := d) 2
  rw [ng, hnd, zq] at hk ⊢
  rw [ng, zq] at hA
  rw [hnd] at hE
  obtain ⟨D, hD⟩ : ∃ D, D = zx d 2 := ⟨_, rfl⟩
  rw [← hD] at hk hE hz uD hnd2 hx ⊢
  obtain ⟨A, hA2⟩ : ∃ A, A = qA X true (nb 4) := ⟨_, rfl⟩
  obtain ⟨E, hE2⟩ : ∃ E, E = qA D true (nb 2) := ⟨_, rfl⟩
  rw [← hA2] at hA hk ⊢
  rw [← hE2] at hE hk ⊢
  have HA : Hid (zx (IntKind.u64.wrap (-X)) 4 = A) := Lib.hid (ha.trans hA2.symm)
  have HE : Hid (zx (IntKind.u64.wrap (-D)) 2 = E) := Lib.hid (hx.trans hE2.symm)
  have HX := Lib.hid e1
  have HD := Lib.hid hD.symm
  have HNV := Lib.hid hnv
  have HND := Lib.hid hnd2
  have a0 := hA.1
  have d0 := hE.2.2 hz
  have a1 : A < 18446744073709551616 := Int.lt_of_le_of_lt hA.2.1 (by decide)
  have ux := hb.2.2
  have hz1 : (D == 0) = false := by simpa using hz
  have hz3 : (E == 0) = false := by simp; omega
  have uq : U64 (A / E) := ⟨Int.ediv_nonneg a0 (by omega), Int.lt_of_le_of_lt (Int.ediv_le_self _ a0) a1⟩
  have e1l : E < 18446744073709551616 := Int.lt_of_le_of_lt hE.2.1 (by decide)
  have ur : U64 (A % E) := ⟨Int.emod_nonneg _ (by omega), by have := Int.emod_lt_of_pos A d0; omega⟩
  unfold qOk at hk
  rw [show zx 18446744073709551615 2 = 65535 from by decide] at hk
  obtain ⟨q, hq⟩ : ∃ q, q = A / E := ⟨_, rfl⟩
  have HQ := Lib.hid hq.symm
  rw [← hq] at uq hk ⊢
  have hk2 : q ≤ 32767 := by simp at hk; omega
  unfold qS
  simp only [show (true != true) = false from rfl]
  have HZ2 := Lib.hid (Cq.zx_wrap (-(A % E)) 2)
  clear hb e1 ng zq hA hE hX hD hnv hnd hnd2 hA2 hE2 hz hk hq ha hx
  go_enter Try.func20, Try.ntmps20
  go_wp2_with fail
  refine (ris_any _ _).mono ?_; rintro e w' ⟨rfl, rfl⟩
  rw [show isW 2 = true from rfl]
  go_wp2_with fail
  refine (rzx_any _ _ hd _).mono ?_; rintro e w' ⟨rfl, rfl⟩
  rw [HD.out]
  go_wp2_with fail
  refine (rzx_any _ _ hh _).mono ?_; rintro e w' ⟨rfl, rfl⟩
  go_wp2_with fail
  refine (rzx_any _ _ hl _).mono ?_; rintro e w' ⟨rfl, rfl⟩
  go_wp2_with fail
  rw [HX.out]
  refine (rzx_any _ _ hd _).mono ?_; rintro e w' ⟨rfl, rfl⟩
  rw [HD.out]
  go_wp2_with fail
  refine (rneg_any _ _ hh _).mono ?_; rintro e w' ⟨rfl, rfl⟩
  rw [HNV.out]
  go_wp2_with fail
  refine (rneg_any _ _ uD _).mono ?_; rintro e w' ⟨rfl, rfl⟩
  rw [HND.out]
  go_wp2_with fail
  refine (rzx_any _ _ (Cq.u64_wrap _) _).mono ?_; rintro e w' ⟨rfl, rfl⟩
  rw [HA.out]
  go_wp2_with fail
  refine (rzx_any _ _ (Cq.u64_wrap _) _).mono ?_; rintro e w' ⟨rfl, rfl⟩
  rw [HE.out]
  go_upto_region 11 with fail
  go_upto_region 13 with fail
  rw [HQ.out]
  go_wp2_with fail
  refine (rzx_any _ _ um _).mono ?_; rintro e w' ⟨rfl, rfl⟩
  rw [show zx 18446744073709551615 2 = 65535 from by decide]
  go_wp2_with fail
  refine (rzx_any _ _ uq _).mono ?_; rintro e w' ⟨rfl, rfl⟩
  go_wp2_with fail
  refine (rzx_any _ _ (Cq.u64_wrap _) _).mono ?_; rintro e w' ⟨rfl, rfl⟩
  rw [HZ2.out]
  go_wp2_with fail
  go_ret3
  exact ⟨rfl, rfl⟩
theorem rquoS_2_true_true_no (hi lo d : Int) (hh : U64 hi) (hl : U64 lo) (hd : U64 d) (hz : zx d 2 ≠ 0) (hnv : neg hi 2 = true) (hnd : neg d 2 = true) (hk : qOk (qq hi lo d 2) (qm hi lo d 2) 2 = false) (W : World) : Calls Try.prog 20 #[.int .u64 hi, .int .u64 lo, .int .u64 d, .bool true, .int .i64 2] W fun e W' => e = .returned (quoS hi lo d 2) ∧ W = W' := by
  have hb := Cq.qN_bd hi lo (w := 2) (by decide)
  have e1 := Cq.qN_sum hi lo (w := 2) (by decide)
  rw [show (2 : Int) ^ nb 2 = 65536 from rfl] at e1
  have ng := Cq.neg_qN hi lo (w := 2) (by decide)
  have zq := Cq.zx_qN hi lo (w := 2) (by decide)
  unfold quoS
  rw [if_neg (by rw [hk]; decide)]
  unfold qq qm at hk
  rw [hnv] at ng
  obtain ⟨X, hX⟩ : ∃ X, X = qN hi lo 2 := ⟨_, rfl⟩
  rw [← hX] at hb e1 hk ng zq 
  rw [show (2 * 2 : Int) = 4 from rfl] at hk ng zq 
  have hA := Cq.qA_bd (w := 4) X (by decide)
  have hE := Cq.qA_bd (w := 2) d (by decide)
  have ha := Cq.qA_zx (w := 4) X (by decide) ng
  rw [zq, Int.zero_sub] at ha
  have hx := Cq.qA_zx (w := 2) d (by decide) hnd
  rw [Int.zero_sub] at hx
  have hnd2 := (Cq.neg_zx d 2).trans hnd
  have uD := Cq.zx_u64 (v := d) 2
  rw [ng, hnd, zq] at hk 
  rw [ng, zq] at hA
  rw [hnd] at hE
  obtain ⟨D, hD⟩ : ∃ D, D = zx d 2 := ⟨_, rfl⟩
  rw [← hD] at hk hE hz uD hnd2 hx 
  obtain ⟨A, hA2⟩ : ∃ A, A = qA X true (nb 4) := ⟨_, rfl⟩
  obtain ⟨E, hE2⟩ : ∃ E, E = qA D true (nb 2) := ⟨_, rfl⟩
  rw [← hA2] at hA hk 
  rw [← hE2] at hE hk 
  have HA : Hid (zx (IntKind.u64.wrap (-X)) 4 = A) := Lib.hid (ha.trans hA2.symm)
  have HE : Hid (zx (IntKind.u64.wrap (-D)) 2 = E) := Lib.hid (hx.trans hE2.symm)
  have HX := Lib.hid e1
  have HD := Lib.hid hD.symm
  have HNV := Lib.hid hnv
  have HND := Lib.hid hnd2
  have a0 := hA.1
  have d0 := hE.2.2 hz
  have a1 : A < 18446744073709551616 := Int.lt_of_le_of_lt hA.2.1 (by decide)
  have ux := hb.2.2
  have hz1 : (D == 0) = false := by simpa using hz
  have hz3 : (E == 0) = false := by simp; omega
  have uq : U64 (A / E) := ⟨Int.ediv_nonneg a0 (by omega), Int.lt_of_le_of_lt (Int.ediv_le_self _ a0) a1⟩
  have e1l : E < 18446744073709551616 := Int.lt_of_le_of_lt hE.2.1 (by decide)
  have ur : U64 (A % E) := ⟨Int.emod_nonneg _ (by omega), by have := Int.emod_lt_of_pos A d0; omega⟩
  unfold qOk at hk
  rw [show zx 18446744073709551615 2 = 65535 from by decide] at hk
  obtain ⟨q, hq⟩ : ∃ q, q = A / E := ⟨_, rfl⟩
  have HQ := Lib.hid hq.symm
  rw [← hq] at uq hk 
  have hk2 : 32767 < q := by simp at hk; omega
  clear hb e1 ng zq hA hE hX hD hnv hnd hnd2 hA2 hE2 hz hk hq ha hx
  go_enter Try.func20, Try.ntmps20
  go_wp2_with fail
  refine (ris_any _ _).mono ?_; rintro e w' ⟨rfl, rfl⟩
  rw [show isW 2 = true from rfl]
  go_wp2_with fail
  refine (rzx_any _ _ hd _).mono ?_; rintro e w' ⟨rfl, rfl⟩
  rw [HD.out]
  go_wp2_with fail
  refine (rzx_any _ _ hh _).mono ?_; rintro e w' ⟨rfl, rfl⟩
  go_wp2_with fail
  refine (rzx_any _ _ hl _).mono ?_; rintro e w' ⟨rfl, rfl⟩
  go_wp2_with fail
  rw [HX.out]
  refine (rzx_any _ _ hd _).mono ?_; rintro e w' ⟨rfl, rfl⟩
  rw [HD.out]
  go_wp2_with fail
  refine (rneg_any _ _ hh _).mono ?_; rintro e w' ⟨rfl, rfl⟩
  rw [HNV.out]
  go_wp2_with fail
  refine (rneg_any _ _ uD _).mono ?_; rintro e w' ⟨rfl, rfl⟩
  rw [HND.out]
  go_wp2_with fail
  refine (rzx_any _ _ (Cq.u64_wrap _) _).mono ?_; rintro e w' ⟨rfl, rfl⟩
  rw [HA.out]
  go_wp2_with fail
  refine (rzx_any _ _ (Cq.u64_wrap _) _).mono ?_; rintro e w' ⟨rfl, rfl⟩
  rw [HE.out]
  go_upto_region 11 with fail
  go_upto_region 13 with fail
  rw [HQ.out]
  go_wp2_with fail
  refine (rzx_any _ _ um _).mono ?_; rintro e w' ⟨rfl, rfl⟩
  rw [show zx 18446744073709551615 2 = 65535 from by decide]
  go_wp2_with fail
  go_ret3
  exact ⟨rfl, rfl⟩
theorem rquoU_4_yes (hi lo d : Int) (hh : U64 hi) (hl : U64 lo) (hd : U64 d) (hz : zx d 4 ≠ 0) (hk : qN hi lo 4 / zx d 4 ≤ zx 18446744073709551615 4) (W : World) : Calls Try.prog 20 #[.int .u64 hi, .int .u64 lo, .int .u64 d, .bool false, .int .i64 4] W fun e W' => e = .returned (quoU hi lo d 4) ∧ W = W' := by
  have hb := Cq.qN_bd hi lo (w := 4) (by decide)
  have e1 := Cq.qN_sum hi lo (w := 4) (by decide)
  rw [show (2 : Int) ^ nb 4 = 4294967296 from rfl] at e1
  unfold quoU
  rw [if_pos hk]
  have zl := Cq.zx_lt d 4
  have z1 := Cq.quo_zx (w := 4) _ (Int.ediv_nonneg hb.1 zl.1) (by decide) hk
  have z2 := Cq.rem_zx (w := 4) (qN hi lo 4) d hz
  obtain ⟨X, hX⟩ : ∃ X, X = qN hi lo 4 := ⟨_, rfl⟩
  obtain ⟨D, hD⟩ : ∃ D, D = zx d 4 := ⟨_, rfl⟩
  rw [← hX] at hb e1 hk z1 z2 ⊢
  rw [← hD] at hz zl hk z1 z2 ⊢
  have HX := Lib.hid e1
  have HD := Lib.hid hD.symm
  have x0 := hb.1
  have ux := hb.2.2
  have d0 : 0 < D := by omega
  have hz1 : (D == 0) = false := by simpa using hz
  have uq : U64 (X / D) := ⟨Int.ediv_nonneg x0 (by omega), Int.lt_of_le_of_lt (Int.ediv_le_self _ x0) ux.2⟩
  have ur : U64 (X % D) := ⟨Int.emod_nonneg _ hz, by have := Int.emod_lt_of_pos X d0; have := Cq.zx_u64 (v := d) 4; rw [← hD] at this; unfold U64 at this; omega⟩
  have HQ : Hid (IntKind.u64.wrap (X.tdiv D) = X / D) := Lib.hid (by rw [Int.tdiv_eq_ediv_of_nonneg x0]; exact Cq.wrap_of_u64 uq)
  rw [show zx 18446744073709551615 4 = 4294967295 from by decide] at hk
  have HZ1 := Lib.hid z1
  have HZ2 := Lib.hid z2
  clear z1 z2
  obtain ⟨q, hq⟩ : ∃ q, q = X / D := ⟨_, rfl⟩
  rw [← hq] at HQ uq hk HZ1 ⊢
  clear hb e1 hX hD zl hz hq 
  go_enter Try.func20, Try.ntmps20
  go_wp2_with fail
  refine (ris_any _ _).mono ?_; rintro e w' ⟨rfl, rfl⟩
  rw [show isW 4 = true from rfl]
  go_wp2_with fail
  refine (rzx_any _ _ hd _).mono ?_; rintro e w' ⟨rfl, rfl⟩
  rw [HD.out]
  go_wp2_with fail
  refine (rzx_any _ _ hh _).mono ?_; rintro e w' ⟨rfl, rfl⟩
  go_wp2_with fail
  refine (rzx_any _ _ hl _).mono ?_; rintro e w' ⟨rfl, rfl⟩
  go_wp2_with fail
  rw [HX.out]
  refine (rzx_any _ _ hd _).mono ?_; rintro e w' ⟨rfl, rfl⟩
  rw [HD.out]
  go_upto_region 13 with fail
  rw [HQ.out]
  go_wp2_with fail
  refine (rzx_any _ _ um _).mono ?_; rintro e w' ⟨rfl, rfl⟩
  rw [show zx 18446744073709551615 4 = 4294967295 from by decide]
  go_wp2_with fail
  refine (rzx_any _ _ uq _).mono ?_; rintro e w' ⟨rfl, rfl⟩
  rw [HZ1.out]
  go_wp2_with fail
  refine (rzx_any _ _ ur _).mono ?_; rintro e w' ⟨rfl, rfl⟩
  rw [HZ2.out]
  go_wp2_with fail
  go_ret3
  exact ⟨rfl, rfl⟩
theorem rquoU_4_no (hi lo d : Int) (hh : U64 hi) (hl : U64 lo) (hd : U64 d) (hz : zx d 4 ≠ 0) (hk : ¬ qN hi lo 4 / zx d 4 ≤ zx 18446744073709551615 4) (W : World) : Calls Try.prog 20 #[.int .u64 hi, .int .u64 lo, .int .u64 d, .bool false, .int .i64 4] W fun e W' => e = .returned (quoU hi lo d 4) ∧ W = W' := by
  have hb := Cq.qN_bd hi lo (w := 4) (by decide)
  have e1 := Cq.qN_sum hi lo (w := 4) (by decide)
  rw [show (2 : Int) ^ nb 4 = 4294967296 from rfl] at e1
  unfold quoU
  rw [if_neg hk]
  have zl := Cq.zx_lt d 4
  obtain ⟨X, hX⟩ : ∃ X, X = qN hi lo 4 := ⟨_, rfl⟩
  obtain ⟨D, hD⟩ : ∃ D, D = zx d 4 := ⟨_, rfl⟩
  rw [← hX] at hb e1 hk 
  rw [← hD] at hz zl hk 
  have HX := Lib.hid e1
  have HD := Lib.hid hD.symm
  have x0 := hb.1
  have ux := hb.2.2
  have d0 : 0 < D := by omega
  have hz1 : (D == 0) = false := by simpa using hz
  have uq : U64 (X / D) := ⟨Int.ediv_nonneg x0 (by omega), Int.lt_of_le_of_lt (Int.ediv_le_self _ x0) ux.2⟩
  have ur : U64 (X % D) := ⟨Int.emod_nonneg _ hz, by have := Int.emod_lt_of_pos X d0; have := Cq.zx_u64 (v := d) 4; rw [← hD] at this; unfold U64 at this; omega⟩
  have HQ : Hid (IntKind.u64.wrap (X.tdiv D) = X / D) := Lib.hid (by rw [Int.tdiv_eq_ediv_of_nonneg x0]; exact Cq.wrap_of_u64 uq)
  rw [show zx 18446744073709551615 4 = 4294967295 from by decide] at hk
  obtain ⟨q, hq⟩ : ∃ q, q = X / D := ⟨_, rfl⟩
  rw [← hq] at HQ uq hk 
  have hk2 := Int.not_le.mp hk
  clear hb e1 hX hD zl hz hq hk
  go_enter Try.func20, Try.ntmps20
  go_wp2_with fail
  refine (ris_any _ _).mono ?_; rintro e w' ⟨rfl, rfl⟩
  rw [show isW 4 = true from rfl]
  go_wp2_with fail
  refine (rzx_any _ _ hd _).mono ?_; rintro e w' ⟨rfl, rfl⟩
  rw [HD.out]
  go_wp2_with fail
  refine (rzx_any _ _ hh _).mono ?_; rintro e w' ⟨rfl, rfl⟩
  go_wp2_with fail
  refine (rzx_any _ _ hl _).mono ?_; rintro e w' ⟨rfl, rfl⟩
  go_wp2_with fail
  rw [HX.out]
  refine (rzx_any _ _ hd _).mono ?_; rintro e w' ⟨rfl, rfl⟩
  rw [HD.out]
  go_upto_region 13 with fail
  rw [HQ.out]
  go_wp2_with fail
  refine (rzx_any _ _ um _).mono ?_; rintro e w' ⟨rfl, rfl⟩
  rw [show zx 18446744073709551615 4 = 4294967295 from by decide]
  go_wp2_with fail
  go_ret3
  exact ⟨rfl, rfl⟩
theorem rquoS_4_false_false_yes (hi lo d : Int) (hh : U64 hi) (hl : U64 lo) (hd : U64 d) (hz : zx d 4 ≠ 0) (hnv : neg hi 4 = false) (hnd : neg d 4 = false) (hk : qOk (qq hi lo d 4) (qm hi lo d 4) 4 = true) (W : World) : Calls Try.prog 20 #[.int .u64 hi, .int .u64 lo, .int .u64 d, .bool true, .int .i64 4] W fun e W' => e = .returned (quoS hi lo d 4) ∧ W = W' := by
  have hb := Cq.qN_bd hi lo (w := 4) (by decide)
  have e1 := Cq.qN_sum hi lo (w := 4) (by decide)
  rw [show (2 : Int) ^ nb 4 = 4294967296 from rfl] at e1
  have ng := Cq.neg_qN hi lo (w := 4) (by decide)
  have zq := Cq.zx_qN hi lo (w := 4) (by decide)
  unfold quoS
  rw [if_pos hk]
  unfold qq qm at hk
  rw [hnv] at ng
  obtain ⟨X, hX⟩ : ∃ X, X = qN hi lo 4 := ⟨_, rfl⟩
  rw [← hX] at hb e1 hk ng zq ⊢
  rw [show (2 * 4 : Int) = 8 from rfl] at hk ng zq ⊢
  have hA := Cq.qA_bd (w := 8) X (by decide)
  have hE := Cq.qA_bd (w := 4) d (by decide)
  have t1 := Cq.tdiv_sign (qA (zx X 8) (neg X 8) (nb 8)) (qA (zx d 4) (neg d 4) (nb 4)) (neg X 8) (neg d 4) hA.1
  have t2 := Cq.tmod_sign (qA (zx X 8) (neg X 8) (nb 8)) (qA (zx d 4) (neg d 4) (nb 4)) (neg X 8) (neg d 4) hA.1
  rw [← Cq.sg_size, ← Cq.sg_size] at t1 t2
  rw [t1, t2]
  clear t1 t2
  have hnd2 := (Cq.neg_zx d 4).trans hnd
  have uD := Cq.zx_u64 (v := d) 4
  rw [ng, hnd, zq] at hk ⊢
  rw [ng, zq] at hA
  rw [hnd] at hE
  obtain ⟨D, hD⟩ : ∃ D, D = zx d 4 := ⟨_, rfl⟩
  rw [← hD] at hk hE hz uD hnd2  ⊢
  obtain ⟨A, hA2⟩ : ∃ A, A = qA X false (nb 8) := ⟨_, rfl⟩
  obtain ⟨E, hE2⟩ : ∃ E, E = qA D false (nb 4) := ⟨_, rfl⟩
  rw [← hA2] at hA hk ⊢
  rw [← hE2] at hE hk ⊢
  have HA : Hid (X = A) := Lib.hid (hA2.symm)
  have HE : Hid (D = E) := Lib.hid (hE2.symm)
  have HX := Lib.hid e1
  have HD := Lib.hid hD.symm
  have HNV := Lib.hid hnv
  have HND := Lib.hid hnd2
  have a0 := hA.1
  have d0 := hE.2.2 hz
  have a1 : A < 18446744073709551616 := Int.lt_of_le_of_lt hA.2.1 (by decide)
  have ux := hb.2.2
  have hz1 : (D == 0) = false := by simpa using hz
  have hz3 : (E == 0) = false := by simp; omega
  have uq : U64 (A / E) := ⟨Int.ediv_nonneg a0 (by omega), Int.lt_of_le_of_lt (Int.ediv_le_self _ a0) a1⟩
  have e1l : E < 18446744073709551616 := Int.lt_of_le_of_lt hE.2.1 (by decide)
  have ur : U64 (A % E) := ⟨Int.emod_nonneg _ (by omega), by have := Int.emod_lt_of_pos A d0; omega⟩
  unfold qOk at hk
  rw [show zx 18446744073709551615 4 = 4294967295 from by decide] at hk
  obtain ⟨q, hq⟩ : ∃ q, q = A / E := ⟨_, rfl⟩
  have HQ := Lib.hid hq.symm
  rw [← hq] at uq hk ⊢
  have hk2 : q ≤ 2147483647 := by simp at hk; omega
  unfold qS
  simp only [show (false != false) = false from rfl]
  clear hb e1 ng zq hA hE hX hD hnv hnd hnd2 hA2 hE2 hz hk hq
  go_enter Try.func20, Try.ntmps20
  go_wp2_with fail
  refine (ris_any _ _).mono ?_; rintro e w' ⟨rfl, rfl⟩
  rw [show isW 4 = true from rfl]
  go_wp2_with fail
  refine (rzx_any _ _ hd _).mono ?_; rintro e w' ⟨rfl, rfl⟩
  rw [HD.out]
  go_wp2_with fail
  refine (rzx_any _ _ hh _).mono ?_; rintro e w' ⟨rfl, rfl⟩
  go_wp2_with fail
  refine (rzx_any _ _ hl _).mono ?_; rintro e w' ⟨rfl, rfl⟩
  go_wp2_with fail
  rw [HX.out]
  refine (rzx_any _ _ hd _).mono ?_; rintro e w' ⟨rfl, rfl⟩
  rw [HD.out]
  go_wp2_with fail
  refine (rneg_any _ _ hh _).mono ?_; rintro e w' ⟨rfl, rfl⟩
  rw [HNV.out]
  go_wp2_with fail
  refine (rneg_any _ _ uD _).mono ?_; rintro e w' ⟨rfl, rfl⟩
  rw [HND.out]
  go_upto_region 11 with fail
  rw [HA.out]
  rw [HE.out]
  go_upto_region 13 with fail
  rw [HQ.out]
  go_wp2_with fail
  refine (rzx_any _ _ um _).mono ?_; rintro e w' ⟨rfl, rfl⟩
  rw [show zx 18446744073709551615 4 = 4294967295 from by decide]
  go_wp2_with fail
  refine (rzx_any _ _ uq _).mono ?_; rintro e w' ⟨rfl, rfl⟩
  go_wp2_with fail
  refine (rzx_any _ _ ur _).mono ?_; rintro e w' ⟨rfl, rfl⟩
  go_wp2_with fail
  go_ret3
  exact ⟨rfl, rfl⟩
theorem rquoS_4_false_false_no (hi lo d : Int) (hh : U64 hi) (hl : U64 lo) (hd : U64 d) (hz : zx d 4 ≠ 0) (hnv : neg hi 4 = false) (hnd : neg d 4 = false) (hk : qOk (qq hi lo d 4) (qm hi lo d 4) 4 = false) (W : World) : Calls Try.prog 20 #[.int .u64 hi, .int .u64 lo, .int .u64 d, .bool true, .int .i64 4] W fun e W' => e = .returned (quoS hi lo d 4) ∧ W = W' := by
  have hb := Cq.qN_bd hi lo (w := 4) (by decide)
  have e1 := Cq.qN_sum hi lo (w := 4) (by decide)
  rw [show (2 : Int) ^ nb 4 = 4294967296 from rfl] at e1
  have ng := Cq.neg_qN hi lo (w := 4) (by decide)
  have zq := Cq.zx_qN hi lo (w := 4) (by decide)
  unfold quoS
  rw [if_neg (by rw [hk]; decide)]
  unfold qq qm at hk
  rw [hnv] at ng
  obtain ⟨X, hX⟩ : ∃ X, X = qN hi lo 4 := ⟨_, rfl⟩
  rw [← hX] at hb e1 hk ng zq 
  rw [show (2 * 4 : Int) = 8 from rfl] at hk ng zq 
  have hA := Cq.qA_bd (w := 8) X (by decide)
  have hE := Cq.qA_bd (w := 4) d (by decide)
  have hnd2 := (Cq.neg_zx d 4).trans hnd
  have uD := Cq.zx_u64 (v := d) 4
  rw [ng, hnd, zq] at hk 
  rw [ng, zq] at hA
  rw [hnd] at hE
  obtain ⟨D, hD⟩ : ∃ D, D = zx d 4 := ⟨_, rfl⟩
  rw [← hD] at hk hE hz uD hnd2  
  obtain ⟨A, hA2⟩ : ∃ A, A = qA X false (nb 8) := ⟨_, rfl⟩
  obtain ⟨E, hE2⟩ : ∃ E, E = qA D false (nb 4) := ⟨_, rfl⟩
  rw [← hA2] at hA hk 
  rw [← hE2] at hE hk 
  have HA : Hid (X = A) := Lib.hid (hA2.symm)
  have HE : Hid (D = E) := Lib.hid (hE2.symm)
  have HX := Lib.hid e1
  have HD := Lib.hid hD.symm
  have HNV := Lib.hid hnv
  have HND := Lib.hid hnd2
  have a0 := hA.1
  have d0 := hE.2.2 hz
  have a1 : A < 18446744073709551616 := Int.lt_of_le_of_lt hA.2.1 (by decide)
  have ux := hb.2.2
  have hz1 : (D == 0) = false := by simpa using hz
  have hz3 : (E == 0) = false := by simp; omega
  have uq : U64 (A / E) := ⟨Int.ediv_nonneg a0 (by omega), Int.lt_of_le_of_lt (Int.ediv_le_self _ a0) a1⟩
  have e1l : E < 18446744073709551616 := Int.lt_of_le_of_lt hE.2.1 (by decide)
  have ur : U64 (A % E) := ⟨Int.emod_nonneg _ (by omega), by have := Int.emod_lt_of_pos A d0; omega⟩
  unfold qOk at hk
  rw [show zx 18446744073709551615 4 = 4294967295 from by decide] at hk
  obtain ⟨q, hq⟩ : ∃ q, q = A / E := ⟨_, rfl⟩
  have HQ := Lib.hid hq.symm
  rw [← hq] at uq hk 
  have hk2 : 2147483647 < q := by simp at hk; omega
  clear hb e1 ng zq hA hE hX hD hnv hnd hnd2 hA2 hE2 hz hk hq
  go_enter Try.func20, Try.ntmps20
  go_wp2_with fail
  refine (ris_any _ _).mono ?_; rintro e w' ⟨rfl, rfl⟩
  rw [show isW 4 = true from rfl]
  go_wp2_with fail
  refine (rzx_any _ _ hd _).mono ?_; rintro e w' ⟨rfl, rfl⟩
  rw [HD.out]
  go_wp2_with fail
  refine (rzx_any _ _ hh _).mono ?_; rintro e w' ⟨rfl, rfl⟩
  go_wp2_with fail
  refine (rzx_any _ _ hl _).mono ?_; rintro e w' ⟨rfl, rfl⟩
  go_wp2_with fail
  rw [HX.out]
  refine (rzx_any _ _ hd _).mono ?_; rintro e w' ⟨rfl, rfl⟩
  rw [HD.out]
  go_wp2_with fail
  refine (rneg_any _ _ hh _).mono ?_; rintro e w' ⟨rfl, rfl⟩
  rw [HNV.out]
  go_wp2_with fail
  refine (rneg_any _ _ uD _).mono ?_; rintro e w' ⟨rfl, rfl⟩
  rw [HND.out]
  go_upto_region 11 with fail
  rw [HA.out]
  rw [HE.out]
  go_upto_region 13 with fail
  rw [HQ.out]
  go_wp2_with fail
  refine (rzx_any _ _ um _).mono ?_; rintro e w' ⟨rfl, rfl⟩
  rw [show zx 18446744073709551615 4 = 4294967295 from by decide]
  go_wp2_with fail
  go_ret3
  exact ⟨rfl, rfl⟩
theorem rquoS_4_false_true_yes (hi lo d : Int) (hh : U64 hi) (hl : U64 lo) (hd : U64 d) (hz : zx d 4 ≠ 0) (hnv : neg hi 4 = false) (hnd : neg d 4 = true) (hk : qOk (qq hi lo d 4) (qm hi lo d 4) 4 = true) (W : World) : Calls Try.prog 20 #[.int .u64 hi, .int .u64 lo, .int .u64 d, .bool true, .int .i64 4] W fun e W' => e = .returned (quoS hi lo d 4) ∧ W = W' := by
  have hb := Cq.qN_bd hi lo (w := 4) (by decide)
  have e1 := Cq.qN_sum hi lo (w := 4) (by decide)
  rw [show (2 : Int) ^ nb 4 = 4294967296 from rfl] at e1
  have ng := Cq.neg_qN hi lo (w := 4) (by decide)
  have zq := Cq.zx_qN hi lo (w := 4) (by decide)
  unfold quoS
  rw [if_pos hk]
  unfold qq qm at hk
  rw [hnv] at ng
  obtain ⟨X, hX⟩ : ∃ X, X = qN hi lo 4 := ⟨_, rfl⟩
  rw [← hX] at hb e1 hk ng zq ⊢
  rw [show (2 * 4 : Int) = 8 from rfl] at hk ng zq ⊢
  have hA := Cq.qA_bd (w := 8) X (by decide)
  have hE := Cq.qA_bd (w := 4) d (by decide)
  have t1 := Cq.tdiv_sign (qA (zx X 8) (neg X 8) (nb 8)) (qA (zx d 4) (neg d 4) (nb 4)) (neg X 8) (neg d 4) hA.1
  have t2 := Cq.tmod_sign (qA (zx X 8) (neg X 8) (nb 8)) (qA (zx d 4) (neg d 4) (nb 4)) (neg X 8) (neg d 4) hA.1
  rw [← Cq.sg_size, ← Cq.sg_size] at t1 t2
  rw [t1, t2]
  clear t1 t2
  have hx := Cq.qA_zx (w := 4) d (by decide) hnd
  rw [Int.zero_sub] at hx
  have hnd2 := (Cq.neg_zx d 4).trans hnd
  have uD := Cq.zx_u64 (v := d) 4
  rw [ng, hnd, zq] at hk ⊢
  rw [ng, zq] at hA
  rw [hnd] at hE
  obtain ⟨D, hD⟩ : ∃ D, D = zx d 4 := ⟨_, rfl⟩
  rw [← hD] at hk hE hz uD hnd2 hx ⊢
  obtain ⟨A, hA2⟩ : ∃ A, A = qA X false (nb 8) := ⟨_, rfl⟩
  obtain ⟨E, hE2⟩ : ∃ E, E = qA D true (nb 4) := ⟨_, rfl⟩
  rw [← hA2] at hA hk ⊢
  rw [← hE2] at hE hk ⊢
  have HA : Hid (X = A) := Lib.hid (hA2.symm)
  have HE : Hid (zx (IntKind.u64.wrap (-D)) 4 = E) := Lib.hid (hx.trans hE2.symm)
  have HX := Lib.hid e1
  have HD := Lib.hid hD.symm
  have HNV := Lib.hid hnv
  have HND := Lib.hid hnd2
  have a0 := hA.1
  have d0 := hE.2.2 hz
  have a1 : A < 18446744073709551616 := Int.lt_of_le_of_lt hA.2.1 (by decide)
  have ux := hb.2.2
  have hz1 : (D == 0) = false := by simpa using hz
  have hz3 : (E == 0) = false := by simp; omega
  have uq : U64 (A / E) := ⟨Int.ediv_nonneg a0 (by omega), Int.lt_of_le_of_lt (Int.ediv_le_self _ a0) a1⟩
  have e1l : E < 18446744073709551616 := Int.lt_of_le_of_lt hE.2.1 (by decide)
  have ur : U64 (A % E) := ⟨Int.emod_nonneg _ (by omega), by have := Int.emod_lt_of_pos A d0; omega⟩
  unfold qOk at hk
  rw [show zx 18446744073709551615 4 = 4294967295 from by decide] at hk
  obtain ⟨q, hq⟩ : ∃ q, q = A / E := ⟨_, rfl⟩
  have HQ := Lib.hid hq.symm
  rw [← hq] at uq hk ⊢
  have hk2 : q ≤ 2147483648 := by simp at hk; omega
  unfold qS
  simp only [show (false != true) = true from rfl]
  have HZ1 := Lib.hid (Cq.zx_wrap (-q) 4)
  clear hb e1 ng zq hA hE hX hD hnv hnd hnd2 hA2 hE2 hz hk hq hx
  go_enter Try.func20, Try.ntmps20
  go_wp2_with fail
  refine (ris_any _ _).mono ?_; rintro e w' ⟨rfl, rfl⟩
  rw [show isW 4 = true from rfl]
  go_wp2_with fail
  refine (rzx_any _ _ hd _).mono ?_; rintro e w' ⟨rfl, rfl⟩
  rw [HD.out]
  go_wp2_with fail
  refine (rzx_any _ _ hh _).mono ?_; rintro e w' ⟨rfl, rfl⟩
  go_wp2_with fail
  refine (rzx_any _ _ hl _).mono ?_; rintro e w' ⟨rfl, rfl⟩
  go_wp2_with fail
  rw [HX.out]
  refine (rzx_any _ _ hd _).mono ?_; rintro e w' ⟨rfl, rfl⟩
  rw [HD.out]
  go_wp2_with fail
  refine (rneg_any _ _ hh _).mono ?_; rintro e w' ⟨rfl, rfl⟩
  rw [HNV.out]
  go_wp2_with fail
  refine (rneg_any _ _ uD _).mono ?_; rintro e w' ⟨rfl, rfl⟩
  rw [HND.out]
  go_wp2_with fail
  refine (rzx_any _ _ (Cq.u64_wrap _) _).mono ?_; rintro e w' ⟨rfl, rfl⟩
  rw [HE.out]
  go_upto_region 11 with fail
  rw [HA.out]
  go_upto_region 13 with fail
  rw [HQ.out]
  go_wp2_with fail
  refine (rzx_any _ _ um _).mono ?_; rintro e w' ⟨rfl, rfl⟩
  rw [show zx 18446744073709551615 4 = 4294967295 from by decide]
  go_wp2_with fail
  refine (rzx_any _ _ (Cq.u64_wrap _) _).mono ?_; rintro e w' ⟨rfl, rfl⟩
  rw [HZ1.out]
  go_wp2_with fail
  refine (rzx_any _ _ ur _).mono ?_; rintro e w' ⟨rfl, rfl⟩
  go_wp2_with fail
  go_ret3
  exact ⟨rfl, rfl⟩
theorem rquoS_4_false_true_no (hi lo d : Int) (hh : U64 hi) (hl : U64 lo) (hd : U64 d) (hz : zx d 4 ≠ 0) (hnv : neg hi 4 = false) (hnd : neg d 4 = true) (hk : qOk (qq hi lo d 4) (qm hi lo d 4) 4 = false) (W : World) : Calls Try.prog 20 #[.int .u64 hi, .int .u64 lo, .int .u64 d, .bool true, .int .i64 4] W fun e W' => e = .returned (quoS hi lo d 4) ∧ W = W' := by
  have hb := Cq.qN_bd hi lo (w := 4) (by decide)
  have e1 := Cq.qN_sum hi lo (w := 4) (by decide)
  rw [show (2 : Int) ^ nb 4 = 4294967296 from rfl] at e1
  have ng := Cq.neg_qN hi lo (w := 4) (by decide)
  have zq := Cq.zx_qN hi lo (w := 4) (by decide)
  unfold quoS
  rw [if_neg (by rw [hk]; decide)]
  unfold qq qm at hk
  rw [hnv] at ng
  obtain ⟨X, hX⟩ : ∃ X, X = qN hi lo 4 := ⟨_, rfl⟩
  rw [← hX] at hb e1 hk ng zq 
  rw [show (2 * 4 : Int) = 8 from rfl] at hk ng zq 
  have hA := Cq.qA_bd (w := 8) X (by decide)
  have hE := Cq.qA_bd (w := 4) d (by decide)
  have hx := Cq.qA_zx (w := 4) d (by decide) hnd
  rw [Int.zero_sub] at hx
  have hnd2 := (Cq.neg_zx d 4).trans hnd
  have uD := Cq.zx_u64 (v := d) 4
  rw [ng, hnd, zq] at hk 
  rw [ng, zq] at hA
  rw [hnd] at hE
  obtain ⟨D, hD⟩ : ∃ D, D = zx d 4 := ⟨_, rfl⟩
  rw [← hD] at hk hE hz uD hnd2 hx 
  obtain ⟨A, hA2⟩ : ∃ A, A = qA X false (nb 8) := ⟨_, rfl⟩
  obtain ⟨E, hE2⟩ : ∃ E, E = qA D true (nb 4) := ⟨_, rfl⟩
  rw [← hA2] at hA hk 
  rw [← hE2] at hE hk 
  have HA : Hid (X = A) := Lib.hid (hA2.symm)
  have HE : Hid (zx (IntKind.u64.wrap (-D)) 4 = E) := Lib.hid (hx.trans hE2.symm)
  have HX := Lib.hid e1
  have HD := Lib.hid hD.symm
  have HNV := Lib.hid hnv
  have HND := Lib.hid hnd2
  have a0 := hA.1
  have d0 := hE.2.2 hz
  have a1 : A < 18446744073709551616 := Int.lt_of_le_of_lt hA.2.1 (by decide)
  have ux := hb.2.2
  have hz1 : (D == 0) = false := by simpa using hz
  have hz3 : (E == 0) = false := by simp; omega
  have uq : U64 (A / E) := ⟨Int.ediv_nonneg a0 (by omega), Int.lt_of_le_of_lt (Int.ediv_le_self _ a0) a1⟩
  have e1l : E < 18446744073709551616 := Int.lt_of_le_of_lt hE.2.1 (by decide)
  have ur : U64 (A % E) := ⟨Int.emod_nonneg _ (by omega), by have := Int.emod_lt_of_pos A d0; omega⟩
  unfold qOk at hk
  rw [show zx 18446744073709551615 4 = 4294967295 from by decide] at hk
  obtain ⟨q, hq⟩ : ∃ q, q = A / E := ⟨_, rfl⟩
  have HQ := Lib.hid hq.symm
  rw [← hq] at uq hk 
  have hk2 : 2147483648 < q := by simp at hk; omega
  clear hb e1 ng zq hA hE hX hD hnv hnd hnd2 hA2 hE2 hz hk hq hx
  go_enter Try.func20, Try.ntmps20
  go_wp2_with fail
  refine (ris_any _ _).mono ?_; rintro e w' ⟨rfl, rfl⟩
  rw [show isW 4 = true from rfl]
  go_wp2_with fail
  refine (rzx_any _ _ hd _).mono ?_; rintro e w' ⟨rfl, rfl⟩
  rw [HD.out]
  go_wp2_with fail
  refine (rzx_any _ _ hh _).mono ?_; rintro e w' ⟨rfl, rfl⟩
  go_wp2_with fail
  refine (rzx_any _ _ hl _).mono ?_; rintro e w' ⟨rfl, rfl⟩
  go_wp2_with fail
  rw [HX.out]
  refine (rzx_any _ _ hd _).mono ?_; rintro e w' ⟨rfl, rfl⟩
  rw [HD.out]
  go_wp2_with fail
  refine (rneg_any _ _ hh _).mono ?_; rintro e w' ⟨rfl, rfl⟩
  rw [HNV.out]
  go_wp2_with fail
  refine (rneg_any _ _ uD _).mono ?_; rintro e w' ⟨rfl, rfl⟩
  rw [HND.out]
  go_wp2_with fail
  refine (rzx_any _ _ (Cq.u64_wrap _) _).mono ?_; rintro e w' ⟨rfl, rfl⟩
  rw [HE.out]
  go_upto_region 11 with fail
  rw [HA.out]
  go_upto_region 13 with fail
  rw [HQ.out]
  go_wp2_with fail
  refine (rzx_any _ _ um _).mono ?_; rintro e w' ⟨rfl, rfl⟩
  rw [show zx 18446744073709551615 4 = 4294967295 from by decide]
  go_wp2_with fail
  go_ret3
  exact ⟨rfl, rfl⟩
theorem rquoS_4_true_false_yes (hi lo d : Int) (hh : U64 hi) (hl : U64 lo) (hd : U64 d) (hz : zx d 4 ≠ 0) (hnv : neg hi 4 = true) (hnd : neg d 4 = false) (hk : qOk (qq hi lo d 4) (qm hi lo d 4) 4 = true) (W : World) : Calls Try.prog 20 #[.int .u64 hi, .int .u64 lo, .int .u64 d, .bool true, .int .i64 4] W fun e W' => e = .returned (quoS hi lo d 4) ∧ W = W' := by
  have hb := Cq.qN_bd hi lo (w := 4) (by decide)
  have e1 := Cq.qN_sum hi lo (w := 4) (by decide)
  rw [show (2 : Int) ^ nb 4 = 4294967296 from rfl] at e1
  have ng := Cq.neg_qN hi lo (w := 4) (by decide)
  have zq := Cq.zx_qN hi lo (w := 4) (by decide)
  unfold quoS
  rw [if_pos hk]
  unfold qq qm at hk
  rw [hnv] at ng
  obtain ⟨X, hX⟩ : ∃ X, X = qN hi lo 4 := ⟨_, rfl⟩
  rw [← hX] at hb e1 hk ng zq ⊢
  rw [show (2 * 4 : Int) = 8 from rfl] at hk ng zq ⊢
  have hA := Cq.qA_bd (w := 8) X (by decide)
  have hE := Cq.qA_bd (w := 4) d (by decide)
  have t1 := Cq.tdiv_sign (qA (zx X 8) (neg X 8) (nb 8)) (qA (zx d 4) (neg d 4) (nb 4)) (neg X 8) (neg d 4) hA.1
  have t2 := Cq.tmod_sign (qA (zx X 8) (neg X 8) (nb 8)) (qA (zx d 4) (neg d 4) (nb 4)) (neg X 8) (neg d 4) hA.1
  rw [← Cq.sg_size, ← Cq.sg_size] at t1 t2
  rw [t1, t2]
  clear t1 t2
  have ha := Cq.qA_zx (w := 8) X (by decide) ng
  rw [zq, Int.zero_sub] at ha
  have hnd2 := (Cq.neg_zx d 4).trans hnd
  have uD := Cq.zx_u64 (v := d) 4
  rw [ng, hnd, zq] at hk ⊢
  rw [ng, zq] at hA
  rw [hnd] at hE
  obtain ⟨D, hD⟩ : ∃ D, D = zx d 4 := ⟨_, rfl⟩
  rw [← hD] at hk hE hz uD hnd2  ⊢
  obtain ⟨A, hA2⟩ : ∃ A, A = qA X true (nb 8) := ⟨_, rfl⟩
  obtain ⟨E, hE2⟩ : ∃ E, E = qA D false (nb 4) := ⟨_, rfl⟩
  rw [← hA2] at hA hk ⊢
  rw [← hE2] at hE hk ⊢
  have HA : Hid (zx (IntKind.u64.wrap (-X)) 8 = A) := Lib.hid (ha.trans hA2.symm)
  have HE : Hid (D = E) := Lib.hid (hE2.symm)
  have HX := Lib.hid e1
  have HD := Lib.hid hD.symm
  have HNV := Lib.hid hnv
  have HND := Lib.hid hnd2
  have a0 := hA.1
  have d0 := hE.2.2 hz
  have a1 : A < 18446744073709551616 := Int.lt_of_le_of_lt hA.2.1 (by decide)
  have ux := hb.2.2
  have hz1 : (D == 0) = false := by simpa using hz
  have hz3 : (E == 0) = false := by simp; omega
  have uq : U64 (A / E) := ⟨Int.ediv_nonneg a0 (by omega), Int.lt_of_le_of_lt (Int.ediv_le_self _ a0) a1⟩
  have e1l : E < 18446744073709551616 := Int.lt_of_le_of_lt hE.2.1 (by decide)
  have ur : U64 (A % E) := ⟨Int.emod_nonneg _ (by omega), by have := Int.emod_lt_of_pos A d0; omega⟩
  unfold qOk at hk
  rw [show zx 18446744073709551615 4 = 4294967295 from by decide] at hk
  obtain ⟨q, hq⟩ : ∃ q, q = A / E := ⟨_, rfl⟩
  have HQ := Lib.hid hq.symm
  rw [← hq] at uq hk ⊢
  have hk2 : q ≤ 2147483648 := by simp at hk; omega
  unfold qS
  simp only [show (true != false) = true from rfl]
  have HZ1 := Lib.hid (Cq.zx_wrap (-q) 4)
  have HZ2 := Lib.hid (Cq.zx_wrap (-(A % E)) 4)
  clear hb e1 ng zq hA hE hX hD hnv hnd hnd2 hA2 hE2 hz hk hq ha
  go_enter Try.func20, Try.ntmps20
  go_wp2_with fail
  refine (ris_any _ _).mono ?_; rintro e w' ⟨rfl, rfl⟩
  rw [show isW 4 = true from rfl]
  go_wp2_with fail
  refine (rzx_any _ _ hd _).mono ?_; rintro e w' ⟨rfl, rfl⟩
  rw [HD.out]
  go_wp2_with fail
  refine (rzx_any _ _ hh _).mono ?_; rintro e w' ⟨rfl, rfl⟩
  go_wp2_with fail
  refine (rzx_any _ _ hl _).mono ?_; rintro e w' ⟨rfl, rfl⟩
  go_wp2_with fail
  rw [HX.out]
  refine (rzx_any _ _ hd _).mono ?_; rintro e w' ⟨rfl, rfl⟩
  rw [HD.out]
  go_wp2_with fail
  refine (rneg_any _ _ hh _).mono ?_; rintro e w' ⟨rfl, rfl⟩
  rw [HNV.out]
  go_wp2_with fail
  refine (rneg_any _ _ uD _).mono ?_; rintro e w' ⟨rfl, rfl⟩
  rw [HND.out]
  go_wp2_with fail
  refine (rzx_any _ _ (Cq.u64_wrap _) _).mono ?_; rintro e w' ⟨rfl, rfl⟩
  rw [HA.out]
  go_upto_region 11 with fail
  rw [HE.out]
  go_upto_region 13 with fail
  rw [HQ.out]
  go_wp2_with fail
  refine (rzx_any _ _ um _).mono ?_; rintro e w' ⟨rfl, rfl⟩
  rw [show zx 18446744073709551615 4 = 4294967295 from by decide]
  go_wp2_with fail
  refine (rzx_any _ _ (Cq.u64_wrap _) _).mono ?_; rintro e w' ⟨rfl, rfl⟩
  rw [HZ1.out]
  go_wp2_with fail
  refine (rzx_any _ _ (Cq.u64_wrap _) _).mono ?_; rintro e w' ⟨rfl, rfl⟩
  rw [HZ2.out]
  go_wp2_with fail
  go_ret3
  exact ⟨rfl, rfl⟩
theorem rquoS_4_true_false_no (hi lo d : Int) (hh : U64 hi) (hl : U64 lo) (hd : U64 d) (hz : zx d 4 ≠ 0) (hnv : neg hi 4 = true) (hnd : neg d 4 = false) (hk : qOk (qq hi lo d 4) (qm hi lo d 4) 4 = false) (W : World) : Calls Try.prog 20 #[.int .u64 hi, .int .u64 lo, .int .u64 d, .bool true, .int .i64 4] W fun e W' => e = .returned (quoS hi lo d 4) ∧ W = W' := by
  have hb := Cq.qN_bd hi lo (w := 4) (by decide)
  have e1 := Cq.qN_sum hi lo (w := 4) (by decide)
  rw [show (2 : Int) ^ nb 4 = 4294967296 from rfl] at e1
  have ng := Cq.neg_qN hi lo (w := 4) (by decide)
  have zq := Cq.zx_qN hi lo (w := 4) (by decide)
  unfold quoS
  rw [if_neg (by rw [hk]; decide)]
  unfold qq qm at hk
  rw [hnv] at ng
  obtain ⟨X, hX⟩ : ∃ X, X = qN hi lo 4 := ⟨_, rfl⟩
  rw [← hX] at hb e1 hk ng zq 
  rw [show (2 * 4 : Int) = 8 from rfl] at hk ng zq 
  have hA := Cq.qA_bd (w := 8) X (by decide)
  have hE := Cq.qA_bd (w := 4) d (by decide)
  have ha := Cq.qA_zx (w := 8) X (by decide) ng
  rw [zq, Int.zero_sub] at ha
  have hnd2 := (Cq.neg_zx d 4).trans hnd
  have uD := Cq.zx_u64 (v := d) 4
  rw [ng, hnd, zq] at hk 
  rw [ng, zq] at hA
  rw [hnd] at hE
  obtain ⟨D, hD⟩ : ∃ D, D = zx d 4 := ⟨_, rfl⟩
  rw [← hD] at hk hE hz uD hnd2  
  obtain ⟨A, hA2⟩ : ∃ A, A = qA X true (nb 8) := ⟨_, rfl⟩
  obtain ⟨E, hE2⟩ : ∃ E, E = qA D false (nb 4) := ⟨_, rfl⟩
  rw [← hA2] at hA hk 
  rw [← hE2] at hE hk 
  have HA : Hid (zx (IntKind.u64.wrap (-X)) 8 = A) := Lib.hid (ha.trans hA2.symm)
  have HE : Hid (D = E) := Lib.hid (hE2.symm)
  have HX := Lib.hid e1
  have HD := Lib.hid hD.symm
  have HNV := Lib.hid hnv
  have HND := Lib.hid hnd2
  have a0 := hA.1
  have d0 := hE.2.2 hz
  have a1 : A < 18446744073709551616 := Int.lt_of_le_of_lt hA.2.1 (by decide)
  have ux := hb.2.2
  have hz1 : (D == 0) = false := by simpa using hz
  have hz3 : (E == 0) = false := by simp; omega
  have uq : U64 (A / E) := ⟨Int.ediv_nonneg a0 (by omega), Int.lt_of_le_of_lt (Int.ediv_le_self _ a0) a1⟩
  have e1l : E < 18446744073709551616 := Int.lt_of_le_of_lt hE.2.1 (by decide)
  have ur : U64 (A % E) := ⟨Int.emod_nonneg _ (by omega), by have := Int.emod_lt_of_pos A d0; omega⟩
  unfold qOk at hk
  rw [show zx 18446744073709551615 4 = 4294967295 from by decide] at hk
  obtain ⟨q, hq⟩ : ∃ q, q = A / E := ⟨_, rfl⟩
  have HQ := Lib.hid hq.symm
  rw [← hq] at uq hk 
  have hk2 : 2147483648 < q := by simp at hk; omega
  clear hb e1 ng zq hA hE hX hD hnv hnd hnd2 hA2 hE2 hz hk hq ha
  go_enter Try.func20, Try.ntmps20
  go_wp2_with fail
  refine (ris_any _ _).mono ?_; rintro e w' ⟨rfl, rfl⟩
  rw [show isW 4 = true from rfl]
  go_wp2_with fail
  refine (rzx_any _ _ hd _).mono ?_; rintro e w' ⟨rfl, rfl⟩
  rw [HD.out]
  go_wp2_with fail
  refine (rzx_any _ _ hh _).mono ?_; rintro e w' ⟨rfl, rfl⟩
  go_wp2_with fail
  refine (rzx_any _ _ hl _).mono ?_; rintro e w' ⟨rfl, rfl⟩
  go_wp2_with fail
  rw [HX.out]
  refine (rzx_any _ _ hd _).mono ?_; rintro e w' ⟨rfl, rfl⟩
  rw [HD.out]
  go_wp2_with fail
  refine (rneg_any _ _ hh _).mono ?_; rintro e w' ⟨rfl, rfl⟩
  rw [HNV.out]
  go_wp2_with fail
  refine (rneg_any _ _ uD _).mono ?_; rintro e w' ⟨rfl, rfl⟩
  rw [HND.out]
  go_wp2_with fail
  refine (rzx_any _ _ (Cq.u64_wrap _) _).mono ?_; rintro e w' ⟨rfl, rfl⟩
  rw [HA.out]
  go_upto_region 11 with fail
  rw [HE.out]
  go_upto_region 13 with fail
  rw [HQ.out]
  go_wp2_with fail
  refine (rzx_any _ _ um _).mono ?_; rintro e w' ⟨rfl, rfl⟩
  rw [show zx 18446744073709551615 4 = 4294967295 from by decide]
  go_wp2_with fail
  go_ret3
  exact ⟨rfl, rfl⟩
theorem rquoS_4_true_true_yes (hi lo d : Int) (hh : U64 hi) (hl : U64 lo) (hd : U64 d) (hz : zx d 4 ≠ 0) (hnv : neg hi 4 = true) (hnd : neg d 4 = true) (hk : qOk (qq hi lo d 4) (qm hi lo d 4) 4 = true) (W : World) : Calls Try.prog 20 #[.int .u64 hi, .int .u64 lo, .int .u64 d, .bool true, .int .i64 4] W fun e W' => e = .returned (quoS hi lo d 4) ∧ W = W' := by
  have hb := Cq.qN_bd hi lo (w := 4) (by decide)
  have e1 := Cq.qN_sum hi lo (w := 4) (by decide)
  rw [show (2 : Int) ^ nb 4 = 4294967296 from rfl] at e1
  have ng := Cq.neg_qN hi lo (w := 4) (by decide)
  have zq := Cq.zx_qN hi lo (w := 4) (by decide)
  unfold quoS
  rw [if_pos hk]
  unfold qq qm at hk
  rw [hnv] at ng
  obtain ⟨X, hX⟩ : ∃ X, X = qN hi lo 4 := ⟨_, rfl⟩
  rw [← hX] at hb e1 hk ng zq ⊢
  rw [show (2 * 4 : Int) = 8 from rfl] at hk ng zq ⊢
  have hA := Cq.qA_bd (w := 8) X (by decide)
  have hE := Cq.qA_bd (w := 4) d (by decide)
  have t1 := Cq.tdiv_sign (qA (zx X 8) (neg X 8) (nb 8)) (qA (zx d 4) (neg d 4) (nb 4)) (neg X 8) (neg d 4) hA.1
  have t2 := Cq.tmod_sign (qA (zx X 8) (neg X 8) (nb 8)) (qA (zx d 4) (neg d 4) (nb 4)) (neg X 8) (neg d 4) hA.1
  rw [← Cq.sg_size, ← Cq.sg_size] at t1 t2
  rw [t1, t2]
  clear t1 t2
  have ha := Cq.qA_zx (w := 8) X (by decide) ng
  rw [zq, Int.zero_sub] at ha
  have hx := Cq.qA_zx (w := 4) d (by decide) hnd
  rw [Int.zero_sub] at hx
  have hnd2 := (Cq.neg_zx d 4).trans hnd
  have uD := Cq.zx_u64 (v := d) 4
  rw [ng, hnd, zq] at hk ⊢
  rw [ng, zq] at hA
  rw [hnd] at hE
  obtain ⟨D, hD⟩ : ∃ D, D = zx d 4 := ⟨_, rfl⟩
  rw [← hD] at hk hE hz uD hnd2 hx ⊢
  obtain ⟨A, hA2⟩ : ∃ A, A = qA X true (nb 8) := ⟨_, rfl⟩
  obtain ⟨E, hE2⟩ : ∃ E, E = qA D true (nb 4) := ⟨_, rfl⟩
  rw [← hA2] at hA hk ⊢
  rw [← hE2] at hE hk ⊢
  have HA : Hid (zx (IntKind.u64.wrap (-X)) 8 = A) := Lib.hid (ha.trans hA2.symm)
  have HE : Hid (zx (IntKind.u64.wrap (-D)) 4 = E) := Lib.hid (hx.trans hE2.symm)
  have HX := Lib.hid e1
  have HD := Lib.hid hD.symm
  have HNV := Lib.hid hnv
  have HND := Lib.hid hnd2
  have a0 := hA.1
  have d0 := hE.2.2 hz
  have a1 : A < 18446744073709551616 := Int.lt_of_le_of_lt hA.2.1 (by decide)
  have ux := hb.2.2
  have hz1 : (D == 0) = false := by simpa using hz
  have hz3 : (E == 0) = false := by simp; omega
  have uq : U64 (A / E) := ⟨Int.ediv_nonneg a0 (by omega), Int.lt_of_le_of_lt (Int.ediv_le_self _ a0) a1⟩
  have e1l : E < 18446744073709551616 := Int.lt_of_le_of_lt hE.2.1 (by decide)
  have ur : U64 (A % E) := ⟨Int.emod_nonneg _ (by omega), by have := Int.emod_lt_of_pos A d0; omega⟩
  unfold qOk at hk
  rw [show zx 18446744073709551615 4 = 4294967295 from by decide] at hk
  obtain ⟨q, hq⟩ : ∃ q, q = A / E := ⟨_, rfl⟩
  have HQ := Lib.hid hq.symm
  rw [← hq] at uq hk ⊢
  have hk2 : q ≤ 2147483647 := by simp at hk; omega
  unfold qS
  simp only [show (true != true) = false from rfl]
  have HZ2 := Lib.hid (Cq.zx_wrap (-(A % E)) 4)
  clear hb e1 ng zq hA hE hX hD hnv hnd hnd2 hA2 hE2 hz hk hq ha hx
  go_enter Try.func20, Try.ntmps20
  go_wp2_with fail
  refine (ris_any _ _).mono ?_; rintro e w' ⟨rfl, rfl⟩
  rw [show isW 4 = true from rfl]
  go_wp2_with fail
  refine (rzx_any _ _ hd _).mono ?_; rintro e w' ⟨rfl, rfl⟩
  rw [HD.out]
  go_wp2_with fail
  refine (rzx_any _ _ hh _).mono ?_; rintro e w' ⟨rfl, rfl⟩
  go_wp2_with fail
  refine (rzx_any _ _ hl _).mono ?_; rintro e w' ⟨rfl, rfl⟩
  go_wp2_with fail
  rw [HX.out]
  refine (rzx_any _ _ hd _).mono ?_; rintro e w' ⟨rfl, rfl⟩
  rw [HD.out]
  go_wp2_with fail
  refine (rneg_any _ _ hh _).mono ?_; rintro e w' ⟨rfl, rfl⟩
  rw [HNV.out]
  go_wp2_with fail
  refine (rneg_any _ _ uD _).mono ?_; rintro e w' ⟨rfl, rfl⟩
  rw [HND.out]
  go_wp2_with fail
  refine (rzx_any _ _ (Cq.u64_wrap _) _).mono ?_; rintro e w' ⟨rfl, rfl⟩
  rw [HA.out]
  go_wp2_with fail
  refine (rzx_any _ _ (Cq.u64_wrap _) _).mono ?_; rintro e w' ⟨rfl, rfl⟩
  rw [HE.out]
  go_upto_region 11 with fail
  go_upto_region 13 with fail
  rw [HQ.out]
  go_wp2_with fail
  refine (rzx_any _ _ um _).mono ?_; rintro e w' ⟨rfl, rfl⟩
  rw [show zx 18446744073709551615 4 = 4294967295 from by decide]
  go_wp2_with fail
  refine (rzx_any _ _ uq _).mono ?_; rintro e w' ⟨rfl, rfl⟩
  go_wp2_with fail
  refine (rzx_any _ _ (Cq.u64_wrap _) _).mono ?_; rintro e w' ⟨rfl, rfl⟩
  rw [HZ2.out]
  go_wp2_with fail
  go_ret3
  exact ⟨rfl, rfl⟩
theorem rquoS_4_true_true_no (hi lo d : Int) (hh : U64 hi) (hl : U64 lo) (hd : U64 d) (hz : zx d 4 ≠ 0) (hnv : neg hi 4 = true) (hnd : neg d 4 = true) (hk : qOk (qq hi lo d 4) (qm hi lo d 4) 4 = false) (W : World) : Calls Try.prog 20 #[.int .u64 hi, .int .u64 lo, .int .u64 d, .bool true, .int .i64 4] W fun e W' => e = .returned (quoS hi lo d 4) ∧ W = W' := by
  have hb := Cq.qN_bd hi lo (w := 4) (by decide)
  have e1 := Cq.qN_sum hi lo (w := 4) (by decide)
  rw [show (2 : Int) ^ nb 4 = 4294967296 from rfl] at e1
  have ng := Cq.neg_qN hi lo (w := 4) (by decide)
  have zq := Cq.zx_qN hi lo (w := 4) (by decide)
  unfold quoS
  rw [if_neg (by rw [hk]; decide)]
  unfold qq qm at hk
  rw [hnv] at ng
  obtain ⟨X, hX⟩ : ∃ X, X = qN hi lo 4 := ⟨_, rfl⟩
  rw [← hX] at hb e1 hk ng zq 
  rw [show (2 * 4 : Int) = 8 from rfl] at hk ng zq 
  have hA := Cq.qA_bd (w := 8) X (by decide)
  have hE := Cq.qA_bd (w := 4) d (by decide)
  have ha := Cq.qA_zx (w := 8) X (by decide) ng
  rw [zq, Int.zero_sub] at ha
  have hx := Cq.qA_zx (w := 4) d (by decide) hnd
  rw [Int.zero_sub] at hx
  have hnd2 := (Cq.neg_zx d 4).trans hnd
  have uD := Cq.zx_u64 (v := d) 4
  rw [ng, hnd, zq] at hk 
  rw [ng, zq] at hA
  rw [hnd] at hE
  obtain ⟨D, hD⟩ : ∃ D, D = zx d 4 := ⟨_, rfl⟩
  rw [← hD] at hk hE hz uD hnd2 hx 
  obtain ⟨A, hA2⟩ : ∃ A, A = qA X true (nb 8) := ⟨_, rfl⟩
  obtain ⟨E, hE2⟩ : ∃ E, E = qA D true (nb 4) := ⟨_, rfl⟩
  rw [← hA2] at hA hk 
  rw [← hE2] at hE hk 
  have HA : Hid (zx (IntKind.u64.wrap (-X)) 8 = A) := Lib.hid (ha.trans hA2.symm)
  have HE : Hid (zx (IntKind.u64.wrap (-D)) 4 = E) := Lib.hid (hx.trans hE2.symm)
  have HX := Lib.hid e1
  have HD := Lib.hid hD.symm
  have HNV := Lib.hid hnv
  have HND := Lib.hid hnd2
  have a0 := hA.1
  have d0 := hE.2.2 hz
  have a1 : A < 18446744073709551616 := Int.lt_of_le_of_lt hA.2.1 (by decide)
  have ux := hb.2.2
  have hz1 : (D == 0) = false := by simpa using hz
  have hz3 : (E == 0) = false := by simp; omega
  have uq : U64 (A / E) := ⟨Int.ediv_nonneg a0 (by omega), Int.lt_of_le_of_lt (Int.ediv_le_self _ a0) a1⟩
  have e1l : E < 18446744073709551616 := Int.lt_of_le_of_lt hE.2.1 (by decide)
  have ur : U64 (A % E) := ⟨Int.emod_nonneg _ (by omega), by have := Int.emod_lt_of_pos A d0; omega⟩
  unfold qOk at hk
  rw [show zx 18446744073709551615 4 = 4294967295 from by decide] at hk
  obtain ⟨q, hq⟩ : ∃ q, q = A / E := ⟨_, rfl⟩
  have HQ := Lib.hid hq.symm
  rw [← hq] at uq hk 
  have hk2 : 2147483647 < q := by simp at hk; omega
  clear hb e1 ng zq hA hE hX hD hnv hnd hnd2 hA2 hE2 hz hk hq ha hx
  go_enter Try.func20, Try.ntmps20
  go_wp2_with fail
  refine (ris_any _ _).mono ?_; rintro e w' ⟨rfl, rfl⟩
  rw [show isW 4 = true from rfl]
  go_wp2_with fail
  refine (rzx_any _ _ hd _).mono ?_; rintro e w' ⟨rfl, rfl⟩
  rw [HD.out]
  go_wp2_with fail
  refine (rzx_any _ _ hh _).mono ?_; rintro e w' ⟨rfl, rfl⟩
  go_wp2_with fail
  refine (rzx_any _ _ hl _).mono ?_; rintro e w' ⟨rfl, rfl⟩
  go_wp2_with fail
  rw [HX.out]
  refine (rzx_any _ _ hd _).mono ?_; rintro e w' ⟨rfl, rfl⟩
  rw [HD.out]
  go_wp2_with fail
  refine (rneg_any _ _ hh _).mono ?_; rintro e w' ⟨rfl, rfl⟩
  rw [HNV.out]
  go_wp2_with fail
  refine (rneg_any _ _ uD _).mono ?_; rintro e w' ⟨rfl, rfl⟩
  rw [HND.out]
  go_wp2_with fail
  refine (rzx_any _ _ (Cq.u64_wrap _) _).mono ?_; rintro e w' ⟨rfl, rfl⟩
  rw [HA.out]
  go_wp2_with fail
  refine (rzx_any _ _ (Cq.u64_wrap _) _).mono ?_; rintro e w' ⟨rfl, rfl⟩
  rw [HE.out]
  go_upto_region 11 with fail
  go_upto_region 13 with fail
  rw [HQ.out]
  go_wp2_with fail
  refine (rzx_any _ _ um _).mono ?_; rintro e w' ⟨rfl, rfl⟩
  rw [show zx 18446744073709551615 4 = 4294967295 from by decide]
  go_wp2_with fail
  go_ret3
  exact ⟨rfl, rfl⟩
end Go.Proofs.Ytmebkahgdpnajaa
