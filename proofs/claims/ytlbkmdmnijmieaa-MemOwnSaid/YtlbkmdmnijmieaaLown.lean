/- Layer 9 (memory): the law MemOwn. -/
import Derived.Test.YtlbkmdmnijmieaaOp
import Derived.Test.YtlbkmdmnijmieaaMs
import Derived.Deep.RegionLaw
namespace Go.Proofs.Ytlbkmdmnijmieaa
open Go Go.RowKit Rp Go.Maps
open Cq (U64 I64 isW nb mask)

def NoB (b : Nat) : Bs := ⟨b, fun _ => False⟩
set_option maxRecDepth 100000 in
set_option maxHeartbeats 8000000 in
theorem law_own (A : Option Addr) (c : Nat) (I : List Ar) (W : World) (h : RIn W A I) (hlen : I.length ≤ 9223372036854775807) (A2 : Option Addr) (ln c2 : Nat) (hln : ln ≤ 9223372036854775807) (hop : OpsIn W A2 ln) (t kd T : Int) (nr : Bool) (ix at' w vv : Int) (hat : U64 at') (hix : I64 ix) (hvv : U64 vv) :
    Calls Try.prog 4 #[.slice A I.length c, .slice A2 ln c2, .int .i64 t, .agg #[.int .i64 kd, .int .i64 T, .bool nr, .int .i64 ix, .int .u64 at', .int .i64 w, .int .u64 vv]] W fun e W' => e = .returned (.bool true) ∧ Kp W W' := by
  obtain ⟨w1, hw1⟩ : ∃ w1, w1 = W.alloc (.cells #[.int .i64 kd, .int .i64 T, .bool nr, .int .i64 ix, .int .u64 at', .int .i64 w, .int .u64 vv] 32) := ⟨_, rfl⟩
  have HK1 : Hid (Kp W w1) := by rw [hw1]; exact (Kp.rfl W).new _
  have HB1 : Hid (w1.heap[W.heap.size]? = some (.cells #[.int .i64 kd, .int .i64 T, .bool nr, .int .i64 ix, .int .u64 at', .int .i64 w, .int .u64 vv] 32 (0, 0))) := by rw [hw1]; exact heap_alloc_new W _
  have HC := Lib.hid (cut_any A c I w1 (h.kp HK1.out) hlen)
  have HOP := Lib.hid (hop.kp HK1.out)
  have HAT := Lib.hid hat
  have HIX := Lib.hid hix
  have HVV := Lib.hid hvv
  obtain ⟨li, hli⟩ : ∃ li, li = I.length := ⟨_, rfl⟩
  rw [← hli] at HC ⊢
  obtain ⟨s, hs⟩ : ∃ s, s = W.heap.size := ⟨_, rfl⟩
  clear h hlen hop hat hix hvv hli
  go_enter Try.func4, Try.ntmps4
  go_wp2_with fail
  rw [← hw1]
  rw [← hs] at HB1 ⊢
  clear hw1 hs
  refine HC.out.mono ?_
  rintro e w2 ⟨A3, c3, rfl, hR2, hk2⟩
  have hsm : Small w2 A3 (cutL I) := ⟨hR2, cutL_length I, fun a ha => by obtain ⟨b, _, rfl⟩ := List.mem_map.1 ha; exact cutA_n b⟩
  have HK2 := Lib.hid (HK1.out.next hk2)
  have HOP2 := Lib.hid (HOP.out.kp hk2)
  have HB2 : Hid (OpB w2 s kd T nr ix at' w vv) := (hk2.block _ (Array.getElem?_eq_some_iff.1 HB1.out).1).trans HB1.out
  generalize cutL I = J at *
  have HSM := Lib.hid hsm
  have HOU := Lib.hid (ours_any A3 c3 J w2 hsm)
  have HAI := Lib.hid (AtIn.of_rin hR2)
  have HNEW := Lib.hid (fun w (k : Kp w2 w) => rnew_any A3 c3 J w (hsm.kp k))
  obtain ⟨n, hn⟩ : ∃ n, n = J.length := ⟨_, rfl⟩
  have hn8 : n ≤ 8 := by have := hsm.few; omega
  rw [← hn] at HOU HAI HNEW ⊢
  clear HC HOP hR2 hk2 hsm hn
  go_wp2_with fail
  refine HOU.out.mono ?_
  rintro e w3 ⟨g, v, L, rfl, hM3, -, -, hk3⟩
  have HM3 := Lib.hid hM3
  have HK3 := Lib.hid hk3
  have b3 : OpB w3 s kd T nr ix at' w vv := HB2.out.kept (hk3.block _ HB2.out.lt)
  have e0 := b3.cell 0
  have e1 := b3.cell 1
  have e2 := b3.cell 2
  have e3 := b3.cell 3
  have e4 := b3.cell 4
  have e5 := b3.cell 5
  have e6 := b3.cell 6
  simp only [List.getElem?_cons_zero, List.getElem?_cons_succ] at e0 e1 e2 e3 e4 e5 e6
  clear hM3 hk3 b3 HOU
  go_wp2_with fail
  refine (at_any kd T nr ix at' w vv A3 n c3 w3 HAT.out HIX.out (by omega) (HAI.out.kp HK3.out)).mono ?_
  rintro e w4 ⟨x, rfl, hx, hk4⟩
  have HX := Lib.hid hx
  have HM4 : Hid (MB 0 (NoB w2.heap.size) w4 g v noRows L (fun _ => [])) := MB.new (HM3.out.kp hk4) (fun _ hk => hk.elim)
  have HK4 := Lib.hid (HK3.out.next hk4)
  clear hx hk4 e0 e1 e2 e3 e4 e5 e6
  have b4 : OpB w4 s kd T nr ix at' w vv := HB2.out.kept (HK4.out.block _ HB2.out.lt)
  have e5 := b4.cell 5
  have e6 := b4.cell 6
  simp only [List.getElem?_cons_zero, List.getElem?_cons_succ] at e5 e6
  clear b4
  go_wp2_with fail
  refine (store_mb HM4.out t ⟨x, w, vv, HX.out, HVV.out⟩ (by omega)).mono ?_
  rintro e w5 (⟨rfl, -, -, hf5⟩ | ⟨i, bv, rfl, hi, hmay, rfl, hM5, hf5⟩)
  · have HK5 := Lib.hid (hf5.1 w2 (Nat.le_refl _) HK4.out)
    clear hf5 e5 e6
    go_wp2_with fail
    refine (awake_any _).mono ?_
    rintro e w6 ⟨rfl, hk6⟩
    have HK6 := Lib.hid (HK2.out.next (HK5.out.next hk6))
    clear hk6
    go_wp2_with fail
    go_ret
    exact ⟨rfl, HK6.out⟩
  obtain ⟨q, hq⟩ : ∃ q : Sto, q = ⟨x, w, vv, HX.out, HVV.out⟩ := ⟨_, rfl⟩
  have HQA : Hid (q.a = x ∧ q.w = w) := by rw [hq]; exact ⟨rfl, rfl⟩
  rw [← hq] at hM5 hmay
  obtain ⟨nw, hw, hw1, hw8⟩ : ∃ nw : Nat, w = nw ∧ isW nw = true ∧ nw ≤ 8 := by
    have h1 := hmay
    unfold mayB at h1
    simp only [Bool.and_eq_true] at h1
    obtain ⟨n', e1, e2, e3⟩ := isW_nat h1.1.1.2
    rw [HQA.out.2] at e1
    exact ⟨n', e1, by rw [← e1, ← HQA.out.2]; exact h1.1.1.2, e3⟩
  subst hw
  have HOI5 : Hid (OI 1 (NoB w2.heap.size) w5 g v i q) := ⟨bv, L, _, hM5, by rw [upd_same]; rfl, mayB_rd hmay⟩
  have HK5 := Lib.hid (hf5.1 w2 (Nat.le_refl _) HK4.out)
  have HW1 := Lib.hid hw1
  have HHI := Lib.hid hi
  obtain ⟨r0, hr0⟩ : ∃ r0, r0 = ownR q := ⟨_, rfl⟩
  have HLD : Hid (∀ (N : Nat) (w' : World), N < 1000 → OI N (NoB w2.heap.size) w' g v i q → Calls Try.prog 20 #[.pointer (some ⟨g, 0, none⟩), .int .i64 i, .int .u64 x, .int .i64 nw] w' fun e W' => e = .returned (.tuple #[.int .u64 r0, .bool true]) ∧ OI N (NoB w2.heap.size) W' g v i q ∧ (Kp w2 w' → Kp w2 W')) := by
    intro N w' hN ⟨bv', L', Qs', h1, h2, h3⟩
    rw [HQA.out.1, HQA.out.2] at h3
    refine (load_mb h1 i x nw HX.out hN).mono fun e W' hv => ?_
    obtain ⟨h4, h5, h6⟩ := hv
    rcases h6 with ⟨_, h7⟩ | ⟨i', n', h7, h8, h9, h10, h11⟩
    · rw [h3] at h7; cases h7
    · obtain rfl : i = i' := by omega
      obtain rfl : nw = n' := by omega
      rw [h2] at h11
      have h12 := ld_own (L := L') (q := q) (n := nw) HQA.out.2 HW1.out (by rw [HQA.out.1]; exact h11)
      rw [← hr0] at h12
      exact ⟨h12, ⟨bv', L', Qs', h4, h2, by rw [HQA.out.1, HQA.out.2]; exact h3⟩, fun hk => h5.1 w2 (Nat.le_refl _) hk⟩
  clear hM5 hmay hf5 hw1 hw8 hi hq hr0 e5 e6
  have b5 : OpB w5 s kd T nr ix at' nw vv := HB2.out.kept (HK5.out.block _ HB2.out.lt)
  have e5 := b5.cell 5
  simp only [List.getElem?_cons_zero, List.getElem?_cons_succ] at e5
  clear b5
  go_wp2_with fail
  refine (HLD.out 1 w5 (by omega) HOI5.out).mono ?_
  rintro e w6 ⟨rfl, hO6, hk6⟩
  have HOI6 := Lib.hid hO6
  have HK6 := Lib.hid (hk6 HK5.out)
  have hrr : (r0 != r0) = false := by simp
  clear hO6 hk6 e5
  go_wp2_with fail
  go_loopw [45] (fun j wr => ∃ k : Nat, k ≤ ln ∧ k ≤ 40 ∧ j = .int .i64 k ∧ OI (1 + k) (NoB w2.heap.size) wr g v i q ∧ Kp w2 wr) (fun j _ => ln - (intOf j).toNat)
  case atStart => exact ⟨0, Nat.zero_le _, by omega, rfl, HOI6.out, HK6.out⟩
  case round =>
    obtain ⟨k, hk, hk40, rfl, hO, hkr⟩ := hrel
    have HO := Lib.hid hO
    have HKR := Lib.hid hkr
    clear hO hkr
    by_cases hlt : k < ln
    · obtain ⟨gb, off, hA, hgb, hc⟩ := (HOP2.out.kp HKR.out) (by omega)
      subst hA
      obtain ⟨o, ho⟩ := hc k hlt
      have c0 := ho 0 (by omega)
      rw [Nat.add_zero] at c0
      have c1 := ho 1 (by omega)
      have c2' := ho 2 (by omega)
      have c3' := ho 3 (by omega)
      have c4 := ho 4 (by omega)
      have c5 := ho 5 (by omega)
      have c6 := ho 6 (by omega)
      simp only [Opq.row, List.getElem?_cons_zero, List.getElem?_cons_succ] at c0 c1 c2' c3' c4 c5 c6
      obtain ⟨kd', T', nr', ix', ⟨qa, qw, qv, hqa, hqv⟩, hix'⟩ := o
      dsimp only at c0 c1 c2' c3' c4 c5 c6
      have HIX' := Lib.hid hix'
      have HQA' := Lib.hid hqa
      have HQV' := Lib.hid hqv
      clear ho hc hix' hqa hqv
      obtain ⟨wa, hwa⟩ : ∃ wa, wa = wr.alloc (.cells #[.int .i64 kd', .int .i64 T', .bool nr', .int .i64 ix', .int .u64 qa, .int .i64 qw, .int .u64 qv] 32) := ⟨_, rfl⟩
      have hka : Kp wr wa := by rw [hwa]; exact (Kp.rfl wr).new _
      have ba : OpB wa wr.heap.size kd' T' nr' ix' qa qw qv := by rw [hwa]; exact heap_alloc_new wr _
      have HKA := Lib.hid hka
      have HBA := Lib.hid ba
      have y0 := ba.cell 0
      have y1 := ba.cell 1
      have y2 := ba.cell 2
      have y3 := ba.cell 3
      have y4 := ba.cell 4
      have y5 := ba.cell 5
      have y6 := ba.cell 6
      simp only [List.getElem?_cons_zero, List.getElem?_cons_succ] at y0 y1 y2 y3 y4 y5 y6
      have hsl := ba.lt
      clear hka ba
      by_cases hlt40 : k < 40
      rotate_left
      · have hk40' : (40 : Int) ≤ k := by omega
        have HO := Lib.hid (HO.out.kp HKA.out)
        have HKR := Lib.hid (HKR.out.next HKA.out)
        clear y0 y1 y2 y3 y4 y5 y6
        obtain ⟨bv', L', Qs', hM, hQ, hY⟩ := HO.out
        obtain ⟨b, hb, hq, -, -⟩ := hM.q i HHI.out
        rw [hQ] at hq
        obtain ⟨qA, qc, rfl, -, -, -⟩ := hq
        have HP := Lib.hid (pend_any i g qA [q].length qc wa HHI.out (hM.cell hb))
        have HM := Lib.hid hM
        have HQ := Lib.hid hQ
        clear hM hQ hY hb
        go_wp2_with fail
        rw [← hwa]
        clear hwa
        refine HP.out.mono ?_; rintro e w7 ⟨rfl, rfl⟩
        simp only [List.length_singleton]
        go_wp2_with fail
        refine (drain_mb HM.out (i : Int)).mono ?_
        rintro e w7 (⟨-, -, h0, -⟩ | ⟨i', q', Q', bv2, he, hi', hQ', rfl, hM2, hF2⟩)
        · exfalso
          have := h0 i rfl HHI.out
          rw [HQ.out] at this
          cases this
        obtain rfl : i = i' := by omega
        rw [HQ.out] at hQ'
        injection hQ' with e1 e2
        subst e1 e2
        have HM2 := Lib.hid hM2
        have HK7 := Lib.hid (hF2.1 w2 (Nat.le_refl _) HKR.out)
        clear hM2 hF2 he
        go_wp2_with fail
        refine (drain_mb HM2.out (i : Int)).mono ?_
        rintro e w8 (⟨rfl, -, -, hF3⟩ | ⟨i', q', Q', bv3, he, hi2, hQ', -, -, -⟩)
        · have HK8 := Lib.hid (hF3.1 w2 (Nat.le_refl _) HK7.out)
          clear hF3
          go_wp2_with fail
          refine (awake_any _).mono ?_
          rintro e w9 ⟨rfl, hk9⟩
          have HK9 := Lib.hid (HK2.out.next (HK8.out.next hk9))
          clear hk9
          go_wp2_with fail
          go_ret
          exact ⟨rfl, HK9.out⟩
        · exfalso
          obtain rfl : i = i' := by omega
          rw [upd_same] at hQ'
          cases hQ'
      by_cases hTi : T' = i
      · have hii : (T' != (i : Int)) = false := by simpa using hTi
        clear hTi
        have br : OpB wr s kd T nr ix at' nw vv := HB2.out.kept (HKR.out.block _ HB2.out.lt)
        have z5 := br.cell 5
        have zl := br.lt
        simp only [List.getElem?_cons_zero, List.getElem?_cons_succ] at z5
        clear br
        go_wp2_with fail
        rw [← hwa]
        clear hwa
        refine (HLD.out (1 + k) wa (by omega) (HO.out.kp HKA.out)).mono ?_
        rintro e w9 ⟨rfl, hO9, hk9⟩
        have HO9 := Lib.hid hO9
        have HK9 := Lib.hid (hk9 (HKR.out.next HKA.out))
        clear hO9 hk9 z5 zl y0 y1 y2 y3 y4 y5 y6 c0 c1 c2' c3' c4 c5 c6
        go_wp2_with fail
        go_roundw
        case rel => exact ⟨k + 1, by omega, by omega, by go_num, HO9.out.more (by omega), HK9.out⟩
        case measure => simp [intOf]; omega
      · have hne : (T' != (i : Int)) = true := by simpa using hTi
        have HTI := Lib.hid hTi
        have HOR : Hid (∀ (Br gr : Nat) (vr : Value) (Lr : List Ar) (w7 : World), Kp wr w7 → RS Br w7 gr vr noRows Lr → wr.heap.size ≤ Br → OI (1 + k) ⟨w2.heap.size, fun k => MBlk gr vr Lr k⟩ w7 g v i q) := fun Br gr vr Lr w7 hk7 hr7 hb => by
          obtain ⟨bv', L', Qs', h1, h2, h3⟩ := HO.out
          exact ⟨bv', L', Qs', h1.refar hk7 _ (fun j hj => .inr ⟨by have := (hr7.lt hj).1; omega, (hr7.lt hj).2⟩), h2, h3⟩
        have hsz1 := HKR.out.size
        have hsz2 := HKA.out.size
        clear hTi
        go_wp2_with fail
        rw [← hwa]
        clear hwa
        go_region_law
          (first
            | (go_simp; go_at_call 10; refine (HNEW.out _ ((HKR.out.next HKA.out).draw)).mono ?_; rintro e w7 ⟨gr, vr, Lr, rfl, hM7, -, -, hk7⟩; have hka7 : Kp wa w7 := (Kp.rfl wa).draw.next hk7; have d0 : w7.cell? ⟨wr.heap.size, 0, none⟩ = some (.int .i64 kd') := (hka7.cell (p := ⟨wr.heap.size, 0, none⟩) hsl).trans y0; have d1 : w7.cell? ⟨wr.heap.size, 1, none⟩ = some (.int .i64 T') := (hka7.cell (p := ⟨wr.heap.size, 1, none⟩) hsl).trans y1; have d2 : w7.cell? ⟨wr.heap.size, 2, none⟩ = some (.bool nr') := (hka7.cell (p := ⟨wr.heap.size, 2, none⟩) hsl).trans y2; have d3 : w7.cell? ⟨wr.heap.size, 3, none⟩ = some (.int .i64 ix') := (hka7.cell (p := ⟨wr.heap.size, 3, none⟩) hsl).trans y3; have d4 : w7.cell? ⟨wr.heap.size, 4, none⟩ = some (.int .u64 qa) := (hka7.cell (p := ⟨wr.heap.size, 4, none⟩) hsl).trans y4; have d5 : w7.cell? ⟨wr.heap.size, 5, none⟩ = some (.int .i64 qw) := (hka7.cell (p := ⟨wr.heap.size, 5, none⟩) hsl).trans y5; have d6 : w7.cell? ⟨wr.heap.size, 6, none⟩ = some (.int .u64 qv) := (hka7.cell (p := ⟨wr.heap.size, 6, none⟩) hsl).trans y6)
            | (go_simp; go_at_call 14; refine (step_any (HOR.out _ gr vr Lr w7 (HKA.out.next hka7) hM7 hsz2) (by omega) HHI.out hM7 (fun k hk => hk) (Nat.le_trans hsz1 hsz2) kd' T' HTI.out nr' ix' qa qw qv HQA'.out HIX'.out HQV'.out).mono ?_; rintro e w8 ⟨⟨r8, rfl⟩, hO8, hf8⟩))
        all_goals
          have HO8 : Hid (OI (1 + (k + 1)) (NoB w2.heap.size) w8 g v i q) := hO8.more (by omega)
          have HK8 : Hid (Kp w2 w8) := hf8 w2 (Nat.le_refl _) ((HKR.out.next HKA.out).next hka7)
          clear hO8 hf8 hM7 hk7 hka7 d0 d1 d2 d3 d4 d5 d6 y0 y1 y2 y3 y4 y5 y6 c0 c1 c2' c3' c4 c5 c6
          have b8 : OpB w8 s kd T nr ix at' nw vv := HB2.out.kept (HK8.out.block _ HB2.out.lt)
          have z5 := b8.cell 5
          simp only [List.getElem?_cons_zero, List.getElem?_cons_succ] at z5
          clear b8
          go_wp2_with fail
          refine (HLD.out _ w8 (by omega) HO8.out).mono ?_
          rintro e w9 ⟨rfl, hO9, hk9⟩
          have HO9 := Lib.hid hO9
          have HK9 := Lib.hid (hk9 HK8.out)
          clear hO9 hk9 z5
          go_wp2_with fail
          go_roundw
          case rel => exact ⟨k + 1, by omega, by omega, by go_num, HO9.out, HK9.out⟩
          case measure => simp [intOf]; omega
    · have hlt' : (ln : Int) ≤ k := by omega
      obtain ⟨bv', L', Qs', hM, hQ, hY⟩ := HO.out
      obtain ⟨b, hb, hq, -, -⟩ := hM.q i HHI.out
      rw [hQ] at hq
      obtain ⟨qA, qc, rfl, -, -, -⟩ := hq
      have HP := Lib.hid (pend_any i g qA [q].length qc wr HHI.out (hM.cell hb))
      have HM := Lib.hid hM
      have HQ := Lib.hid hQ
      clear hM hQ hY hb
      go_wp2_with fail
      refine HP.out.mono ?_; rintro e w7 ⟨rfl, rfl⟩
      simp only [List.length_singleton]
      go_wp2_with fail
      refine (drain_mb HM.out (i : Int)).mono ?_
      rintro e w7 (⟨-, -, h0, -⟩ | ⟨i', q', Q', bv2, he, hi', hQ', rfl, hM2, hF2⟩)
      · exfalso
        have := h0 i rfl HHI.out
        rw [HQ.out] at this
        cases this
      obtain rfl : i = i' := by omega
      rw [HQ.out] at hQ'
      injection hQ' with e1 e2
      subst e1 e2
      have HM2 := Lib.hid hM2
      have HK7 := Lib.hid (hF2.1 w2 (Nat.le_refl _) HKR.out)
      clear hM2 hF2 he
      go_wp2_with fail
      refine (drain_mb HM2.out (i : Int)).mono ?_
      rintro e w8 (⟨rfl, -, -, hF3⟩ | ⟨i', q', Q', bv3, he, hi2, hQ', -, -, -⟩)
      · have HK8 := Lib.hid (hF3.1 w2 (Nat.le_refl _) HK7.out)
        clear hF3
        go_wp2_with fail
        refine (awake_any _).mono ?_
        rintro e w9 ⟨rfl, hk9⟩
        have HK9 := Lib.hid (HK2.out.next (HK8.out.next hk9))
        clear hk9
        go_wp2_with fail
        go_ret
        exact ⟨rfl, HK9.out⟩
      · exfalso
        obtain rfl : i = i' := by omega
        rw [upd_same] at hQ'
        cases hQ'
end Go.Proofs.Ytlbkmdmnijmieaa
