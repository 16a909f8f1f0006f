/- The statement of layer 2 on views. -/
import Derived.Test.YtfcooaafhpoobaaRopt
namespace Go.Proofs.Ytfcooaafhpoobaa
open Go.RowKit Rp
open Cq (U64 I64 isW)
theorem Asks.below {W W' : World} {a : Option Addr} {len g : Nat} (h : Asks W a len) (b : Below g W W') (hg : W.heap.size ≤ g) : Asks W' a len := by
  intro i hi
  obtain ⟨p, k, w, n, rfl, hb, h1, h2, h3, c0, c1, c2⟩ := h i hi
  have hk : ∀ j, (p.add j).block = p.block := fun j => by unfold Addr.add; split <;> rfl
  have e := b.block p.block (by omega)
  exact ⟨p, k, w, n, rfl, Nat.lt_of_lt_of_le hb b.size, h1, h2, h3, (World.cell?_of_block (by rw [hk]; exact e)).trans c0, (World.cell?_of_block (by rw [hk]; exact e)).trans c1, (World.cell?_of_block (by rw [hk]; exact e)).trans c2⟩
theorem add_field (p : Addr) (n j : Nat) (hj : j ≠ 0) : (⟨(p.add n).block, (p.add n).off + j, none⟩ : Addr) = p.add (n + j) := by
  unfold Addr.add
  rw [if_neg (show n + j ≠ 0 by omega)]
  split
  · next h => subst h; simp
  · simp [Nat.add_assoc]
set_option maxHeartbeats 8000000 in
set_option maxRecDepth 100000 in
theorem law_reads (W : World) (A : Option Addr) (bs : List Int) (n c : Nat) (at_ : Int) (A2 : Option Addr) (len2 cap2 : Nat) (hn : (n ≤ 200 ∧ bs.length = n) ∨ (200 < n ∧ bs.length = 200)) (hr : Reads W A bs) (h8 : Bytes8 bs) (hA : A = none → c = 0 ∧ n = 0)
    (hAb : ∀ a, A = some a → 0 < bs.length → a.block < W.heap.size) (hnc : n ≤ c) (hc : c ≤ 9223372036854775807) (hq : Asks W A2 len2) (hl2 : len2 ≤ 9223372036854775807) :
    Calls Try.prog 4 #[.slice A n c, .int .i64 at_, .slice A2 len2 cap2] W fun e W' => e = .returned (.bool true) ∧ Below W.heap.size W W' := by
  have hal : Below W.heap.size W (W.alloc (.cells #[.slice A bs.length c] 22)) := (Below.refl _ _).alloc (Nat.le_refl _) _
  have hpx : Box (W.alloc (.cells #[.slice A bs.length c] 22)) W.heap.size 22 [.slice A bs.length c] := Box.fresh W 22 _
  have hA0 : A = none → c = 0 ∧ bs.length = 0 := fun h => by have := hA h; omega
  have HN := Lib.hid (new_one W _ A bs c hal hpx hr hA0 hAb (by omega) hc (by omega))
  have hbl : bs.length ≤ 200 := by omega
  have hbc : bs.length ≤ c := by omega
  have HR := Lib.hid hr
  have H8 := Lib.hid h8
  have HA : Hid (A = none → bs = []) := fun h => List.eq_nil_of_length_eq_zero (hA0 h).2
  have HAB := Lib.hid hAb
  have HQ := Lib.hid hq
  clear hal hpx hr h8 hA hA0 hAb hq
  have hLn : (n ≤ 200 ∧ n = bs.length) ∨ (200 < n ∧ bs.length = 200) := by omega
  have HLN := Lib.hid hLn
  clear hn hLn
  go_enter Try.func4, Try.ntmps4
  go_upto_if 15 with fail
  go_cut [0] (fun b wx => b = .slice A bs.length c ∧ W = wx)
  case first =>
    rcases HLN.out with ⟨hn1, hn2⟩ | ⟨hn1, hn2⟩
    · go_wp2_with fail
      go_meet
      exact ⟨by rw [hn2], rfl⟩
    · have HN2 := Lib.hid hn2
      clear hn2
      go_wp2_with fail
      go_meet
      exact ⟨by rw [HN2.out], rfl⟩
  case rest =>
    obtain ⟨rfl, rfl⟩ := hcut
    go_wp2_with fail
    refine HN.out.mono ?_; rintro e w1 ⟨rb0, v1, rfl, hrb, hst1, hb1⟩
    have HB1 := Lib.hid hb1
    have hsz1 := hb1.size
    have HRD := Lib.hid (read_any _ w1 rb0 [] v1 _ hst1 (by omega) at_)
    clear hb1 hst1 HN
    go_wp2_with fail
    refine HRD.out.mono ?_
    rintro e w2 ⟨vb, v2, rfl, hvw, hb2⟩
    have HVW := Lib.hid hvw
    have HB2 := Lib.hid hb2
    have hsz2 := hb2.size
    clear hvw hb2 HRD
    go_wp2_with fail
    refine (rhas_any A bs.length c at_ 0 _ (by omega)).mono ?_; rintro e w' ⟨rfl, rfl⟩
    go_upto_if 30 with fail
    go_cut [8] (fun v wx => ∃ rb1 A3 c3, v = .pointer (some ⟨rb1, 0, none⟩) ∧ Begun w1.heap.size W wx vb rb1 v2 A3 (rdB bs at_) c3 (rdA bs at_) (rdX bs at_))
    case first =>
      cases hin : inB at_ bs.length
      · have hb3 : Below w2.heap.size w2 ((w2.alloc (.cells #[.slice A bs.length c, .int .i64 at_, .int .i64 0] 41)).alloc (.cells #[.slice none 0 0, .int .i64 0, .int .i64 7] 41)) := ((Below.refl _ _).alloc (Nat.le_refl _) _).alloc (by simp) _
        have hrv : Rv ((w2.alloc (.cells #[.slice A bs.length c, .int .i64 at_, .int .i64 0] 41)).alloc (.cells #[.slice none 0 0, .int .i64 0, .int .i64 7] 41)) (w2.heap.size + 1) none 0 0 0 7 := by
          have := Box.fresh (w2.alloc (.cells #[.slice A bs.length c, .int .i64 at_, .int .i64 0] 41)) 41 [.slice none 0 0, .int .i64 0, .int .i64 7]
          rw [World.size_alloc] at this
          exact this
        have hvw := HVW.out
        rw [show rdB bs at_ = [] by unfold rdB; rw [hin]; rfl, show rdA bs at_ = 0 by unfold rdA; rw [hin]; rfl, show rdX bs at_ = 7 by unfold rdX; rw [hin]; rfl] at hvw
        have hst : Begun w1.heap.size W ((w2.alloc (.cells #[.slice A bs.length c, .int .i64 at_, .int .i64 0] 41)).alloc (.cells #[.slice none 0 0, .int .i64 0, .int .i64 7] 41)) vb (w2.heap.size + 1) v2 none [] 0 0 7 :=
          ⟨⟨hvw.below hb3, hrv, HB1.out.trans ((HB2.out.mono hsz1).trans (hb3.mono (by omega))), by have := hvw.low; omega, by omega, fun k hk => by have := hvw.mine_lt k hk; omega⟩,
            (fun h => absurd h (by simp)), (fun x hx => by simp at hx), (fun _ => rfl), (fun p hp _ => by cases hp), by simp, by simp, by omega, by simp⟩
        have HBG := Lib.hid hst
        have hh : hasB at_ 0 bs.length = false := by simp [hasB, hin]
        have HIN := Lib.hid hin
        clear hb3 hrv hst hvw hin
        rw [hh]
        go_wp2_with fail
        go_meet
        refine ⟨_, none, 0, rfl, ?_⟩
        unfold rdB rdA rdX
        rw [HIN.out]
        exact HBG.out
      · have hb3 : Below w2.heap.size w2 (w2.alloc (.cells #[.slice A bs.length c, .int .i64 at_, .int .i64 0] 41)) := (Below.refl _ _).alloc (Nat.le_refl _) _
        have hrv : Rv (w2.alloc (.cells #[.slice A bs.length c, .int .i64 at_, .int .i64 0] 41)) w2.heap.size A bs.length c at_ 0 := Box.fresh w2 41 _
        have hvw := HVW.out
        rw [show rdB bs at_ = bs by unfold rdB; rw [hin]; rfl, show rdA bs at_ = at_ by unfold rdA; rw [hin]; rfl, show rdX bs at_ = 0 by unfold rdX; rw [hin]; rfl] at hvw
        have hst : Begun w1.heap.size W (w2.alloc (.cells #[.slice A bs.length c, .int .i64 at_, .int .i64 0] 41)) vb w2.heap.size v2 A bs c at_ 0 :=
          ⟨⟨hvw.below hb3, hrv, HB1.out.trans ((HB2.out.mono hsz1).trans (hb3.mono (by omega))), by have := hvw.low; omega, by omega, fun k hk => by have := hvw.mine_lt k hk; omega⟩,
            HR.out, H8.out, HA.out, HAB.out, hbl, hbc, by simp [inB] at hin; omega, by simp [inB] at hin; omega⟩
        have HBG := Lib.hid hst
        have hh : hasB at_ 0 bs.length = true := by simp [hasB, inB] at hin ⊢; omega
        have HIN := Lib.hid hin
        clear hb3 hrv hst hvw hin
        rw [hh]
        go_wp2_with fail
        go_meet
        refine ⟨_, A, c, rfl, ?_⟩
        unfold rdB rdA rdX
        rw [HIN.out]
        exact HBG.out
    case rest =>
      obtain ⟨rb1, A3, c3, rfl, hbg⟩ := hcut
      have HS := Lib.hid hbg
      clear hbg
      generalize rdB bs at_ = bs3 at *
      generalize rdA bs at_ = a0 at *
      generalize rdX bs at_ = x0 at *
      have HR3 := Lib.hid HS.out.rd
      have H83 := Lib.hid HS.out.b8
      have HA3 := Lib.hid HS.out.nil
      have HAB3 := Lib.hid HS.out.blk
      have hl3 : bs3.length ≤ 1048576 := by have := HS.out.len; omega
      have hc3 := HS.out.cap
      generalize w1.heap.size = B at *
      clear HVW HB2 HB1 HLN HR H8 HA HAB hbl hbc hsz1 hsz2 hnc hc hrb
      go_wp2_with fail
      go_loopw [9, 10, 11, 12, 35] (fun _ _ _ _ i wr => ∃ (k : Nat) (a x : Int), k ≤ len2 ∧ i = .int .i64 k ∧ Two B W wr vb rb1 v2 A3 bs3 c3 a x a x ∧ 0 ≤ a ∧ a ≤ bs3.length) (fun _ _ _ _ i _ => len2 - (intOf i).toNat)
      case atStart => exact ⟨0, a0, x0, by omega, rfl, HS.out.two, HS.out.lo, HS.out.hi⟩
      case round =>
        clear HS
        obtain ⟨k, a, x, hk, rfl, htwo, ha0, ha1⟩ := hrel
        have HT0 := Lib.hid htwo
        by_cases hlt : k < len2
        · obtain ⟨p, qk, qw, qn, rfl, hpb, f0, f1, f2, d0, d1, d2⟩ := (HQ.out.below htwo.bel (Nat.le_refl _)) k hlt
          rw [← add_field p (k * 3) 1 (by decide)] at d1
          rw [← add_field p (k * 3) 2 (by decide)] at d2
          have hba : Below wr.heap.size wr (wr.alloc (.cells #[.int .i64 qk, .int .i64 qw, .int .i64 qn] 44)) := (Below.refl _ _).alloc (Nat.le_refl _) _
          have HTQ := Lib.hid (htwo.below hba)
          have HXQ := Lib.hid (Box.fresh wr 44 [.int .i64 qk, .int .i64 qw, .int .i64 qn])
          have hvb : vb < wr.heap.size := htwo.vw.box.lt
          have hrbl : rb1 < wr.heap.size := Box.lt htwo.rv
          obtain ⟨r0, r1, r2⟩ := HTQ.out.rv.cells
          clear htwo hba f0 f1 f2
          by_cases h30 : k < 30
          · go_upto_block 2 with fail
            generalize wr.alloc (.cells #[.int .i64 qk, .int .i64 qw, .int .i64 qn] 44) = wq at HTQ HXQ r0 r1 r2 ⊢
            have hx0 := HXQ.out.cell 0
            have hx1 := HXQ.out.cell 1
            have hx2 := HXQ.out.cell 2
            simp only [List.getElem?_cons_zero, List.getElem?_cons_succ] at hx0 hx1 hx2
            go_cut [11] (fun o wx => ∃ (a' x' : Int), o = .bool true ∧ Two B W wx vb rb1 v2 A3 bs3 c3 a' x' a' x' ∧ 0 ≤ a' ∧ a' ≤ bs3.length)
            case first =>
              by_cases hk0 : qk = 0
              · subst hk0
                obtain ⟨y, hy⟩ : ∃ y, y = xW x qw := ⟨_, rfl⟩
                have HYY := Lib.hid hy
                clear hy
                obtain ⟨tb, htb⟩ : ∃ tb : Bool, tb = !(y == x) := ⟨_, rfl⟩
                have HTB := Lib.hid htb
                clear htb
                go_upto_region 14 with fail
                go_cut [56] (fun t wx => t = .bool tb ∧ wq = wx)
                case first =>
                  by_cases hx : x = 0
                  · subst hx
                    cases hw : isW qw
                    · have hy : y = 2 := by rw [HYY.out]; unfold xW; rw [if_pos ⟨rfl, hw⟩]
                      subst hy
                      go_wp2_with fail
                      refine (ris2_any _ _).mono ?_; rintro e w' ⟨rfl, rfl⟩
                      rw [hw]
                      go_wp2_with fail
                      go_meet
                      exact ⟨by rw [HTB.out]; rfl, rfl⟩
                    · have hy : y = 0 := by rw [HYY.out]; unfold xW; rw [if_neg (by simp [hw])]
                      subst hy
                      go_wp2_with fail
                      refine (ris2_any _ _).mono ?_; rintro e w' ⟨rfl, rfl⟩
                      rw [hw]
                      go_wp2_with fail
                      go_meet
                      exact ⟨by rw [HTB.out]; rfl, rfl⟩
                  · have hy : y = x := by rw [HYY.out]; unfold xW; rw [if_neg (by simp [hx])]
                    subst hy
                    have hx1 : (y != 0) = true := by simpa using hx
                    have hx2 : (y == 0) = false := by simpa using hx
                    go_wp2_with fail
                    go_meet
                    exact ⟨by rw [HTB.out]; simp, rfl⟩
                case rest =>
                  obtain ⟨rfl, rfl⟩ := hcut
                  go_upto_if 56 with fail
                  go_cut [11] (fun o wx => o = .bool true ∧ Two B W wx vb rb1 v2 A3 bs3 c3 a x a y ∧ Box wx wr.heap.size 44 [.int .i64 0, .int .i64 qw, .int .i64 qn])
                  case first =>
                    cases tb
                    · have hyx : y = x := by have := HTB.out; simpa using this
                      subst hyx
                      go_wp2_with fail
                      go_meet
                      exact ⟨rfl, HTQ.out, HXQ.out⟩
                    · have hyx : y ≠ x := by have := HTB.out; simpa using this
                      have hy2 : x = 0 ∧ y = 2 := by
                        have h := HYY.out
                        unfold xW at h
                        split at h
                        · next g => exact ⟨g.1, h⟩
                        · exact absurd h hyx
                      obtain ⟨rfl, rfl⟩ := hy2
                      have rf2 := Box.frozen HTQ.out.rv 2
                      have HRN := Lib.hid (Box.put HTQ.out.rv 2 (.int .i64 2))
                      have HTY : Hid (Two B W (wq.setCell ⟨rb1, 2, none⟩ (.int .i64 2)) vb rb1 v2 A3 bs3 c3 a 0 a 2) := HTQ.out.ref HRN.out ((Chg.refl (fun k => k = rb1) _).setCell (p := ⟨rb1, 2, none⟩) (fun _ => rfl) _)
                      have HXY : Hid (Box (wq.setCell ⟨rb1, 2, none⟩ (.int .i64 2)) wr.heap.size 44 [.int .i64 0, .int .i64 qw, .int .i64 qn]) := Box.kept HXQ.out (Below.heap_setCell _ _ _ _ (by show wr.heap.size ≠ rb1; omega))
                      clear hyx
                      go_wp2_with fail
                      go_meet
                      exact ⟨rfl, HTY.out, HXY.out⟩
                  case rest =>
                    obtain ⟨rfl, hty, hxy⟩ := hcut
                    have HTY := Lib.hid hty
                    have HXY := Lib.hid hxy
                    have hx1 := hxy.cell 1
                    have hx2 := hxy.cell 2
                    simp only [List.getElem?_cons_zero, List.getElem?_cons_succ] at hx1 hx2
                    clear HTQ HXQ r0 r1 r2 d0 d1 d2 HT0 hty hxy
                    go_upto_region 16 with fail
                    go_region_with (first | (go_at_call 18; refine (Two.numY HTY.out.drew H83.out hl3 qw _ HYY.out).mono ?_; rintro e w6 ⟨rfl, ht6, hc6⟩; have HT6 := Lib.hid ht6; have hx61 := (HXY.out.chg ((Chg.refl (fun k => k = vb) _).drew.trans hc6 (fun _ _ a => a)) (by show wr.heap.size ≠ vb; omega)).cell 1; simp only [List.getElem?_cons_zero, List.getElem?_cons_succ] at hx61; clear ht6 hc6) | (go_at_call 20; refine (Two.take HT6.out HR3.out HA3.out HAB3.out hl3 hc3 qw).mono ?_; rintro e w7 ⟨A7, c7, rfl, hr7, hA7, hc7, ht7⟩; have HT7 := Lib.hid ht7; have HR7 := Lib.hid hr7; clear ht7 hr7 hA7 hc7) | (go_at_call 19; refine (rnum_any A7 _ c7 _ HR7.out (vRaw_bytes H83.out _ _ _) (by rw [HYY.out]; exact vRaw_len)).mono ?_; rintro e w' ⟨rfl, rfl⟩))
                    all_goals
                      have hat := vAt_in (bs := bs3) (x := y) (m := qw) ⟨ha0, ha1⟩
                      clear HYY hx61 hx1 hx2
                      go_wp2_with fail
                      go_meet
                      exact ⟨_, _, rfl, HT7.out, hat⟩
              · have g0 : (qk == 0) = false := by simpa using hk0
                by_cases hk1 : qk = 1
                · subst hk1
                  clear g0 hk0 d0 d1 d2 HT0
                  go_wp2_with fail
                  go_region_with (first | (go_at_call 21; refine (Two.raw HTQ.out.drew hl3 qn).mono ?_; rintro e w6 ⟨A6, c6, rfl, hr6, hA6, hb6, ht6, hc6⟩; have HT6 := Lib.hid ht6; have hx62 := (HXQ.out.chg ((Chg.refl (fun k => k = vb) _).drew.trans hc6 (fun _ _ a => a)) (by show wr.heap.size ≠ vb; omega)).cell 2; simp only [List.getElem?_cons_zero, List.getElem?_cons_succ] at hx62; have HR6 := Lib.hid hr6; have HA6 := Lib.hid hA6; have HB6 := Lib.hid hb6; have hcv6 := conv_reads hr6 hA6 c6; clear ht6 hc6 hr6 hA6 hb6) | (go_at_call 20; refine (Two.take HT6.out HR3.out HA3.out HAB3.out hl3 hc3 qn).mono ?_; rintro e w7 ⟨A7, c7, rfl, hr7, hA7, hc7, ht7⟩; have HT7 := Lib.hid ht7; have hcv67 := conv_reads (HR6.out.chg hc7 (fun p hp => HB6.out p hp)) HA6.out c6; have hcv7 := conv_reads hr7 hA7 c7; clear ht7 hr7 hA7 hc7))
                  all_goals
                    have hat := vAt_in (bs := bs3) (x := x) (m := qn) ⟨ha0, ha1⟩
                    clear hx62 hx1 hx2 hx0 hcv6 hcv67 hcv7
                    go_wp2_with fail
                    go_meet
                    exact ⟨_, _, by simp, HT7.out, hat⟩
                · have g1 : (qk == 1) = false := by simpa using hk1
                  by_cases hk2 : qk = 2
                  · subst hk2
                    clear g0 g1 hk0 hk1 d0 d1 d2 HT0
                    go_wp2_with fail
                    refine (Two.skip HTQ.out hl3 qn).mono ?_; rintro e w6 ⟨rfl, ht6, hc6⟩
                    have HT6 := Lib.hid ht6
                    have hx62 := (HXQ.out.chg hc6 (by show wr.heap.size ≠ vb; omega)).cell 2
                    simp only [List.getElem?_cons_zero, List.getElem?_cons_succ] at hx62
                    clear ht6 hc6
                    go_wp2_with fail
                    refine (Two.take HT6.out HR3.out HA3.out HAB3.out hl3 hc3 qn).mono ?_; rintro e w7 ⟨A7, c7, rfl, hr7, hA7, hc7, ht7⟩
                    have HT7 := Lib.hid ht7
                    have hat := vAt_in (bs := bs3) (x := x) (m := qn) ⟨ha0, ha1⟩
                    clear ht7 hr7 hA7 hc7 hx62 hx0 hx1 hx2
                    go_wp2_with fail
                    go_meet
                    exact ⟨_, _, rfl, HT7.out, hat⟩
                  · have g2 : (qk == 2) = false := by simpa using hk2
                    clear hk0 hk1 hk2
                    go_wp2_with fail
                    go_meet
                    exact ⟨a, x, rfl, HTQ.out, ha0, ha1⟩
            case rest =>
              obtain ⟨a', x', rfl, ht5, hb0, hb1⟩ := hcut
              have HT5 := Lib.hid ht5
              obtain ⟨s0, s1, s2⟩ := ht5.rv.cells
              have e1 : IntKind.i64.wrap ((bs3.length : Int) - a') = (bs3.length : Int) - a' := IntWalk.i64_in _ (by omega)
              clear HTQ HXQ r0 r1 r2 d0 d1 d2 HT0 ht5 hx0 hx1 hx2
              go_wp2_with fail
              go_quiet (fail)
              have HT8 : Hid (Two B W (wc.drewN nq) vb rb1 v2 A3 bs3 c3 a' x' a' x') := HT5.out.drewN nq
              generalize wc.drewN nq = w8 at *
              obtain ⟨s0, s1, s2⟩ := HT8.out.rv.cells
              clear e1 HT5
              by_cases hx : x' = 0
              · subst hx
                go_wp2_with fail
                go_quiet (first | (go_at_call 23; exact quiet_left (verr_any (Vw.drewN HT8.out.vw _))) | (go_at_call 24; exact quiet_left (vat_any (Vw.drewN HT8.out.vw _))) | (go_at_call 25; exact quiet_drawn (vleft_ok (Vw.drewN HT8.out.vw _) hl3 ⟨hb0, hb1⟩)))
                go_wp2_with fail
                go_roundw
                case rel => exact ⟨k + 1, a', _, by omega, by go_num, HT8.out.drewN _, hb0, hb1⟩
                case measure => simp [intOf]; omega
              · have hx1 : (x' != 0) = true := by simpa using hx
                have hx2 : (x' == 0) = false := by simpa using hx
                go_wp2_with fail
                go_quiet (first | (go_at_call 23; exact quiet_left (verr_any (Vw.drewN HT8.out.vw _))) | (go_at_call 24; exact quiet_left (vat_any (Vw.drewN HT8.out.vw _))) | (go_at_call 25; exact quiet_left (vleft_err (Vw.drewN HT8.out.vw _) hx)))
                go_wp2_with fail
                go_roundw
                case rel => exact ⟨k + 1, a', _, by omega, by go_num, HT8.out.drewN _, hb0, hb1⟩
                case measure => simp [intOf]; omega
          · have hxo : Box (wr.alloc (.cells #[.int .i64 qk, .int .i64 qw, .int .i64 qn] 44)) wr.heap.size 44 [.int .i64 qk, .int .i64 qw, .int .i64 qn] := HXQ.out
            have hE : ∀ wd : World, (∃ nd, wd = (wr.alloc (.cells #[.int .i64 qk, .int .i64 qw, .int .i64 qn] 44)).drewN nd) → Calls Try.prog 23 #[.pointer (some ⟨vb, 0, none⟩)] wd fun e W' => e = .returned (.int .i64 x) ∧ wd = W' := by
              rintro wd ⟨nd, rfl⟩
              exact verr_any (Vw.drewN HTQ.out.vw nd)
            have HE := Lib.hid hE
            have HBW : Hid (Below W.heap.size W (wr.alloc (.cells #[.int .i64 qk, .int .i64 qw, .int .i64 qn] 44))) := HTQ.out.bel
            clear hE hxo HXQ HT0
            go_wp2_with fail
            generalize wr.alloc (.cells #[.int .i64 qk, .int .i64 qw, .int .i64 qn] 44) = wq at *
            go_region_with (first | (go_at_call 23; refine (HE.out _ ⟨1, rfl⟩).mono ?_; rintro e w' ⟨rfl, rfl⟩) | (go_at_call 14; refine (awake2_any _).mono ?_; rintro e w8 ⟨rfl, hb8⟩))
            all_goals
              have HB8 : Hid (Below W.heap.size W w8) := HBW.out.trans (Below.mono ⟨hb8.os, hb8.tape, hb8.output, hb8.size, hb8.block⟩ HBW.out.size)
              clear hb8
              go_wp2_with fail
              go_ret
              exact ⟨rfl, HB8.out⟩
        · have : k = len2 := by omega
          subst this
          obtain ⟨r0, r1, r2⟩ := htwo.rv.cells
          have hE : ∀ wd : World, (∃ nd, wd = wr.drewN nd) → Calls Try.prog 23 #[.pointer (some ⟨vb, 0, none⟩)] wd fun e W' => e = .returned (.int .i64 x) ∧ wd = W' := by
            rintro wd ⟨nd, rfl⟩
            exact verr_any (HT0.out.vw.drewN nd)
          have HE := Lib.hid hE
          have HBW : Hid (Below W.heap.size W wr) := htwo.bel
          clear hE htwo
          go_wp2_with fail
          go_region_with (first | (go_at_call 23; refine (HE.out _ ⟨1, rfl⟩).mono ?_; rintro e w' ⟨rfl, rfl⟩) | (go_at_call 14; refine (awake2_any _).mono ?_; rintro e w8 ⟨rfl, hb8⟩))
          all_goals
            have HB8 : Hid (Below W.heap.size W w8) := HBW.out.trans (Below.mono ⟨hb8.os, hb8.tape, hb8.output, hb8.size, hb8.block⟩ HBW.out.size)
            clear hb8
            go_wp2_with fail
            go_ret
            exact ⟨rfl, HB8.out⟩
end Go.Proofs.Ytfcooaafhpoobaa
