/- The statement of layer 2 that numbers which were written are told and read. -/
import Derived.Test.YtkjbhhbgfhicgaaRopv
namespace Go.Proofs.Ytkjbhhbgfhicgaa
open Go.RowKit Rp
open Cq (U64 I64 isW)

theorem ris2_any (w : Int) (W : World) : Calls Try.prog 58 #[.int .i64 w] W fun e W' => e = .returned (.bool (isW w)) ∧ W = W' := by
  by_cases h1 : w = 1
  · subst h1; go_enter Try.func58, Try.ntmps58; go_wp2; go_ret; exact ⟨rfl, rfl⟩
  by_cases h2 : w = 2
  · subst h2; go_enter Try.func58, Try.ntmps58; go_wp2; go_ret; exact ⟨rfl, rfl⟩
  by_cases h4 : w = 4
  · subst h4; go_enter Try.func58, Try.ntmps58; go_wp2; go_ret; exact ⟨rfl, rfl⟩
  by_cases h8 : w = 8
  · subst h8; go_enter Try.func58, Try.ntmps58; go_wp2; go_ret; exact ⟨rfl, rfl⟩
  have g1 : (w == 1) = false := by simpa using h1
  have g2 : (w == 2) = false := by simpa using h2
  have g4 : (w == 4) = false := by simpa using h4
  have g8 : (w == 8) = false := by simpa using h8
  have gg : isW w = false := by simp [isW, h1, h2, h4, h8]
  rw [gg]
  go_enter Try.func58, Try.ntmps58; go_wp2; go_ret; exact ⟨rfl, rfl⟩
theorem num_zero (B : Nat) (W : World) (g : Nat) (rest : List Value) (v : Value) (bs : List Int) (hst : St B 5 W g 96 rest v bs) (hbs : bs.length ≤ 1048576)
    (w : Nat) (h : isW w = true) (A2 : Option Addr) (c2 : Nat) :
    Calls Try.prog 67 #[.pointer (some ⟨g, 0, none⟩), .int .i64 w, .slice A2 0 c2] W fun e W' => e = .returned (.int .i64 0) ∧ W = W' := by
  have hw := Cq.isW_cases h
  have hw1 : 1 ≤ w ∧ w ≤ 8 := by omega
  obtain ⟨A, c, hv, _, _⟩ := own_form hst.own
  have hc : W.cell? ⟨g, 0, none⟩ = some (.slice A bs.length c) := by
    have := hst.box.cell 0; rw [hv] at this; simpa using this
  have hf' : (0 : Int) ≤ ((1048576 : Int) - bs.length) / w := Int.ediv_nonneg (by omega) (by omega)
  clear hw hst hv
  go_enter Try.func67, Try.ntmps67
  go_wp2_with fail
  refine (is_any _ _).mono ?_; rintro e w' ⟨rfl, rfl⟩
  rw [h]
  go_wp2_with fail
  refine (room_any g A bs.length c _ hc hbs).mono ?_; rintro e w' ⟨rfl, rfl⟩
  clear hc
  go_wp2_with fail
  go_loop [8, 9, 29] (fun _ _ i => i = .int .i64 0) (fun _ _ _ => 0)
  case atStart => rfl
  case round =>
    subst hrel
    go_wp2_with fail
    go_ret
    exact ⟨rfl, rfl⟩
theorem lows_bytes (w : Nat) (z : List Int) (k : Nat) : Bytes8 (lows w z k) := by
  intro y hy
  unfold lows at hy
  obtain ⟨x, _, hx⟩ := List.mem_flatMap.1 hy
  exact low_bytes w x y hx
theorem lows_more (w : Nat) (z : List Int) (k m : Nat) : lows w z (k + m) = lows w z k ++ lows w (z.drop k) m := by
  unfold lows
  rw [List.take_add, List.flatMap_append]
theorem cut_lows (w : Nat) (z : List Int) (n k : Nat) (hk : k < n) (hn : n ≤ z.length) : cut (lows w z n) (w * k) w = low w (z.getD k 0) := by
  have e : lows w z n = lows w z k ++ (low w (z.getD k 0) ++ lows w (z.drop (k + 1)) (n - (k + 1))) := by
    rw [← List.append_assoc, ← lows_succ w z k (by omega), ← lows_more]; congr 1; omega
  have hl := lows_length w z k (by omega)
  unfold cut
  rw [e, ← hl, List.drop_left, List.take_append_of_le_length (by rw [low_length]; exact Nat.le_refl _), List.take_of_length_le (by rw [low_length]; exact Nat.le_refl _)]
set_option maxHeartbeats 1000000 in
set_option maxRecDepth 100000 in
theorem law_back_few (b off len cap : Nat) (z : List Int) (w : Nat) (hw : isW w = true) (W : World) (hz : ∀ x ∈ z, U64 x) (hzl : len ≤ z.length) (hc : Words W b off len z) (hcap : len ≤ cap) (hl : len ≤ 30) (hpos : 0 < len) (hbW : b < W.heap.size) :
    Calls Try.prog 12 #[.slice (some ⟨b, off, none⟩) len cap, .int .i64 w] W fun e W' => e = .returned (.bool true) ∧ Below W.heap.size W W' := by
  have hw4 := Cq.isW_cases hw
  have hw5 : w = 1 ∨ w = 2 ∨ w = 4 ∨ w = 8 := by omega
  have hwb : 1 ≤ w ∧ w ≤ 8 := by omega
  have HW5 := Lib.hid hw5
  obtain ⟨z', hz', hzl', hge⟩ : ∃ z', z' = z.take len ∧ z'.length = len ∧ ∀ i, i < len → z'.getD i 0 = z.getD i 0 := by
    refine ⟨_, rfl, by rw [List.length_take]; omega, fun i hi => ?_⟩
    rw [List.getD_eq_getElem?_getD, List.getD_eq_getElem?_getD, List.getElem?_take_of_lt hi]
  have hu : ∀ x ∈ z', U64 x := by
    intro x hx; rw [hz'] at hx; exact hz x (List.mem_of_mem_take hx)
  have hWd : Words W b off len z' := fun i hi => by rw [hge i hi]; exact hc i (by omega)
  have hwL : w * len ≤ 240 := by
    have : w * len ≤ 8 * 30 := Nat.mul_le_mul hwb.2 (by omega)
    omega
  have hbl := lows_length w z' len (by omega)
  have hl8 := lows_bytes w z' len
  have HZL := Lib.hid hzl'
  have HU := Lib.hid hu
  have HWD := Lib.hid hWd
  have HBL := Lib.hid hbl
  have HL8 := Lib.hid hl8
  have HWL := Lib.hid hwL
  clear hw4 hw5 hz hzl hc hz' hzl' hge hu hWd hbl hl8 hwL
  go_enter Try.func12, Try.ntmps12
  go_wp2_with fail
  refine (ris2_any _ _).mono ?_; rintro e w' ⟨rfl, rfl⟩
  rw [hw]
  go_wp2_with fail
  refine (new_none _).mono ?_; rintro e w1 ⟨rfl, hst, hb1⟩
  have HB1 := Lib.hid hb1
  have HST1 := Lib.hid hst
  have hsz1 := hb1.size
  have hlt1 : W.heap.size < w1.heap.size := hst.box.lt
  have HWD1 : Hid (Words w1 b off len z') := HWD.out.chg (Chg.ofBelow (S := fun k => W.heap.size ≤ k) hb1 (fun _ _ a => a)) hbW (by omega)
  clear hb1 hst
  have hnm : ¬ Mine W.heap.size (.slice none 0 0) b := by
    rintro (h | h)
    · omega
    · simp [Value.ownBlock] at h
  have HNM := Lib.hid hnm
  clear hnm
  have hdiv : len ≤ 1048576 / w := (Nat.le_div_iff_mul_le (by omega)).2 (by have := HWL.out; rw [Nat.mul_comm]; omega)
  have HDIV := Lib.hid hdiv
  clear hdiv
  generalize hg0 : W.heap.size = g0 at *
  have HG0 := Lib.hid hg0
  clear hg0
  go_wp2_with fail
  refine (num_ok g0 w1 g0 [] _ [] HST1.out (by omega) (by simp) w hw b off len _ z' HZL.out HU.out (by simpa using HDIV.out) HWD1.out (by omega) HNM.out).mono ?_
  rintro e w2 ⟨rfl, v2, st2, ch2, ow2⟩
  rw [List.nil_append] at st2
  have hb12 : Below g0 w1 w2 := ch2.below g0 (by omega) (fun k hk hm => by have := (HST1.out.mine_lt k hm).1; omega)
  have hsz2 := hb12.size
  have HB2 : Hid (Below g0 W w2) := HB1.out.trans hb12
  have HST2 := Lib.hid st2
  have HWD2 : Hid (Words w2 b off len z') := HWD1.out.chg (Chg.ofBelow (S := fun k => g0 ≤ k) hb12 (fun _ _ a => a)) (by omega) (by omega)
  have hbs : (lows w z' len).length ≤ 1048576 := by rw [HBL.out]; have := HWL.out; omega
  have HBS := Lib.hid hbs
  have hlen : ((lows w z' len).length : Int) = (w : Int) * (len : Nat) := by rw [HBL.out]; exact Int.natCast_mul _ _
  have HLEN := Lib.hid hlen
  have hwl0 : 0 ≤ (w : Int) * (len : Nat) ∧ (w : Int) * (len : Nat) ≤ 240 := by
    have h1 := HWL.out
    have h2 : ((w * len : Nat) : Int) = (w : Int) * (len : Nat) := Int.natCast_mul _ _
    omega
  clear ch2 ow2 hb12 st2 hbs hlen HB1 HST1 HWD1 HNM
  go_wp2_with fail
  refine (len_any HST2.out).mono ?_; rintro e w' ⟨rfl, rfl⟩
  rw [HLEN.out]
  go_wp2_with fail
  refine (read_ok g0 w2 g0 [] v2 _ HST2.out HBS.out 0 (by simp [inB])).mono ?_
  rintro e w3 ⟨vb, v3, rfl, hvw, hb3⟩
  have hvb : w2.heap.size ≤ vb := hvw.low
  have hsz3 := hb3.size
  have HST3 := Lib.hid (HST2.out.below hb3)
  have HVW3 := Lib.hid hvw
  have HML : Hid (∀ k, Mine g0 v2 k → k < w2.heap.size) := fun k hk => (HST2.out.mine_lt k hk).2
  have HB3 : Hid (Below g0 W w3) := HB2.out.trans (hb3.mono (by omega))
  have HWD3 : Hid (Words w3 b off len z') := HWD2.out.chg (Chg.ofBelow (S := fun k => w2.heap.size ≤ k) hb3 (fun _ _ a => a)) (by omega) (by omega)
  clear hvw hb3 HST2 HB2 HWD2 hwl0
  generalize w2.heap.size = g2 at *
  go_wp2_with fail
  go_loopw [7, 8, 9, 10, 11, 40] (fun _ _ _ _ _ i wr => ∃ k : Nat, k ≤ len ∧ i = .int .i64 k ∧ Vw g2 wr vb v3 (lows w z' len) ((w * k : Nat) : Int) 0 ∧ St g0 5 wr g0 96 [] v2 (lows w z' len) ∧ Words wr b off len z' ∧ Below g0 W wr ∧ g2 ≤ wr.heap.size) (fun _ _ _ _ _ i _ => len - (intOf i).toNat)
  case atStart => exact ⟨0, by omega, rfl, HVW3.out, HST3.out, HWD3.out, HB3.out, by omega⟩
  case round =>
    clear HVW3 HST3 HWD3 HB3
    obtain ⟨k, hk, rfl, hvw, hst, hwd, hb, hgs⟩ := hrel
    by_cases hlt : k < len
    · have hcell := hwd k hlt
      have hux := Cq.getD_u64 HU.out k
      have hcut := cut_lows w z' len k hlt (by have := HZL.out; omega)
      rw [List.getD_eq_getElem?_getD] at hux hcut hcell
      have HVW := Lib.hid hvw
      have HST := Lib.hid hst
      have HWDk := Lib.hid hwd
      have HB := Lib.hid hb
      have HCUT := Lib.hid hcut
      have hwk : w * (k + 1) ≤ w * len := Nat.mul_le_mul_left _ hlt
      rw [Nat.mul_succ] at hwk
      have HWK := Lib.hid hwk
      have hwk0 : 0 ≤ (w : Int) * (k : Nat) ∧ (w : Int) * (k : Nat) ≤ 240 := by
        have := HWL.out
        rw [← Int.natCast_mul]; omega
      clear hvw hst hwd hb hcut hwk
      generalize hx : z'[k]?.getD 0 = x at *
      have HX := Lib.hid hx
      clear hx
      go_wp2_with fail
      refine (rbytes_any w hwb.2 x hux _).mono ?_
      rintro e w4 ⟨vl, rfl, hown, hb4⟩
      obtain ⟨A', c', rfl, _, _⟩ := own_form hown
      have hnum := rnum_any A' (low w x) c' w4 (own_reads (by rw [low_length]; exact hown)) (low_bytes w x) (by rw [low_length]; exact hwb.2)
      rw [low_length] at hnum
      have HNUM := Lib.hid hnum
      have HVW4 : Hid (Vw g2 w4 vb v3 (lows w z' len) ((w * k : Nat) : Int) 0) := HVW.out.below hb4
      have HST4 := Lib.hid (HST.out.below hb4)
      have hsz4 := hb4.size
      have HB4 : Hid (Below g0 W w4) := HB.out.trans (hb4.mono (by omega))
      have HWD4 : Hid (Words w4 b off len z') := HWDk.out.chg (Chg.ofBelow (S := fun k => wr.heap.size ≤ k) hb4 (fun _ _ a => a)) (by omega) (by omega)
      have hpl : placeE ((w : Int) * (k : Nat)) w (lows w z' len).length = 0 := by
        have hh : hasB ((w : Int) * (k : Nat)) w (lows w z' len).length = true := by
          have h1 := HBL.out
          have h2 := HWK.out
          have h3 : ((w * k : Nat) : Int) = (w : Int) * (k : Nat) := Int.natCast_mul _ _
          simp only [hasB, inB, Bool.and_eq_true, decide_eq_true_eq]
          rw [h1, ← h3]
          omega
        unfold placeE; rw [hw, hh]; rfl
      have hat : atV (lows w z' len) ((w : Int) * (k : Nat)) w = val (low w x) w := by
        unfold atV
        rw [if_pos hpl, ← Int.natCast_mul, Int.toNat_natCast, Int.toNat_natCast, HCUT.out]
      have HPL := Lib.hid hpl
      have HAT := Lib.hid hat
      clear hnum hown hb4 hpl hat hcell HVW HST HB HWDk
      go_wp2_with fail
      refine HNUM.out.mono ?_; rintro e w' ⟨rfl, rfl⟩
      go_wp2_with fail
      refine (at_any HST4.out HL8.out _ _ HBS.out).mono ?_; rintro e w5 ⟨rfl, hb5⟩
      rw [HPL.out, HAT.out]
      have HVW5 : Hid (Vw g2 w5 vb v3 (lows w z' len) ((w * k : Nat) : Int) 0) := HVW4.out.below hb5
      have HST5 := Lib.hid (HST4.out.below hb5)
      have hsz5 := hb5.size
      have HB5 : Hid (Below g0 W w5) := HB4.out.trans (hb5.mono (by omega))
      have HWD5 : Hid (Words w5 b off len z') := HWD4.out.chg (Chg.ofBelow (S := fun k => w4.heap.size ≤ k) hb5 (fun _ _ a => a)) (by omega) (by omega)
      clear hb5 HVW4 HST4 HB4 HWD4 HNUM HPL HAT
      go_wp2_with fail
      refine (vnum_ok g2 w5 vb v3 _ (w * k) w HVW5.out HL8.out hw HBS.out (by rw [HBL.out]; exact HWK.out)).mono ?_; rintro e w6 ⟨rfl, hvw6, hch6⟩
      rw [HCUT.out]
      have hsz6 := hch6.size
      have HVW6 : Hid (Vw g2 w6 vb v3 (lows w z' len) ((w * (k + 1) : Nat) : Int) 0) := by rw [Nat.mul_succ]; exact hvw6
      have HST6 : Hid (St g0 5 w6 g0 96 [] v2 (lows w z' len)) := HST5.out.chg hch6 (fun j hj e => by have := HML.out j hj; omega)
      have HB6 : Hid (Below g0 W w6) := HB5.out.trans (hch6.below g0 (by omega) (fun j hj e => by omega))
      have HWD6 : Hid (Words w6 b off len z') := HWD5.out.chg hch6 (by omega) (by omega)
      clear hvw6 hch6 HVW5 HST5 HB5 HWD5 HCUT hwk0
      go_wp2_with fail
      go_roundw
      case rel => exact ⟨k + 1, by omega, by go_num, HVW6.out, HST6.out, HWD6.out, HB6.out, by omega⟩
      case measure => simp [intOf]; omega
    · have : k = len := by omega
      subst this
      have HVW := Lib.hid hvw
      have HB := Lib.hid hb
      have hle := HBL.out
      clear hvw hst hwd hb
      go_wp2_with fail
      refine (verr_any HVW.out).mono ?_; rintro e w' ⟨rfl, rfl⟩
      go_wp2_with fail
      refine (vleft_ok HVW.out HBS.out (by rw [hle]; omega)).mono ?_; rintro e w7 ⟨rfl, hd7⟩
      rw [hle, show ((w * k : Nat) : Int) - ((w * k : Nat) : Int) = 0 from by omega]
      have HB7 : Hid (Below g0 W w7) := by obtain ⟨nd, rfl⟩ := hd7; exact ⟨HB.out.os, HB.out.tape, HB.out.output, HB.out.size, HB.out.block⟩
      have hsz7 : g0 ≤ w7.heap.size := by obtain ⟨nd, rfl⟩ := hd7; have h1 := HB.out.size; have h2 := HG0.out; show g0 ≤ wr.heap.size; omega
      clear hd7
      go_wp2_with fail
      refine (awake2_any _).mono ?_; rintro e w8 ⟨rfl, hb8⟩
      have HB8 : Hid (Below g0 W w8) := HB7.out.trans (hb8.mono hsz7)
      clear hb8
      go_wp2_with fail
      go_ret
      exact ⟨rfl, by rw [HG0.out]; exact HB8.out⟩
set_option maxHeartbeats 1000000 in
set_option maxRecDepth 100000 in
theorem law_back_many (b off len cap : Nat) (z : List Int) (w : Nat) (hw : isW w = true) (W : World) (hz : ∀ x ∈ z, U64 x) (hzl : 30 ≤ z.length) (hc : Words W b off len z) (hcap : len ≤ cap) (hl : 30 < len) (_hpos : 0 < len) (hbW : b < W.heap.size) :
    Calls Try.prog 12 #[.slice (some ⟨b, off, none⟩) len cap, .int .i64 w] W fun e W' => e = .returned (.bool true) ∧ Below W.heap.size W W' := by
  have hw4 := Cq.isW_cases hw
  have hw5 : w = 1 ∨ w = 2 ∨ w = 4 ∨ w = 8 := by omega
  have hwb : 1 ≤ w ∧ w ≤ 8 := by omega
  have HW5 := Lib.hid hw5
  obtain ⟨z', hz', hzl', hge⟩ : ∃ z', z' = z.take 30 ∧ z'.length = 30 ∧ ∀ i, i < 30 → z'.getD i 0 = z.getD i 0 := by
    refine ⟨_, rfl, by rw [List.length_take]; omega, fun i hi => ?_⟩
    rw [List.getD_eq_getElem?_getD, List.getD_eq_getElem?_getD, List.getElem?_take_of_lt hi]
  have hu : ∀ x ∈ z', U64 x := by
    intro x hx; rw [hz'] at hx; exact hz x (List.mem_of_mem_take hx)
  have hWd : Words W b off 30 z' := fun i hi => by rw [hge i hi]; exact hc i (by omega)
  have hwL : w * 30 ≤ 240 := by
    have : w * 30 ≤ 8 * 30 := Nat.mul_le_mul hwb.2 (by omega)
    omega
  have hbl := lows_length w z' 30 (by omega)
  have hl8 := lows_bytes w z' 30
  have HZL := Lib.hid hzl'
  have HU := Lib.hid hu
  have HWD := Lib.hid hWd
  have HBL := Lib.hid hbl
  have HL8 := Lib.hid hl8
  have HWL := Lib.hid hwL
  clear hw4 hw5 hz hzl hc hz' hzl' hge hu hWd hbl hl8 hwL
  go_enter Try.func12, Try.ntmps12
  go_wp2_with fail
  refine (ris2_any _ _).mono ?_; rintro e w' ⟨rfl, rfl⟩
  rw [hw]
  go_wp2_with fail
  refine (new_none _).mono ?_; rintro e w1 ⟨rfl, hst, hb1⟩
  have HB1 := Lib.hid hb1
  have HST1 := Lib.hid hst
  have hsz1 := hb1.size
  have hlt1 : W.heap.size < w1.heap.size := hst.box.lt
  have HWD1 : Hid (Words w1 b off 30 z') := HWD.out.chg (Chg.ofBelow (S := fun k => W.heap.size ≤ k) hb1 (fun _ _ a => a)) hbW (by omega)
  clear hb1 hst
  have hnm : ¬ Mine W.heap.size (.slice none 0 0) b := by
    rintro (h | h)
    · omega
    · simp [Value.ownBlock] at h
  have HNM := Lib.hid hnm
  clear hnm
  have hdiv : 30 ≤ 1048576 / w := (Nat.le_div_iff_mul_le (by omega)).2 (by have := HWL.out; rw [Nat.mul_comm]; omega)
  have HDIV := Lib.hid hdiv
  clear hdiv
  generalize hg0 : W.heap.size = g0 at *
  have HG0 := Lib.hid hg0
  clear hg0
  go_wp2_with fail
  refine (num_ok g0 w1 g0 [] _ [] HST1.out (by omega) (by simp) w hw b off 30 _ z' HZL.out HU.out (by simpa using HDIV.out) HWD1.out (by omega) HNM.out).mono ?_
  rintro e w2 ⟨rfl, v2, st2, ch2, ow2⟩
  rw [List.nil_append] at st2
  have hb12 : Below g0 w1 w2 := ch2.below g0 (by omega) (fun k hk hm => by have := (HST1.out.mine_lt k hm).1; omega)
  have hsz2 := hb12.size
  have HB2 : Hid (Below g0 W w2) := HB1.out.trans hb12
  have HST2 := Lib.hid st2
  have HWD2 : Hid (Words w2 b off 30 z') := HWD1.out.chg (Chg.ofBelow (S := fun k => g0 ≤ k) hb12 (fun _ _ a => a)) (by omega) (by omega)
  have hbs : (lows w z' 30).length ≤ 1048576 := by rw [HBL.out]; have := HWL.out; omega
  have HBS := Lib.hid hbs
  have hlen : ((lows w z' 30).length : Int) = (w : Int) * (30 : Int) := by rw [HBL.out]; exact Int.natCast_mul _ _
  have HLEN := Lib.hid hlen
  have hwl0 : 0 ≤ (w : Int) * (30 : Int) ∧ (w : Int) * (30 : Int) ≤ 240 := by
    have h1 := HWL.out
    have h2 : ((w * 30 : Nat) : Int) = (w : Int) * (30 : Int) := Int.natCast_mul _ _
    omega
  clear ch2 ow2 hb12 st2 hbs hlen HB1 HST1 HWD1 HNM
  go_wp2_with fail
  refine (len_any HST2.out).mono ?_; rintro e w' ⟨rfl, rfl⟩
  rw [HLEN.out]
  go_wp2_with fail
  refine (read_ok g0 w2 g0 [] v2 _ HST2.out HBS.out 0 (by simp [inB])).mono ?_
  rintro e w3 ⟨vb, v3, rfl, hvw, hb3⟩
  have hvb : w2.heap.size ≤ vb := hvw.low
  have hsz3 := hb3.size
  have HST3 := Lib.hid (HST2.out.below hb3)
  have HVW3 := Lib.hid hvw
  have HML : Hid (∀ k, Mine g0 v2 k → k < w2.heap.size) := fun k hk => (HST2.out.mine_lt k hk).2
  have HB3 : Hid (Below g0 W w3) := HB2.out.trans (hb3.mono (by omega))
  have HWD3 : Hid (Words w3 b off 30 z') := HWD2.out.chg (Chg.ofBelow (S := fun k => w2.heap.size ≤ k) hb3 (fun _ _ a => a)) (by omega) (by omega)
  clear hvw hb3 HST2 HB2 HWD2 hwl0
  generalize w2.heap.size = g2 at *
  go_wp2_with fail
  go_loopw [7, 8, 9, 10, 11, 40] (fun _ _ _ _ _ i wr => ∃ k : Nat, k ≤ 30 ∧ i = .int .i64 k ∧ Vw g2 wr vb v3 (lows w z' 30) ((w * k : Nat) : Int) 0 ∧ St g0 5 wr g0 96 [] v2 (lows w z' 30) ∧ Words wr b off 30 z' ∧ Below g0 W wr ∧ g2 ≤ wr.heap.size) (fun _ _ _ _ _ i _ => 30 - (intOf i).toNat)
  case atStart => exact ⟨0, by omega, rfl, HVW3.out, HST3.out, HWD3.out, HB3.out, by omega⟩
  case round =>
    clear HVW3 HST3 HWD3 HB3
    obtain ⟨k, hk, rfl, hvw, hst, hwd, hb, hgs⟩ := hrel
    by_cases hlt : k < 30
    · have hcell := hwd k hlt
      have hux := Cq.getD_u64 HU.out k
      have hcut := cut_lows w z' 30 k hlt (by have := HZL.out; omega)
      rw [List.getD_eq_getElem?_getD] at hux hcut hcell
      have HVW := Lib.hid hvw
      have HST := Lib.hid hst
      have HWDk := Lib.hid hwd
      have HB := Lib.hid hb
      have HCUT := Lib.hid hcut
      have hwk : w * (k + 1) ≤ w * 30 := Nat.mul_le_mul_left _ hlt
      rw [Nat.mul_succ] at hwk
      have HWK := Lib.hid hwk
      have hwk0 : 0 ≤ (w : Int) * (k : Nat) ∧ (w : Int) * (k : Nat) ≤ 240 := by
        have := HWL.out
        rw [← Int.natCast_mul]; omega
      clear hvw hst hwd hb hcut hwk
      generalize hx : z'[k]?.getD 0 = x at *
      have HX := Lib.hid hx
      clear hx
      go_wp2_with fail
      refine (rbytes_any w hwb.2 x hux _).mono ?_
      rintro e w4 ⟨vl, rfl, hown, hb4⟩
      obtain ⟨A', c', rfl, _, _⟩ := own_form hown
      have hnum := rnum_any A' (low w x) c' w4 (own_reads (by rw [low_length]; exact hown)) (low_bytes w x) (by rw [low_length]; exact hwb.2)
      rw [low_length] at hnum
      have HNUM := Lib.hid hnum
      have HVW4 : Hid (Vw g2 w4 vb v3 (lows w z' 30) ((w * k : Nat) : Int) 0) := HVW.out.below hb4
      have HST4 := Lib.hid (HST.out.below hb4)
      have hsz4 := hb4.size
      have HB4 : Hid (Below g0 W w4) := HB.out.trans (hb4.mono (by omega))
      have HWD4 : Hid (Words w4 b off 30 z') := HWDk.out.chg (Chg.ofBelow (S := fun k => wr.heap.size ≤ k) hb4 (fun _ _ a => a)) (by omega) (by omega)
      have hpl : placeE ((w : Int) * (k : Nat)) w (lows w z' 30).length = 0 := by
        have hh : hasB ((w : Int) * (k : Nat)) w (lows w z' 30).length = true := by
          have h1 := HBL.out
          have h2 := HWK.out
          have h3 : ((w * k : Nat) : Int) = (w : Int) * (k : Nat) := Int.natCast_mul _ _
          simp only [hasB, inB, Bool.and_eq_true, decide_eq_true_eq]
          rw [h1, ← h3]
          omega
        unfold placeE; rw [hw, hh]; rfl
      have hat : atV (lows w z' 30) ((w : Int) * (k : Nat)) w = val (low w x) w := by
        unfold atV
        rw [if_pos hpl, ← Int.natCast_mul, Int.toNat_natCast, Int.toNat_natCast, HCUT.out]
      have HPL := Lib.hid hpl
      have HAT := Lib.hid hat
      clear hnum hown hb4 hpl hat hcell HVW HST HB HWDk
      go_wp2_with fail
      refine HNUM.out.mono ?_; rintro e w' ⟨rfl, rfl⟩
      go_wp2_with fail
      refine (at_any HST4.out HL8.out _ _ HBS.out).mono ?_; rintro e w5 ⟨rfl, hb5⟩
      rw [HPL.out, HAT.out]
      have HVW5 : Hid (Vw g2 w5 vb v3 (lows w z' 30) ((w * k : Nat) : Int) 0) := HVW4.out.below hb5
      have HST5 := Lib.hid (HST4.out.below hb5)
      have hsz5 := hb5.size
      have HB5 : Hid (Below g0 W w5) := HB4.out.trans (hb5.mono (by omega))
      have HWD5 : Hid (Words w5 b off 30 z') := HWD4.out.chg (Chg.ofBelow (S := fun k => w4.heap.size ≤ k) hb5 (fun _ _ a => a)) (by omega) (by omega)
      clear hb5 HVW4 HST4 HB4 HWD4 HNUM HPL HAT
      go_wp2_with fail
      refine (vnum_ok g2 w5 vb v3 _ (w * k) w HVW5.out HL8.out hw HBS.out (by rw [HBL.out]; exact HWK.out)).mono ?_; rintro e w6 ⟨rfl, hvw6, hch6⟩
      rw [HCUT.out]
      have hsz6 := hch6.size
      have HVW6 : Hid (Vw g2 w6 vb v3 (lows w z' 30) ((w * (k + 1) : Nat) : Int) 0) := by rw [Nat.mul_succ]; exact hvw6
      have HST6 : Hid (St g0 5 w6 g0 96 [] v2 (lows w z' 30)) := HST5.out.chg hch6 (fun j hj e => by have := HML.out j hj; omega)
      have HB6 : Hid (Below g0 W w6) := HB5.out.trans (hch6.below g0 (by omega) (fun j hj e => by omega))
      have HWD6 : Hid (Words w6 b off 30 z') := HWD5.out.chg hch6 (by omega) (by omega)
      clear hvw6 hch6 HVW5 HST5 HB5 HWD5 HCUT hwk0
      go_wp2_with fail
      go_roundw
      case rel => exact ⟨k + 1, by omega, by go_num, HVW6.out, HST6.out, HWD6.out, HB6.out, by omega⟩
      case measure => simp [intOf]; omega
    · have : k = 30 := by omega
      subst this
      have HVW := Lib.hid hvw
      have HB := Lib.hid hb
      have hle := HBL.out
      clear hvw hst hwd hb
      go_wp2_with fail
      refine (verr_any HVW.out).mono ?_; rintro e w' ⟨rfl, rfl⟩
      go_wp2_with fail
      refine (vleft_ok HVW.out HBS.out (by rw [hle]; omega)).mono ?_; rintro e w7 ⟨rfl, hd7⟩
      rw [hle, show ((w * 30 : Nat) : Int) - ((w * 30 : Nat) : Int) = 0 from by omega]
      have HB7 : Hid (Below g0 W w7) := by obtain ⟨nd, rfl⟩ := hd7; exact ⟨HB.out.os, HB.out.tape, HB.out.output, HB.out.size, HB.out.block⟩
      have hsz7 : g0 ≤ w7.heap.size := by obtain ⟨nd, rfl⟩ := hd7; have h1 := HB.out.size; have h2 := HG0.out; show g0 ≤ wr.heap.size; omega
      clear hd7
      go_wp2_with fail
      refine (awake2_any _).mono ?_; rintro e w8 ⟨rfl, hb8⟩
      have HB8 : Hid (Below g0 W w8) := HB7.out.trans (hb8.mono hsz7)
      clear hb8
      go_wp2_with fail
      go_ret
      exact ⟨rfl, by rw [HG0.out]; exact HB8.out⟩
theorem law_back_other (A : Option Addr) (len cap : Nat) (hcap : len ≤ cap) (hA : len = 0 ∨ ∃ b off, A = some ⟨b, off, none⟩) (w : Int) (hw : isW w = false) (W : World) :
    Calls Try.prog 12 #[.slice A len cap, .int .i64 w] W fun e W' => e = .returned (.bool true) ∧ Below W.heap.size W W' := by
  rcases hA with rfl | ⟨b, off, rfl⟩
  · go_enter Try.func12, Try.ntmps12
    go_wp2_with fail
    refine (ris2_any _ _).mono ?_; rintro e w' ⟨rfl, rfl⟩
    rw [hw]
    go_wp2_with fail
    refine (awake2_any _).mono ?_; rintro e w8 ⟨rfl, hb8⟩
    have HB8 := Lib.hid hb8
    clear hb8
    go_wp2_with fail
    go_ret
    exact ⟨rfl, HB8.out⟩
  · by_cases hl : len ≤ 30
    all_goals
      have HL := Lib.hid hl
      have hl' : (len : Int) ≤ 30 ∨ (30 : Int) < len := by omega
      clear hl
      rcases hl' with hl | hl
    all_goals
      go_enter Try.func12, Try.ntmps12
      go_wp2_with fail
      refine (ris2_any _ _).mono ?_; rintro e w' ⟨rfl, rfl⟩
      rw [hw]
      go_wp2_with fail
      refine (awake2_any _).mono ?_; rintro e w8 ⟨rfl, hb8⟩
      have HB8 := Lib.hid hb8
      clear hb8
      go_wp2_with fail
      go_ret
      exact ⟨rfl, HB8.out⟩
set_option maxRecDepth 100000 in
theorem law_back_empty (A : Option Addr) (cap : Nat) (w : Nat) (hw : isW w = true) (W : World) :
    Calls Try.prog 12 #[.slice A 0 cap, .int .i64 w] W fun e W' => e = .returned (.bool true) ∧ Below W.heap.size W W' := by
  have hw4 := Cq.isW_cases hw
  have hwb : 1 ≤ w ∧ w ≤ 8 := by omega
  clear hw4
  go_enter Try.func12, Try.ntmps12
  go_wp2_with fail
  refine (ris2_any _ _).mono ?_; rintro e w' ⟨rfl, rfl⟩
  rw [hw]
  go_wp2_with fail
  refine (new_none _).mono ?_; rintro e w1 ⟨rfl, hst, hb1⟩
  have HB1 := Lib.hid hb1
  have HST1 := Lib.hid hst
  have hsz1 := hb1.size
  clear hb1 hst
  generalize hg0 : W.heap.size = g0 at *
  have HG0 := Lib.hid hg0
  clear hg0
  go_wp2_with fail
  refine (num_zero g0 w1 g0 [] _ [] HST1.out (by simp) w hw _ _).mono ?_; rintro e w' ⟨rfl, rfl⟩
  go_wp2_with fail
  refine (len_any HST1.out).mono ?_; rintro e w' ⟨rfl, rfl⟩
  rw [show (([] : List Int).length : Int) = 0 from rfl]
  go_wp2_with fail
  refine (read_ok g0 w1 g0 [] _ _ HST1.out (by simp) 0 (by simp [inB])).mono ?_
  rintro e w3 ⟨vb, v3, rfl, hvw, hb3⟩
  have HVW3 := Lib.hid hvw
  have HB3 : Hid (Below g0 W w3) := HB1.out.trans (hb3.mono (by omega))
  have hsz3 := hb3.size
  clear hvw hb3 HST1 HB1
  go_wp2_with fail
  go_loopw [7, 8, 9, 10, 11, 40] (fun _ _ _ _ _ i wr => i = .int .i64 0 ∧ wr = w3) (fun _ _ _ _ _ _ _ => 0)
  case atStart => exact ⟨rfl, rfl⟩
  case round =>
    obtain ⟨rfl, rfl⟩ := hrel
    go_wp2_with fail
    refine (verr_any HVW3.out).mono ?_; rintro e w' ⟨rfl, rfl⟩
    go_wp2_with fail
    refine (vleft_ok HVW3.out (by simp) (by simp)).mono ?_; rintro e w7 ⟨rfl, hd7⟩
    rw [show (([] : List Int).length : Int) - 0 = 0 from rfl]
    have HB7 : Hid (Below g0 W w7) := by obtain ⟨nd, rfl⟩ := hd7; exact ⟨HB3.out.os, HB3.out.tape, HB3.out.output, HB3.out.size, HB3.out.block⟩
    have hsz7 : g0 ≤ w7.heap.size := by obtain ⟨nd, rfl⟩ := hd7; have h1 := HB3.out.size; have h2 := HG0.out; show g0 ≤ wr.heap.size; omega
    clear hd7
    go_wp2_with fail
    refine (awake2_any _).mono ?_; rintro e w8 ⟨rfl, hb8⟩
    have HB8 : Hid (Below g0 W w8) := HB7.out.trans (hb8.mono hsz7)
    clear hb8
    go_wp2_with fail
    go_ret
    exact ⟨rfl, by rw [HG0.out]; exact HB8.out⟩
theorem law_back (a : Option Addr) (len cap : Nat) (z : List Int) (w : Int) (W : World)
    (h : (a = none ∧ len = 0 ∧ cap = 0 ∧ z = []) ∨ ∃ x, a = some x ∧ len ≤ cap ∧ cap ≤ maxLen ∧ z.length = cap ∧ (∀ i, i < z.length → W.cell? (x.add i) = some (.int .u64 (z.getD i 0))) ∧ ∀ n ∈ z, (Lit.int .u64 n).wf = true) :
    Calls Try.prog 12 #[.slice a len cap, .int .i64 w] W fun e W' => e = .returned (.bool true) ∧ Below W.heap.size W W' := by
  rcases h with ⟨rfl, rfl, rfl, rfl⟩ | ⟨x, rfl, hl, hm, hz, hcell, hwz⟩
  · cases hw : isW w
    · exact law_back_other none 0 0 (Nat.le_refl _) (.inl rfl) w hw W
    · obtain ⟨y, rfl⟩ := Int.eq_ofNat_of_zero_le (show 0 ≤ w by have := Cq.isW_cases hw; omega)
      exact law_back_empty none 0 y hw W
  · by_cases h0 : len = 0
    · subst h0
      cases hw : isW w
      · exact law_back_other (some x) 0 cap hl (.inl rfl) w hw W
      · obtain ⟨y, rfl⟩ := Int.eq_ofNat_of_zero_le (show 0 ≤ w by have := Cq.isW_cases hw; omega)
        exact law_back_empty (some x) cap y hw W
    · obtain ⟨b, off, spot⟩ := x
      have hc := hcell 0 (by omega)
      have hspot : spot = none := by simpa [Addr.add] using World.cell?_spot hc
      subst hspot
      have hbW : b < W.heap.size := by
        have := block_lt_of_cell hc
        simpa [Addr.add] using this
      have hW : Words W b off len z := by
        intro i hi
        have h := hcell i (by omega)
        by_cases g : i = 0
        · subst g; simpa [Addr.add] using h
        · simpa [Addr.add, g] using h
      have hu : ∀ x ∈ z, U64 x := fun x hx => Cq.u64_of_wf (hwz x hx)
      cases hw : isW w
      · exact law_back_other (some ⟨b, off, none⟩) len cap hl (.inr ⟨b, off, rfl⟩) w hw W
      · obtain ⟨y, rfl⟩ := Int.eq_ofNat_of_zero_le (show 0 ≤ w by have := Cq.isW_cases hw; omega)
        by_cases h30 : len ≤ 30
        · exact law_back_few b off len cap z y hw W hu (by omega) hW hl h30 (by omega) hbW
        · exact law_back_many b off len cap z y hw W hu (by omega) hW hl (by omega) (by omega) hbW
end Go.Proofs.Ytkjbhhbgfhicgaa
