/- Layer 9 (memory): Put behind no stores; an address of a call; what a write leaves as it was. -/
import Derived.Test.YtlbkmdmnijmieaaNh
import Derived.Deep.QuietTactic
import Derived.BigQuiet
namespace Go.Proofs.Ytlbkmdmnijmieaa
open Go Go.RowKit Rp Go.Maps
open Cq (U64 I64 isW nb mask)

theorem flush_empty (t g : Nat) (A : Option Addr) (c : Nat) (W : World) (ht : t < 8) (hc : W.cell? ⟨g, 1 + t, none⟩ = some (.slice A 0 c)) :
    Calls Try.prog 26 #[.pointer (some ⟨g, 0, none⟩), .int .i64 t] W fun e W' => e = .returned (.int .i64 0) ∧ W = W' := by
  have HP := Lib.hid (pend_any t g A 0 c W ht hc)
  clear hc
  go_enter Try.func26, Try.ntmps26
  go_wp2_with fail
  refine HP.out.mono ?_; rintro e w1 ⟨rfl, rfl⟩
  go_wp2_with fail
  go_loopw [10] (fun i wr => i = .int .i64 0 ∧ W = wr) (fun _ _ => 0)
  case atStart => exact ⟨rfl, rfl⟩
  case round =>
    obtain ⟨rfl, rfl⟩ := hrel
    go_wp2_with fail
    go_ret
    exact ⟨rfl, rfl⟩
theorem Sto.nat {q : Sto} (h : q.ok) : ∃ w : Nat, q.w = w ∧ 1 ≤ w ∧ w ≤ 8 := by
  rcases Cq.isW_cases h.1 with e | e | e | e <;> rw [e]
  · exact ⟨1, rfl, by omega, by omega⟩
  · exact ⟨2, rfl, by omega, by omega⟩
  · exact ⟨4, rfl, by omega, by omega⟩
  · exact ⟨8, rfl, by omega, by omega⟩
theorem Sto.ok_of {L : List Ar} {t : Int} {q : Sto} {wt : Bool} (h : mayB L t q.a q.w wt = true) : q.ok := by
  unfold mayB at h
  simp only [Bool.and_eq_true, decide_eq_true_eq] at h
  exact ⟨h.1.1.2, h.1.2⟩
theorem put_empty {B g : Nat} {v : Value} {bv : List Value} {L : List Ar} {W : World} (h : MS B W g v bv L) (t : Nat) (ht : t < 8) (A : Option Addr) (c : Nat) (hb : bv[t]? = some (.slice A 0 c)) (q : Sto)
    (hm : mayB L t q.a q.w true = true) :
    Calls Try.prog 23 #[.pointer (some ⟨g, 0, none⟩), .int .i64 t, .int .u64 q.a, .int .i64 q.w, .int .u64 q.v] W fun e W' => e = .returned (.bool true) ∧ MS B W' g v bv (wrF L q.a q.v q.w.toNat) ∧ Chg (DBlk L) W W' := by
  obtain ⟨ga, cc, hr⟩ := h.rd
  have hok := Sto.ok_of hm
  obtain ⟨w, hw, hw1, hw8⟩ := Sto.nat hok
  have H := Lib.hid (may_any g ga cc L t q.a q.w true W hr q.ha)
  rw [hm] at H
  have hend := hok.2
  rw [hw] at H hend
  have HV := Lib.hid q.hv
  have HQA := Lib.hid q.ha
  have hwt : Hid (wrF L q.a q.v q.w.toNat = wrF L q.a q.v w) := by rw [hw]; rfl
  rw [hw]
  rw [hw] at hwt
  have HE := Lib.hid hend
  have HM := Lib.hid h
  have HBV := Lib.hid hb
  clear hm hr h hb hok hw hend
  go_enter Try.func23, Try.ntmps23
  go_wp2_with fail
  refine H.out.mono ?_; rintro e w1 ⟨rfl, hk⟩
  have HK := Lib.hid hk
  have HM1 := Lib.hid (HM.out.kp hk)
  have hcell : w1.cell? ⟨g, 1 + t, none⟩ = some (.slice A 0 c) := by
    rw [HM1.out.box.cell, Nat.add_comm, List.getElem?_cons_succ, HBV.out]
  have HF := Lib.hid (flush_empty t g A c w1 ht hcell)
  clear hk hcell H
  go_wp2_with fail
  refine HF.out.mono ?_; rintro e w2 ⟨rfl, rfl⟩
  go_wp2_with fail
  refine (write_any HM1.out q.a q.v w HQA.out.1 HE.out hw8 HV.out).mono ?_
  rintro e w2 ⟨rfl, hM2, hC2⟩
  have HR : Hid (MS B w2 g v bv (wrF L q.a q.v (w : Int).toNat) ∧ Chg (DBlk L) W w2) := ⟨by rw [Int.toNat_natCast]; exact hM2, (Chg.ofBelow (S := DBlk L) HK.out (fun k hk hle => absurd hle (by omega))).trans hC2 (fun _ _ h => h)⟩
  clear hM2 hC2
  go_wp2_with fail
  go_ret
  exact ⟨rfl, HR.out.1, HR.out.2⟩
/-- an address of a call: whatever it is -/
def AtIn (W : World) (A : Option Addr) (n : Nat) : Prop := 0 < n → ∃ gb off, A = some ⟨gb, off, none⟩ ∧ gb < W.heap.size ∧ ∀ i, i < n → ∃ lo, W.cell? ⟨gb, off + i * 5, none⟩ = some (.int .u64 lo)
theorem AtIn.kp {W W' : World} {A : Option Addr} {n : Nat} (h : AtIn W A n) (k : Kp W W') : AtIn W' A n := fun hp => by
  obtain ⟨gb, off, e, hg, hc⟩ := h hp
  exact ⟨gb, off, e, Nat.lt_of_lt_of_le hg k.size, fun i hi => by
    obtain ⟨lo, hl⟩ := hc i hi
    exact ⟨lo, (k.cell (p := ⟨gb, off + i * 5, none⟩) hg).trans hl⟩⟩
theorem AtIn.of_rin {W : World} {A : Option Addr} {I : List Ar} (h : RIn W A I) : AtIn W A I.length := fun hp => by
  obtain ⟨gb, off, e, hg, hc⟩ := h.at' hp
  refine ⟨gb, off, e, hg, fun i hi => ?_⟩
  obtain ⟨a, ha⟩ : ∃ a, I[i]? = some a := ⟨_, List.getElem?_eq_getElem hi⟩
  exact ⟨a.lo, by have := hc i a ha 0 (by omega); rw [Nat.add_zero] at this; rw [this]; rfl⟩
def AtV (W : World) (e : Ending) (W' : World) : Prop := ∃ x, e = .returned (.int .u64 x) ∧ U64 x ∧ Kp W W'
set_option maxRecDepth 100000 in
set_option maxHeartbeats 4000000 in
theorem at_any (kd T : Int) (nr : Bool) (ix at' w v : Int) (A : Option Addr) (n c : Nat) (W : World) (hat : U64 at') (hix : I64 ix) (hn : n ≤ 16) (h : AtIn W A n) :
    Calls Try.prog 18 #[.agg #[.int .i64 kd, .int .i64 T, .bool nr, .int .i64 ix, .int .u64 at', .int .i64 w, .int .u64 v], .slice A n c] W (AtV W) := by
  have hat0 := hat.1
  have HAT := Lib.hid hat
  clear hat
  cases nr
  · clear h hix
    go_enter Try.func18, Try.ntmps18
    go_wp2_with fail
    go_ret
    exact ⟨_, rfl, HAT.out, (Kp.rfl _).new _⟩
  · by_cases hz : n = 0
    · subst hz
      clear h hix
      go_enter Try.func18, Try.ntmps18
      go_wp2_with fail
      go_ret
      exact ⟨_, rfl, HAT.out, (Kp.rfl _).new _⟩
    · obtain ⟨gb, off, rfl, hg, hc⟩ := h (by omega)
      have HC := Lib.hid hc
      have hn1 : (1 : Int) ≤ n := by omega
      have hnz : ((n : Int) == 0) = false := by simpa using hz
      have hm1 := Int.tmod_lt_of_pos ix (show (0 : Int) < n by omega)
      have hm0 := Int.lt_tmod_of_pos ix (show (0 : Int) < n by omega)
      by_cases hneg : ix.tmod n < 0
      · obtain ⟨j, hj⟩ := Int.eq_ofNat_of_zero_le (show 0 ≤ -(ix.tmod n) by omega)
        have hj' : ix.tmod (n : Int) = -(j : Int) := by omega
        have hj1 : (1 : Int) ≤ j := by omega
        have hjn : (j : Int) < n := by omega
        obtain ⟨lo, hlo⟩ := HC.out j (by omega)
        clear hm0 hm1 hj hneg hc h hz hix
        go_enter Try.func18, Try.ntmps18
        go_wp2_with fail
        go_quiet (fail)
        go_wp2_with fail
        go_ret
        exact ⟨_, rfl, Cq.u64_wrap _, ((Kp.rfl _).new _).draws _⟩
      · obtain ⟨j, hj⟩ := Int.eq_ofNat_of_zero_le (show 0 ≤ ix.tmod n by omega)
        have hjn : (j : Int) < n := by omega
        obtain ⟨lo, hlo⟩ := HC.out j (by omega)
        clear hm0 hm1 hneg hc h hz hix
        go_enter Try.func18, Try.ntmps18
        go_wp2_with fail
        go_quiet (fail)
        go_wp2_with fail
        go_ret
        exact ⟨_, rfl, Cq.u64_wrap _, ((Kp.rfl _).new _).draws _⟩
end Go.Proofs.Ytlbkmdmnijmieaa
