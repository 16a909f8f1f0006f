/- Layer 9 (memory), the document's own, on a fresh memory: Drain, Flush, Own, Put. -/
import Derived.Test.YtlbkmdmnijmieaaOh
namespace Go.Proofs.Ytlbkmdmnijmieaa
open Go Go.RowKit Rp Go.Maps
open Cq (U64 I64 isW nb mask)

/-- a Bool is handed back -/
def BV (e : Ending) : Prop := ∃ b, e = .returned (.bool b)
theorem rdrain_any {B g : Nat} {v : Value} {L : List Ar} {W : World} (h : RS B W g v noRows L) (t : Int) :
    Calls Try.prog 36 #[.pointer (some ⟨g, 0, none⟩), .int .i64 t] W fun e W' => e = .returned (.bool false) ∧ Kp W W' := by
  by_cases ht0 : t < 0
  · clear h
    go_enter Try.func36, Try.ntmps36
    go_wp2_with fail
    go_ret
    exact ⟨rfl, Kp.rfl _⟩
  by_cases ht7 : 7 < t
  · clear h
    go_enter Try.func36, Try.ntmps36
    go_wp2_with fail
    go_ret
    exact ⟨rfl, Kp.rfl _⟩
  obtain ⟨i, rfl⟩ := Int.eq_ofNat_of_zero_le (show 0 ≤ t by omega)
  have hi : i < 8 := by omega
  have hc := norow_cell h.box i hi
  have hg := h.box.lt
  clear h ht0
  go_enter Try.func36, Try.ntmps36
  go_wp2_with fail
  go_ret
  exact ⟨rfl, Kp.rfl _⟩
theorem rflush_any {B g : Nat} {v : Value} {L : List Ar} {W : World} (h : RS B W g v noRows L) (t : Int) :
    Calls Try.prog 37 #[.pointer (some ⟨g, 0, none⟩), .int .i64 t] W fun e W' => e = .returned (.int .i64 0) ∧ Kp W W' := by
  have HD := Lib.hid (rdrain_any h t)
  clear h
  go_enter Try.func37, Try.ntmps37
  go_wp2_with fail
  go_loopw [5] (fun i w => i = .int .i64 0 ∧ W = w) (fun _ _ => 0)
  case atStart => exact ⟨rfl, rfl⟩
  case round =>
    obtain ⟨rfl, rfl⟩ := hrel
    go_wp2_with fail
    refine HD.out.mono ?_; rintro e w2 ⟨rfl, hk2⟩
    have HK2 := Lib.hid hk2
    clear hk2
    go_wp2_with fail
    go_ret
    exact ⟨rfl, HK2.out⟩
set_option maxRecDepth 100000 in
set_option maxHeartbeats 4000000 in
theorem rown_any {B g : Nat} {v : Value} {bv : List Value} {L : List Ar} {W : World} (h : RS B W g v bv L) (t k : Int) :
    Calls Try.prog 38 #[.pointer (some ⟨g, 0, none⟩), .int .i64 t, .int .i64 k] W fun e W' => BV e ∧ Chg (MBlk g v L) W W' := by
  obtain ⟨ga, c, hm⟩ := h.rd
  by_cases ht0 : t < 0
  · clear h hm
    go_enter Try.func38, Try.ntmps38
    go_wp2_with fail
    go_ret
    exact ⟨⟨_, rfl⟩, Chg.refl _ _⟩
  by_cases ht7 : 7 < t
  · clear h hm
    go_enter Try.func38, Try.ntmps38
    go_wp2_with fail
    go_ret
    exact ⟨⟨_, rfl⟩, Chg.refl _ _⟩
  by_cases hk0 : k < 0
  · clear h hm
    go_enter Try.func38, Try.ntmps38
    go_wp2_with fail
    go_ret
    exact ⟨⟨_, rfl⟩, Chg.refl _ _⟩
  obtain ⟨j, rfl⟩ := Int.eq_ofNat_of_zero_le (show 0 ≤ k by omega)
  by_cases hj : L.length ≤ j
  · have hh := hm.head
    have hg := hm.lt
    obtain ⟨n, hn⟩ : ∃ n, n = L.length := ⟨_, rfl⟩
    obtain ⟨A, hA⟩ : ∃ A, A = (if L.length = 0 then none else some (⟨ga, 0, none⟩ : Addr)) := ⟨_, rfl⟩
    obtain ⟨cc, hcc⟩ : ∃ cc, cc = (if L.length = 0 then 0 else c) := ⟨_, rfl⟩
    rw [← hA, ← hcc, ← hn] at hh
    rw [← hn] at hj
    clear h hm hA hcc hn hk0
    go_enter Try.func38, Try.ntmps38
    go_wp2_with fail
    go_ret
    exact ⟨⟨_, rfl⟩, Chg.refl _ _⟩
  obtain ⟨a, ha⟩ : ∃ a, L[j]? = some a := ⟨_, List.getElem?_eq_getElem (by omega)⟩
  obtain ⟨m1, m2, m3, m4, m5, m6, m7, m8, m9⟩ := mrd_cells hm ha
  have hfz : W.frozen? ⟨ga, j * 5 + 4, none⟩ = false ∧ MBlk g v L ga := by
    have hb := h.box.cell 0
    rw [m4] at hb
    simp only [List.getElem?_cons_zero, Option.some.injEq] at hb
    have ho := h.own
    rw [← hb] at ho
    exact ⟨ho.frozenAt _, .inr (.inl (by rw [← hb]; rfl))⟩
  have hfz1 := hfz.1
  have HMB := Lib.hid hfz.2
  have hn16 := h.few
  obtain ⟨n, hn⟩ : ∃ n, n = L.length := ⟨_, rfl⟩
  rw [← hn] at m3 m4 hn16
  obtain ⟨lo, A', an, ac, wr2, pv, ow, bs'⟩ := a
  simp only at m8 m9
  have hne : ¬ n ≤ j := by omega
  clear h hm hj hk0 hfz ha m5 m6 m7
  cases pv
  · clear hn
    go_enter Try.func38, Try.ntmps38
    go_wp2_with fail
    go_ret
    exact ⟨⟨_, rfl⟩, Chg.refl _ _⟩
  · by_cases how : ow = -1
    · subst how
      clear hn
      go_enter Try.func38, Try.ntmps38
      go_wp2_with fail
      go_ret
      exact ⟨⟨_, rfl⟩, (Chg.refl _ _).setCell (p := ⟨ga, j * 5 + 4, none⟩) (fun _ => HMB.out) _⟩
    · have hb2 : (ow != -1) = true := by simpa using how
      clear hn
      go_enter Try.func38, Try.ntmps38
      go_wp2_with fail
      go_ret
      exact ⟨⟨_, rfl⟩, Chg.refl _ _⟩
set_option maxRecDepth 100000 in
set_option maxHeartbeats 4000000 in
theorem rput_any {B g : Nat} {v : Value} {L : List Ar} {W : World} (h : RS B W g v noRows L) (t x w sv : Int) (hx : U64 x) (hv : U64 sv) :
    Calls Try.prog 35 #[.pointer (some ⟨g, 0, none⟩), .int .i64 t, .int .u64 x, .int .i64 w, .int .u64 sv] W fun e W' => BV e ∧ Chg (MBlk g v L) W W' := by
  obtain ⟨ga, c, hm⟩ := h.rd
  have HMY := Lib.hid (rmay_any hm t x w true hx)
  cases hmy : mayB L t x w true
  · rw [hmy] at HMY
    clear h hm hx hv hmy
    go_enter Try.func35, Try.ntmps35
    go_wp2_with fail
    refine HMY.out.mono ?_; rintro e w2 ⟨rfl, hk2⟩
    have HK2 := Lib.hid hk2
    clear hk2
    go_wp2_with fail
    go_ret
    exact ⟨⟨_, rfl⟩, (Chg.refl _ _).thenBelow HK2.out⟩
  · rw [hmy] at HMY
    unfold mayB at hmy
    simp only [Bool.and_eq_true, decide_eq_true_eq] at hmy
    obtain ⟨⟨⟨-, hw⟩, hxw⟩, hall⟩ := hmy
    obtain ⟨n, rfl, hn, hn8⟩ := isW_nat hw
    rw [Int.toNat_natCast] at hall
    have HALL := Lib.hid hall
    have H := Lib.hid h
    have hx1 := hx.1
    have HV := Lib.hid hv
    clear h hm hx hall hw hv
    go_enter Try.func35, Try.ntmps35
    go_wp2_with fail
    refine HMY.out.mono ?_; rintro e w2 ⟨rfl, hk2⟩
    have HK2 := Lib.hid hk2
    have HFL := Lib.hid (rflush_any (H.out.kp hk2) t)
    clear hk2
    go_wp2_with fail
    refine HFL.out.mono ?_; rintro e w3 ⟨rfl, hk3⟩
    have HK3 := Lib.hid (HK2.out.next hk3)
    clear hk3
    go_wp2_with fail
    refine (rbytes_any n hn8 sv HV.out w3).mono ?_; rintro e w4 ⟨y, rfl, hown, hk4⟩
    obtain ⟨A, cc, rfl, -, hA⟩ := own_slice hown
    have HK4 := Lib.hid (HK3.out.next hk4)
    have hwr := rwrite_any (bs := low n sv) (H.out.kp HK4.out) x A cc hx1 (by rw [low_length]; exact hxw) (by rw [low_length]; exact hn8) (low_bytes n sv) (own_reads (by rw [low_length]; exact hown))
      (fun k off l e hD => by
        obtain ⟨a, ha, e2⟩ := hD
        have h1 := (row_block (H.out.dat a ha).1 e2).2.1
        have h2 := (row_block hown (k := k) (by rw [e]; rfl)).1
        have h3 := HK3.out.size
        omega)
      (fun j hj e => by
        rw [low_length] at hj
        have := opnAll_at HALL.out j hj
        rw [openB_no e] at this
        cases this)
    rw [low_length] at hwr ⊢
    have HWR := Lib.hid hwr
    clear hwr hown hk4 hA
    go_wp2_with fail
    refine HWR.out.mono ?_; rintro e w5 ⟨rfl, hc5⟩
    have HC5 : Hid (Chg (MBlk g v L) W w5) := ((Chg.refl (MBlk g v L) W).thenBelow HK4.out).trans hc5 (fun k _ hk => .inr (.inr hk))
    clear hc5
    go_wp2_with fail
    go_ret
    exact ⟨⟨_, rfl⟩, HC5.out⟩
end Go.Proofs.Ytlbkmdmnijmieaa
