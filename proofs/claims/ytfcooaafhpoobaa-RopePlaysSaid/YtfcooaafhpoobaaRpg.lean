/- Walks of layer 2: a rope and the document's own bytes, side by side. -/
import Derived.Test.YtfcooaafhpoobaaRpf
namespace Go.Proofs.Ytfcooaafhpoobaa
open Go.RowKit Rp Go.Maps
open Cq (U64 I64 isW)

/-- a rope at g and the document's own bytes, both bs; what was there is as it was in W0 -/
structure Twin (W0 wr : World) (g : Nat) (v : Value) (A : Option Addr) (bs : List Int) (c : Nat) : Prop where
  st : St W0.heap.size 5 wr g 98 [] v bs
  rd : Reads wr A bs
  b8 : Bytes8 bs
  len : bs.length ≤ 1048576
  nil : A = none → bs = [] ∧ c = 0
  cap : bs.length ≤ c
  capm : c ≤ maxLen
  apart : ∀ p, A = some p → 0 < bs.length → ¬ Mine g v p.block ∧ p.block < wr.heap.size
  bel : Below W0.heap.size W0 wr
theorem Twin.below {W0 wr w' : World} {g : Nat} {v : Value} {A : Option Addr} {bs : List Int} {c : Nat} (h : Twin W0 wr g v A bs c) (b : Below wr.heap.size wr w') : Twin W0 w' g v A bs c :=
  ⟨h.st.below b, reads_below h.rd b (Nat.le_refl _), h.b8, h.len, h.nil, h.cap, h.capm, fun p hp h0 => ⟨(h.apart p hp h0).1, Nat.lt_of_lt_of_le (h.apart p hp h0).2 b.size⟩, h.bel.trans (b.mono h.bel.size)⟩
def Next (W0 : World) (g : Nat) (e : Ending) (W' : World) : Prop :=
  ∃ v' A' bs' c', e = .returned (.tuple #[.slice A' (List.length bs') c', .bool true]) ∧ Twin W0 W' g v' A' bs' c'
theorem Next.mk {W0 W' : World} {g : Nat} {v : Value} {A : Option Addr} {bs : List Int} {c : Nat} (h : Twin W0 W' g v A bs c) : Next W0 g (.returned (.tuple #[.slice A bs.length c, .bool true])) W' := ⟨v, A, bs, c, rfl, h⟩
/-- the rope has grown; new bytes hold the same -/
theorem Twin.next {W0 wr w1 w2 w3 : World} {g : Nat} {v : Value} {A : Option Addr} {bs bs' : List Int} {c n : Nat} {u : Value} (h : Twin W0 wr g v A bs c) (hg : Grew W0.heap.size 5 wr w1 g 98 [] v bs')
    (b12 : Below w1.heap.size w1 w2) (hown : w3.ownsRow w2.heap.size 5 1 u n (cellsOf bs')) (b23 : Below w2.heap.size w2 w3) (h8 : Bytes8 bs') (hl : bs'.length ≤ 1048576) :
    ∃ A' c', u = .slice A' bs'.length c' ∧ ∃ v', Twin W0 w3 g v' A' bs' c' := by
  obtain ⟨v1, st1, ch1, _⟩ := hg
  obtain ⟨A', c', e, _, hrd, hnil, hcap, hcm, hblk⟩ := own_slice hown
  have b13 : Below w1.heap.size w1 w3 := b12.trans (b23.mono b12.size)
  refine ⟨A', c', e, v1, st1.below b13, hrd, h8, hl, hnil, hcap, hcm, fun p hp _ => ⟨fun hm => ?_, (hblk p hp).2⟩, ?_⟩
  · have h1 := (st1.mine_lt _ hm).2
    have h2 := (hblk p hp).1
    have h3 := b12.size
    omega
  · have hsz := h.bel.size
    have hb1 : Below W0.heap.size wr w1 := ch1.below W0.heap.size hsz (fun k hk hm => by have := (h.st.mine_lt k hm).1; omega)
    exact (h.bel.trans hb1).trans (b13.mono (by have := hb1.size; omega))
/-- Num, whatever is asked -/
def NumTo (W0 W W' : World) (g : Nat) (v : Value) (bs : List Int) (w : Int) (m : Nat) (z : List Int) (e : Ending) : Prop :=
  (isW w = false ∧ e = .returned (.int .i64 2) ∧ W = W') ∨
  ∃ x : Nat, w = x ∧ isW w = true ∧ 1 ≤ x ∧ x ≤ 8 ∧ ((1048576 < bs.length + x * m ∧ e = .returned (.int .i64 4) ∧ W = W') ∨
    (bs.length + x * m ≤ 1048576 ∧ e = .returned (.int .i64 0) ∧ Grew W0.heap.size 5 W W' g 98 [] v (bs ++ lows x z m)))
theorem num_all {W0 W : World} {g : Nat} {v : Value} {A : Option Addr} {bs : List Int} {c : Nat} (h : Twin W0 W g v A bs c) (w : Int) (A2 : Option Addr) (m c2 : Nat) (z : List Int) (hz : z.length = m) (hu : ∀ x ∈ z, U64 x) (hws : WordsIn W0 A2 m z) (hm : m ≤ 1000) :
    Calls Try.prog 55 #[.pointer (some ⟨g, 0, none⟩), .int .i64 w, .slice A2 m c2] W fun e W' => NumTo W0 W W' g v bs w m z e := by
  cases hw : isW w
  · exact (num_arg g w hw _ W).mono fun e W' ⟨h1, h2⟩ => .inl ⟨hw, h1, h2⟩
  · have h4 := Cq.isW_cases hw
    obtain ⟨x, rfl⟩ := Int.eq_ofNat_of_zero_le (show 0 ≤ w by omega)
    have hx : 1 ≤ x ∧ x ≤ 8 := by omega
    obtain ⟨A1, c1, hv, _, _⟩ := own_form h.st.own
    have hc : W.cell? ⟨g, 0, none⟩ = some (.slice A1 bs.length c1) := by
      have := h.st.box.cell 0; rw [hv] at this; simpa using this
    have hiff : m ≤ (1048576 - bs.length) / x ↔ bs.length + x * m ≤ 1048576 := by
      rw [Nat.le_div_iff_mul_le (by omega), Nat.mul_comm]
      have := h.len
      omega
    by_cases hf : bs.length + x * m ≤ 1048576
    · by_cases h0 : m = 0
      · subst h0
        refine (num_zero W0.heap.size W g [] v bs h.st h.len x hw A2 c2).mono ?_
        rintro e W' ⟨rfl, rfl⟩
        refine .inr ⟨x, rfl, hw, hx.1, hx.2, .inr ⟨hf, rfl, ?_⟩⟩
        have e2 : lows x z 0 = [] := by simp [lows]
        rw [e2, List.append_nil]
        exact Grew.refl h.st
      · obtain ⟨b, off, rfl, hb, hc2⟩ := (hws.below h.bel (Nat.le_refl _)) (by omega)
        obtain ⟨b0, off0, e0, hb0, _⟩ := hws (by omega)
        injection e0 with e0
        injection e0 with e0 e1
        subst e0
        have hnm : ¬ Mine g v b := fun hm => by have := (h.st.mine_lt _ hm).1; omega
        refine (num_ok W0.heap.size W g [] v bs h.st h.bel.size h.len x hw b off m c2 z hz hu (hiff.2 hf) hc2 hb hnm).mono ?_
        rintro e W' ⟨h1, h2⟩
        exact .inr ⟨x, rfl, hw, hx.1, hx.2, .inr ⟨hf, h1, h2⟩⟩
    · refine (num_full g A1 bs.length c1 x hw A2 m c2 W hc h.len (by
        by_cases g : (1048576 - bs.length) / x < m
        · exact g
        · exact absurd (hiff.1 (by omega)) hf)).mono ?_
      rintro e W' ⟨h1, h2⟩
      exact .inr ⟨x, rfl, hw, hx.1, hx.2, .inl ⟨by omega, h1, h2⟩⟩
theorem bytes_append {a b : List Int} (h1 : Bytes8 a) (h2 : Bytes8 b) : Bytes8 (a ++ b) := by
  intro y hy
  rcases List.mem_append.1 hy with h | h
  · exact h1 y h
  · exact h2 y h
set_option maxHeartbeats 2000000 in
set_option maxRecDepth 100000 in
theorem grow_num {W0 wr : World} {g : Nat} {v : Value} {A : Option Addr} {bs : List Int} {c : Nat} (h : Twin W0 wr g v A bs c) (w n m : Int) (A2 : Option Addr) (l2 c2 : Nat) (z : List Int) (VB : Value) (S : ByteArray) (hz : z.length = l2) (hu : ∀ x ∈ z, U64 x) (hws : WordsIn W0 A2 l2 z) (hl : l2 ≤ 6) :
    Calls Try.prog 46 #[.pointer (some ⟨g, 0, none⟩), .slice A bs.length c, opV 0 w n m (.slice A2 l2 c2) VB S] wr (Next W0 g) := by
  unfold opV
  have hba : Below wr.heap.size wr (wr.alloc (.cells #[.int .i64 0, .int .i64 w, .int .i64 n, .int .i64 m, .slice A2 l2 c2, VB, .string S] 28)) := (Below.refl _ _).alloc (Nat.le_refl _) _
  have HT := Lib.hid (h.below hba)
  have HX := Lib.hid (Box.fresh wr 28 [.int .i64 0, .int .i64 w, .int .i64 n, .int .i64 m, .slice A2 l2 c2, VB, .string S])
  have HMI : Hid (∀ k, Mine g v k → k < wr.heap.size) := fun k hk => (h.st.mine_lt k hk).2
  have HZ := Lib.hid hz
  have HU := Lib.hid hu
  have HWS := Lib.hid hws
  clear h hba hz hu hws
  go_enter Try.func46, Try.ntmps46
  go_wp2_with fail
  generalize wr.alloc (.cells #[.int .i64 0, .int .i64 w, .int .i64 n, .int .i64 m, .slice A2 l2 c2, VB, .string S] 28) = wq at *
  refine (num_all HT.out w A2 l2 c2 z HZ.out HU.out HWS.out (by omega)).mono ?_
  rintro e w1 (⟨hw, rfl, rfl⟩ | ⟨x, rfl, hw, hx1, hx2, ⟨hfull, rfl, rfl⟩ | ⟨hfit, rfl, hg⟩⟩)
  · have hx := HX.out.cell 1
    simp only [List.getElem?_cons_zero, List.getElem?_cons_succ] at hx
    go_wp2_with fail
    refine (ris2_any _ _).mono ?_; rintro e w' ⟨rfl, rfl⟩
    rw [hw]
    go_wp2_with fail
    go_ret2
    exact Next.mk HT.out
  · have hx := HX.out.cell 1
    have hx4 := HX.out.cell 4
    simp only [List.getElem?_cons_zero, List.getElem?_cons_succ] at hx hx4
    have hxm : x * l2 ≤ 8 * 6 := Nat.mul_le_mul hx2 hl
    have HXM := Lib.hid hxm
    clear hxm
    go_wp2_with fail
    refine (ris2_any _ _).mono ?_; rintro e w' ⟨rfl, rfl⟩
    rw [hw]
    go_wp2_with fail
    refine (nums_any x hx2 A2 l2 c2 z _ HZ.out HU.out (by omega) (HWS.out.below HT.out.bel (Nat.le_refl _))).mono ?_
    rintro e w2 ⟨u, rfl, hown, hb2⟩
    obtain ⟨A3, c3, rfl, hlen, hrd, hnil, hcap, hcm, hblk⟩ := own_slice hown
    have HT2 := Lib.hid (HT.out.below hb2)
    have hl3 := lows_length x z l2 (by have := HZ.out; omega)
    have HB := Lib.hid (behind_no A bs.length c A3 (lows x z l2).length c3 w2 HT.out.len (by have := HXM.out; omega) (by omega))
    clear hown hb2 hlen hrd hnil hcap hcm hblk hl3 hfull hx hx4
    go_wp2_with fail
    refine HB.out.mono ?_; rintro e w' ⟨rfl, rfl⟩
    go_wp2_with fail
    go_ret2
    exact Next.mk HT2.out
  · have hg2 := hg
    obtain ⟨v1, st1, ch1, _⟩ := hg2
    have hnb : ¬ Mine g v wr.heap.size := fun hm => by have := HMI.out _ hm; omega
    have HX1 := Lib.hid (HX.out.chg ch1 hnb)
    have hx := HX1.out.cell 1
    have hx4 := HX1.out.cell 4
    simp only [List.getElem?_cons_zero, List.getElem?_cons_succ] at hx hx4
    have hsz0 := HT.out.bel.size
    have hb1 : Below W0.heap.size wq w1 := ch1.below W0.heap.size hsz0 (fun k hk hm => by have := (HT.out.st.mine_lt k hm).1; omega)
    have HB1 := Lib.hid (HT.out.bel.trans hb1)
    have hrd1 : Reads w1 A bs := HT.out.rd.chgp ch1 (fun a ha h0 => (HT.out.apart a ha h0).1)
    have hl3 := lows_length x z l2 (by have := HZ.out; omega)
    have HL3 := Lib.hid hl3
    have HRD1 := Lib.hid hrd1
    have HG := Lib.hid hg
    have HFIT := Lib.hid hfit
    clear st1 ch1 hnb hb1 hrd1 hl3 hg hfit hsz0
    go_wp2_with fail
    refine (ris2_any _ _).mono ?_; rintro e w' ⟨rfl, rfl⟩
    rw [hw]
    go_wp2_with fail
    refine (nums_any x hx2 A2 l2 c2 z _ HZ.out HU.out (by omega) (HWS.out.below HB1.out (Nat.le_refl _))).mono ?_
    rintro e w2 ⟨u, rfl, hown, hb2⟩
    obtain ⟨A3, c3, rfl, hlen, hrd, hnil, hcap, hcm, hblk⟩ := own_slice hown
    have HB2 := Lib.hid hb2
    have HBE := Lib.hid (behind_ok A bs c A3 (lows x z l2) c3 w2 (reads_below HRD1.out hb2 (Nat.le_refl _)) HT.out.nil hrd hnil (by have := HL3.out; have := HFIT.out; omega))
    clear hown hb2 hlen hrd hnil hcap hcm hblk hx hx4
    go_wp2_with fail
    refine HBE.out.mono ?_; rintro e w3 ⟨u3, rfl, hown3, hb3⟩
    obtain ⟨A4, c4, rfl, v4, ht4⟩ := HT.out.next HG.out HB2.out hown3 hb3 (bytes_append HT.out.b8 (lows_bytes x z l2)) (by rw [List.length_append]; have := HL3.out; have := HFIT.out; omega)
    have HT4 := Lib.hid ht4
    clear hown3 hb3 ht4 HG HBE
    generalize bs ++ lows x z l2 = bs2 at *
    go_wp2_with fail
    go_ret2
    exact Next.mk HT4.out
/-- Pad, to a multiple of t -/
def PadTo (W0 W W' : World) (g : Nat) (v : Value) (bs : List Int) (t : Nat) (e : Ending) : Prop :=
  (1048576 < bs.length + padN bs.length t ∧ e = .returned (.int .i64 4) ∧ W = W') ∨
    (bs.length + padN bs.length t ≤ 1048576 ∧ e = .returned (.int .i64 0) ∧ Grew W0.heap.size 5 W W' g 98 [] v (bs ++ List.replicate (padN bs.length t) 0))
theorem pad_all {W0 W : World} {g : Nat} {v : Value} {A : Option Addr} {bs : List Int} {c : Nat} (h : Twin W0 W g v A bs c) (t : Nat) (ht1 : 1 ≤ t) (ht2 : t ≤ 65536) :
    Calls Try.prog 100 #[.pointer (some ⟨g, 0, none⟩), .int .i64 t] W fun e W' => PadTo W0 W W' g v bs t e := by
  obtain ⟨A1, c1, hv, _, _⟩ := own_form h.st.own
  have hc : W.cell? ⟨g, 0, none⟩ = some (.slice A1 bs.length c1) := by
    have := h.st.box.cell 0; rw [hv] at this; simpa using this
  by_cases hf : bs.length + padN bs.length t ≤ 1048576
  · exact (pad_any W0.heap.size W g [] v bs h.st h.bel.size h.len t ht1 ht2 (by omega)).mono fun e W' ⟨h1, h2⟩ => .inr ⟨hf, h1, h2⟩
  · exact (pad_no W g A1 bs.length c1 hc h.len t ht1 ht2 (by omega)).mono fun e W' ⟨h1, h2⟩ => .inl ⟨by omega, h1, h2⟩
theorem zeros_bytes (k : Nat) : Bytes8 (List.replicate k 0) := fun x hx => by rw [List.eq_of_mem_replicate hx]; decide
set_option maxHeartbeats 2000000 in
set_option maxRecDepth 100000 in
theorem grow_pad {W0 wr : World} {g : Nat} {v : Value} {A : Option Addr} {bs : List Int} {c : Nat} (h : Twin W0 wr g v A bs c) (k w n m : Int) (VL VB : Value) (S : ByteArray) (hk : k = 3) :
    Calls Try.prog 46 #[.pointer (some ⟨g, 0, none⟩), .slice A bs.length c, opV k w n m VL VB S] wr (Next W0 g) := by
  subst hk
  unfold opV
  have hba : Below wr.heap.size wr (wr.alloc (.cells #[.int .i64 3, .int .i64 w, .int .i64 n, .int .i64 m, VL, VB, .string S] 28)) := (Below.refl _ _).alloc (Nat.le_refl _) _
  have HT := Lib.hid (h.below hba)
  have HX := Lib.hid (Box.fresh wr 28 [.int .i64 3, .int .i64 w, .int .i64 n, .int .i64 m, VL, VB, .string S])
  have HMI : Hid (∀ k, Mine g v k → k < wr.heap.size) := fun k hk => (h.st.mine_lt k hk).2
  clear h hba
  by_cases hn : n < 1 ∨ 65536 < n
  · have HN := Lib.hid hn
    have hx2 := HX.out.cell 2
    simp only [List.getElem?_cons_zero, List.getElem?_cons_succ] at hx2
    rcases hn with hn | hn
    all_goals
      go_enter Try.func46, Try.ntmps46
      go_wp2_with fail
      generalize wr.alloc (.cells #[.int .i64 3, .int .i64 w, .int .i64 n, .int .i64 m, VL, VB, .string S] 28) = wq at *
      refine (pad_arg g n HN.out _).mono ?_; rintro e w' ⟨rfl, rfl⟩
      go_wp2_with fail
      go_ret2
      exact Next.mk HT.out
  · obtain ⟨t, rfl⟩ := Int.eq_ofNat_of_zero_le (show 0 ≤ n by omega)
    have ht1 : 1 ≤ t := by omega
    have ht2 : t ≤ 65536 := by omega
    clear hn
    go_enter Try.func46, Try.ntmps46
    go_wp2_with fail
    generalize wr.alloc (.cells #[.int .i64 3, .int .i64 w, .int .i64 t, .int .i64 m, VL, VB, .string S] 28) = wq at *
    refine (pad_all HT.out t ht1 ht2).mono ?_
    rintro e w1 hcase
    have hdata : ∃ (E : Int) (w2 : World), e = .returned (.int .i64 E) ∧ w2 = w1 ∧ ((E = 4 ∧ 1048576 < bs.length + padN bs.length t ∧ Twin W0 w1 g v A bs c) ∨ (E = 0 ∧ bs.length + padN bs.length t ≤ 1048576 ∧ Grew W0.heap.size 5 wq w1 g 98 [] v (bs ++ List.replicate (padN bs.length t) 0)))
        ∧ Box w1 wr.heap.size 28 [.int .i64 3, .int .i64 w, .int .i64 t, .int .i64 m, VL, VB, .string S] ∧ Below W0.heap.size W0 w1 ∧ Reads w1 A bs := by
      rcases hcase with ⟨hfull, rfl, rfl⟩ | ⟨hfit, rfl, hg⟩
      · exact ⟨4, _, rfl, rfl, .inl ⟨rfl, hfull, HT.out⟩, HX.out, HT.out.bel, HT.out.rd⟩
      · have hg2 := hg
        obtain ⟨v1, st1, ch1, _⟩ := hg2
        have hnb : ¬ Mine g v wr.heap.size := fun hm => by have := HMI.out _ hm; omega
        have hsz0 := HT.out.bel.size
        have hb1 : Below W0.heap.size wq w1 := ch1.below W0.heap.size hsz0 (fun k hk hm => by have := (HT.out.st.mine_lt k hm).1; omega)
        exact ⟨0, _, rfl, rfl, .inr ⟨rfl, hfit, hg⟩, HX.out.chg ch1 hnb, HT.out.bel.trans hb1, HT.out.rd.chgp ch1 (fun a ha h0 => (HT.out.apart a ha h0).1)⟩
    obtain ⟨E, w2, rfl, rfl, hcs, hbx, hbel, hrd⟩ := hdata
    have HCS := Lib.hid hcs
    have HBX := Lib.hid hbx
    have HBEL := Lib.hid hbel
    have HRD := Lib.hid hrd
    have hx2 := hbx.cell 2
    simp only [List.getElem?_cons_zero, List.getElem?_cons_succ] at hx2
    have hlen := HT.out.len
    clear hcase hcs hbx hbel hrd
    go_wp2_with fail
    obtain ⟨l, hl⟩ : ∃ l, l = bs.length := ⟨_, rfl⟩
    have HL := Lib.hid hl
    rw [← hl] at hlen ⊢
    obtain ⟨P, hP⟩ : ∃ P, P = padN l t := ⟨_, rfl⟩
    have HP := Lib.hid hP
    have hPt : P < t := by rw [hP]; exact padN_lt l t ht1
    clear hl hP
    go_loop [18] (fun i => ∃ k : Nat, k ≤ P ∧ i = .int .i64 k) (fun i => P - (intOf i).toNat)
    case atStart => exact ⟨0, by omega, rfl⟩
    case round =>
      obtain ⟨k, hk, rfl⟩ := hrel
      by_cases hlt : k < P
      · have hne := pad_not l t k ht1 (by rw [← HP.out]; exact hlt)
        obtain ⟨q, hq⟩ : ∃ q, q = (l + k) % t := ⟨_, rfl⟩
        rw [← hq] at hne
        have e1 : ((l : Int) + k) % (t : Int) = q := by rw [hq, Int.natCast_emod, Int.natCast_add]
        have e2 : ((l : Int) + k).tmod (t : Int) = q := by rw [Int.tmod_eq_emod_of_nonneg (by omega)]; exact e1
        have e3 : ((q : Int) != 0) = true := by simp; omega
        have e4 : ((q : Int) == 0) = false := by simp; omega
        clear hq hne
        go_wp2_with fail
        go_round
        case rel => exact ⟨k + 1, by omega, by go_num⟩
        case measure => simp [intOf]; omega
      · obtain rfl : k = P := by omega
        have hz0 : (l + k) % t = 0 := by rw [HP.out]; exact pad_zero l t ht1
        have e1 : ((l : Int) + k) % (t : Int) = 0 := by rw [← Int.natCast_add, ← Int.natCast_emod, hz0]; rfl
        have e2 : ((l : Int) + k).tmod (t : Int) = 0 := by rw [Int.tmod_eq_emod_of_nonneg (by omega)]; exact e1
        obtain ⟨w3, hmk, hb3, hbx3⟩ := make_zeros w2 k (by omega)
        have HB3 := Lib.hid hb3
        have hrd3 : Reads w3 (some ⟨w2.heap.size, 0, none⟩) (List.replicate k 0) := Box.reads hbx3
        have HRD3 := Lib.hid hrd3
        have HRB := Lib.hid (reads_below HRD.out hb3 (Nat.le_refl _))
        clear hb3 hbx3 hrd3 hz0
        rcases HCS.out with ⟨hE, hfull, ht⟩ | ⟨hE, hfit, hg⟩
        · subst hE
          have HTT := Lib.hid (ht.below HB3.out)
          have HB := Lib.hid (behind_no A l c (some ⟨w2.heap.size, 0, none⟩) k k w3 (by omega) (by omega) (by have h1 := HP.out; have h2 := HL.out; rw [← h2, ← h1] at hfull; exact hfull))
          clear ht hfull
          go_wp2_with fail
          refine HB.out.mono ?_; rintro e w' ⟨rfl, rfl⟩
          clear e1 e2 hmk
          go_wp2_with fail
          go_ret2
          rw [HL.out]
          exact Next.mk HTT.out
        · subst hE
          have HG := Lib.hid hg
          have hfit2 : bs.length + (List.replicate k (0 : Int)).length ≤ 1048576 := by rw [List.length_replicate]; have h1 := HP.out; have h2 := HL.out; rw [h1, h2]; exact hfit
          have hbe := behind_ok A bs c (some ⟨w2.heap.size, 0, none⟩) (List.replicate k 0) k w3 HRB.out HT.out.nil HRD3.out (fun e => by cases e) hfit2
          rw [List.length_replicate, ← HL.out] at hbe
          have HBE := Lib.hid hbe
          have HEQ : Hid (List.replicate (padN bs.length t) (0 : Int) = List.replicate k 0) := by show _ = _; rw [HP.out, HL.out]
          have HF2 := Lib.hid hfit2
          clear hbe hg hfit hfit2
          go_wp2_with fail
          refine HBE.out.mono ?_; rintro e w4 ⟨u3, rfl, hown3, hb4⟩
          have hgg := HG.out
          rw [HEQ.out] at hgg
          obtain ⟨A4, c4, rfl, v4, ht4⟩ := HT.out.next hgg HB3.out hown3 hb4 (bytes_append HT.out.b8 (zeros_bytes k)) (by rw [List.length_append]; exact HF2.out)
          have HT4 := Lib.hid ht4
          clear hown3 hb4 ht4 hgg HG HBE e1 e2 hmk HCS
          generalize bs ++ List.replicate k 0 = bs2 at *
          go_wp2_with fail
          go_ret2
          exact Next.mk HT4.out
end Go.Proofs.Ytfcooaafhpoobaa
