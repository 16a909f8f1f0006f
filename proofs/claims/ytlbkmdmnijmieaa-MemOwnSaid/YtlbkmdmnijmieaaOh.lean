/- Layer 9 (memory), the document's own: bytes reach memory. -/
import Derived.Test.YtlbkmdmnijmieaaOg
import Derived.BigRegion
namespace Go.Proofs.Ytlbkmdmnijmieaa
open Go Go.RowKit Rp Go.Maps
open Cq (U64 I64 isW nb mask)

theorem RS.put {B : Nat} {W : World} {g : Nat} {v : Value} {bv : List Value} {L : List Ar} (h : RS B W g v bv L) {x b : Int} {a : Ar} {gb k : Nat} (hf : findA L x = some a) (hA : a.A = some ⟨gb, 0, none⟩) (hk : IntKind.u64.wrap (x - a.lo) = k) (hb : 0 ≤ b ∧ b ≤ 255) :
    RS B (W.setCell ⟨gb, k, none⟩ (.int .u8 b)) g v bv (setB L x b) := by
  obtain ⟨hm, _⟩ := findA_is hf
  have hab : a.val.ownBlock = some gb := by unfold Ar.val; rw [hA]; rfl
  obtain ⟨_, _, cur, hcur⟩ := row_block (h.dat a hm).1 hab
  have hgb : g ≠ gb := fun e => by
    have hx := h.box
    rw [e] at hx
    unfold Box at hx
    rw [hx] at hcur
    simp at hcur
  have hvb : v.ownBlock ≠ some gb := fun e => row_ne h.own (h.dat a hm).1 (by decide : (57 : Nat) ≠ 5) e hab
  refine ⟨h.low, h.box.kept (Below.heap_setCell W ⟨gb, k, none⟩ _ g hgb), ?_, by rw [setB_length]; exact h.few, fun e => h.nil (by rw [setB_length] at e; exact e), ?_, ?_⟩
  · rw [setB_length, setB_recs]
    exact own_keep h.own (fun j _ e => Below.heap_setCell W ⟨gb, k, none⟩ _ j (fun e' => hvb (by rw [e, e'])))
  · exact dat_set hb L a h.dat h.apart hf hA hk
  · have e : ∀ M : List Ar, M.Pairwise (fun a b => ∀ k, a.val.ownBlock = some k → b.val.ownBlock ≠ some k) ↔ (M.map Ar.val).Pairwise (fun a b => ∀ k, a.ownBlock = some k → b.ownBlock ≠ some k) := fun M => (List.pairwise_map (f := Ar.val) (R := fun a b => ∀ k, a.ownBlock = some k → b.ownBlock ≠ some k)).symm
    rw [e, setB_val, ← e]
    exact h.apart
/-- an area's bytes, where they lie -/
theorem RS.at {B : Nat} {W : World} {g : Nat} {v : Value} {bv : List Value} {L : List Ar} (h : RS B W g v bv L) {x : Int} {a : Ar} (hf : findA L x = some a) :
    ∃ (k gb : Nat), IntKind.u64.wrap (x - a.lo) = k ∧ k < a.n ∧ a.A = some ⟨gb, 0, none⟩ ∧ DBlk L gb ∧ W.cell? ⟨gb, k, none⟩ = some (.int .u8 (a.byte x)) ∧ W.frozen? ⟨gb, k, none⟩ = false ∧ gb < W.heap.size ∧ B ≤ gb := by
  obtain ⟨hm, _⟩ := findA_is hf
  obtain ⟨k, gb, off, h1, h2, h3, h4, h5⟩ := byte_in h.drd hf
  have ho := (h.dat a hm).1
  have hab : a.val.ownBlock = some gb := by unfold Ar.val; rw [h3]; rfl
  have hb := (row_block ho hab).1
  obtain rfl : off = 0 := by
    rcases ho.2 with ⟨hv, _⟩ | ⟨k, cap, cur, hv, _⟩
    · unfold Ar.val at hv; rw [h3] at hv; cases hv
    · unfold Ar.val at hv; rw [h3] at hv
      simp at hv
      exact hv.1.2
  rw [Nat.zero_add] at h5
  unfold Ar.val at ho
  rw [h3] at ho
  exact ⟨k, gb, h1, h2, h3, ⟨a, hm, hab⟩, h5, ho.frozenAt k, h4, hb⟩
theorem findA_geo {L M : List Ar} (h : L.map Ar.geo = M.map Ar.geo) {x : Int} (hf : findA L x = none) : findA M x = none := by
  unfold findA at *
  rw [List.find?_eq_none] at *
  intro a ha
  have hm : a.geo ∈ L.map Ar.geo := by rw [h]; exact List.mem_map_of_mem ha
  obtain ⟨b, hb, e⟩ := List.mem_map.1 hm
  have hx := hf b hb
  simp only [Ar.geo, Prod.mk.injEq] at e
  unfold Ar.has at *
  rw [← e.1, ← e.2.1]
  exact hx
theorem setB_geo (L : List Ar) (x b : Int) : (setB L x b).map Ar.geo = L.map Ar.geo := setB_map Ar.geo (fun _ _ _ => rfl) L x b
def RWr (B : Nat) (W : World) (g : Nat) (v : Value) (bv : List Value) (L : List Ar) (s : Nat) (x : Int) (A : Option Addr) (c : Nat) (bs : List Int) (wr : World) : Prop :=
  ∃ L', RS B wr g v bv L' ∧ L'.map Ar.geo = L.map Ar.geo ∧ L'.map Ar.val = L.map Ar.val ∧ Chg (DBlk L) W wr ∧ Reads wr A bs ∧ Box wr s 99 [.int .u64 x, .slice A bs.length c]
set_option maxRecDepth 100000 in
set_option maxHeartbeats 4000000 in
theorem rwrite_any {B g : Nat} {v : Value} {bv : List Value} {L : List Ar} {W : World} (h : RS B W g v bv L) (x : Int) (A : Option Addr) (c : Nat) (bs : List Int) (hx : 0 ≤ x) (hxn : x + bs.length ≤ 18446744073709551616) (hn8 : bs.length ≤ 8) (hb : Bytes8 bs) (hr : Reads W A bs)
    (hap : ∀ k off l, A = some ⟨k, off, l⟩ → ¬ DBlk L k) (hall : ∀ j : Nat, j < bs.length → findA L (x + j) ≠ none) :
    Calls Try.prog 56 #[.pointer (some ⟨g, 0, none⟩), .agg #[.int .u64 x, .slice A bs.length c]] W fun e W' => e = .returned (.tuple #[]) ∧ Chg (DBlk L) W W' := by
  obtain ⟨n, hn⟩ : ∃ n, n = bs.length := ⟨_, rfl⟩
  have HS : Hid (∀ W1, W1 = W.alloc (.cells #[.int .u64 x, .slice A bs.length c] 99) → RWr B W g v bv L W.heap.size x A c bs W1) := by
    rintro _ rfl
    exact ⟨L, h.kp ((Kp.rfl W).new _), rfl, rfl, (Chg.refl _ W).alloc _, reads_kp hr ((Kp.rfl W).new _), heap_alloc_new W _⟩
  have HN := Lib.hid hn
  have HB := Lib.hid hb
  have HAP := Lib.hid hap
  have HALL := Lib.hid hall
  have HDW : Hid (∀ k, DBlk L k → k < W.heap.size) := fun k ⟨a, ha, e⟩ => (row_block (h.dat a ha).1 e).2.1
  rw [← hn] at hxn hn8 ⊢
  rw [← hn] at HS
  clear h hb hr hap hall hn
  go_enter Try.func56, Try.ntmps56
  go_wp2_with fail
  have HS1 := Lib.hid (HS.out _ rfl)
  generalize W.alloc (.cells #[.int .u64 x, .slice A n c] 99) = w1 at *
  clear HS
  obtain ⟨s, hs⟩ : ∃ s, s = W.heap.size := ⟨_, rfl⟩
  rw [← hs] at HS1 ⊢
  have HSW := Lib.hid hs
  clear hs
  go_loopw [10] (fun i w => ∃ k : Nat, k ≤ n ∧ i = .int .i64 k ∧ RWr B W g v bv L s x A c bs w) (fun i _ => n - (intOf i).toNat)
  case atStart => exact ⟨0, Nat.zero_le _, rfl, HS1.out⟩
  case round =>
    obtain ⟨k, hk, rfl, L', hM, hG, hV, hC, hR, hX⟩ := hrel
    have HM := Lib.hid hM
    have HG := Lib.hid hG
    have HV := Lib.hid hV
    have HC := Lib.hid hC
    have HR := Lib.hid hR
    have s0 := hX.cell 0
    have s1 := hX.cell 1
    simp only [List.getElem?_cons_zero, List.getElem?_cons_succ] at s0 s1
    rw [← HN.out] at s1
    have HX := Lib.hid hX
    clear hM hG hV hC hR hX
    by_cases hlt : k < n
    · obtain ⟨ga, cc, hrd⟩ := HM.out.rd
      have HFD := Lib.hid (rfind_any g ga cc L' (x + k) wr hrd)
      have HNE := Lib.hid (show findA L' (x + k) ≠ none from fun e => HALL.out k (by have := HN.out; omega) (findA_geo HG.out e))
      obtain ⟨b, hb⟩ : ∃ b, b = bs.getD k 0 := ⟨_, rfl⟩
      have HBB := Lib.hid (show 0 ≤ b ∧ b ≤ 255 by
        rw [hb, List.getD_eq_getElem?_getD, List.getElem?_eq_getElem (by have := HN.out; omega)]; exact HB.out _ (List.getElem_mem _))
      obtain ⟨ag, ao, hA, hag, hac⟩ := HR.out (by have := HN.out; omega)
      subst hA
      have hbk := hac k (by have := HN.out; omega)
      rw [← hb] at hbk
      have HAC := Lib.hid hac
      have HRD := Lib.hid hrd
      clear hac hb hrd
      go_wp2_with fail
      refine HFD.out.mono ?_; rintro e w2 ⟨⟨r, rfl, hr⟩, hk2⟩
      obtain ⟨j, a, rfl, ha, hf⟩ := fdv_some hr HNE.out
      have HM2 := Lib.hid (HM.out.kp hk2)
      have HX2 := Lib.hid (HX.out.kept (hk2.block s HX.out.lt))
      obtain ⟨m1, m2, m3, m4, m5, m6, m7, m8, m9⟩ := mrd_cells (HRD.out.kp hk2) ha
      obtain ⟨d, gb, hd, hdn, hA, hD, hcb, hfb, hgb, hBg⟩ := HM2.out.at hf
      have hn64 := (HM2.out.dat a (List.mem_of_getElem? ha)).2.2.1
      have hag2 : ag < w2.heap.size := Nat.lt_of_lt_of_le hag hk2.size
      have x0 := HX2.out.cell 0
      simp only [List.getElem?_cons_zero] at x0
      have hs2 := HX2.out.lt
      obtain ⟨ln, hln⟩ : ∃ ln, ln = L'.length := ⟨_, rfl⟩
      have hl16 : ln ≤ 16 := by have := HM2.out.few; omega
      rw [← hln] at m3 m4
      have HC2 := Lib.hid (HC.out.thenBelow hk2)
      have HR2 := Lib.hid (reads_kp HR.out hk2)
      have HFa := Lib.hid hf
      have HD := Lib.hid hD
      have HAa := Lib.hid hA
      have HDD := Lib.hid hd
      have hDL : DBlk L gb := (dblk_iff HV.out gb).1 hD
      have n1 : ¬ gb = ag := fun e => HAP.out ag ao none rfl (e ▸ hDL)
      have n2 : ¬ gb = s := fun e => by have := HDW.out gb hDL; have := HSW.out; omega
      obtain ⟨lo, A', an, ac, wr2, pv, ow, bs'⟩ := a
      simp only at m5 m6 m7 m8 m9 hd hdn hA hn64
      subst hA
      have hxk : IntKind.u64.wrap (x + (k : Int)) = x + k := Cq.wrap_of_u64 ⟨by omega, by omega⟩
      have hkk : IntKind.u64.wrap (k : Int) = k := Cq.wrap_of_u64 ⟨by omega, by omega⟩
      have HPut : Hid (RWr B W g v bv L s x (some ⟨ag, ao, none⟩) c bs (w2.setCell ⟨gb, d, none⟩ (.int .u8 b)).drew) := by
        have hq : Reads (w2.setCell ⟨gb, d, none⟩ (.int .u8 b)) (some ⟨ag, ao, none⟩) bs := by
          intro hp
          obtain ⟨g1, o1, e1, h1, h2⟩ := HR2.out hp
          cases e1
          exact ⟨_, _, rfl, by simpa using h1, fun i hi => (World.cell?_of_block (Below.heap_setCell _ ⟨gb, d, none⟩ _ _ (fun e => n1 e.symm))).trans (h2 i hi)⟩
        exact ⟨setB L' (x + k) b, (HM2.out.put HFa.out HAa.out HDD.out HBB.out).kp (Kp.rfl _).draw, (setB_geo _ _ _).trans HG.out, (setB_val _ _ _).trans HV.out, (HC2.out.setCell (p := ⟨gb, d, none⟩) (fun _ => hDL) _).drew, reads_kp hq (Kp.rfl _).draw, HX2.out.kept (Below.heap_setCell _ ⟨gb, d, none⟩ _ _ (fun e => n2 e.symm))⟩
      clear hr hf ha hk2 hD hln m7 m8 m9 s0 s1 HX HM HFD HRD HFa HAa HDD HC HR HNE
      go_wp2_with fail
      go_region
      go_wp2_with fail
      go_roundw
      case rel => exact ⟨k + 1, by omega, by go_num, HPut.out⟩
      case measure => simp [intOf]; omega
    · go_wp2_with fail
      go_end0
      exact ⟨rfl, HC.out⟩
end Go.Proofs.Ytlbkmdmnijmieaa
