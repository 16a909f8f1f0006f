/- Walks of layer 2: one call of both, that asks. -/
import Derived.Test.YtfcooaafhpoobaaRpl
namespace Go.Proofs.Ytfcooaafhpoobaa
open Go.RowKit Rp Go.Maps
open Cq (U64 I64 isW)

set_option maxHeartbeats 4000000 in
set_option maxRecDepth 100000 in
theorem step_at {W0 wr : World} {g : Nat} {v : Value} {A : Option Addr} {bs : List Int} {c : Nat} (h : Twin W0 wr g v A bs c) (w n m : Int) (AL : Option Addr) (lL cL : Nat) (z : List Int) (AB : Option Addr) (lB cB : Nat) (ys : List Int) (S : ByteArray)
    (ho : OpOk W0 AL lL cL z AB lB cB ys S) :
    Calls Try.prog 11 #[.pointer (some ⟨g, 0, none⟩), .slice A bs.length c, opV 5 w n m (.slice AL lL cL) (.slice AB lB cB) S] wr (Next W0 g) := by
  have HSM : Hid (∀ W, Calls Try.prog 45 #[.agg #[.int .i64 5, .int .i64 w, .int .i64 n, .int .i64 m, .slice AL lL cL, .slice AB lB cB, .string S]] W fun e W' => e = .returned (.agg #[.int .i64 5, .int .i64 w, .int .i64 n, .int .i64 m, .slice AL (cutN lL 6) cL, .slice AB (cutN lB 40) cB, .string (cutS S)]) ∧ Below W.heap.size W W') := fun W => small_any 5 w n m AL lL cL AB lB cB S W ho.hL ho.mL ho.hB ho.mB ho.sm
  unfold opV
  have hba : Below wr.heap.size wr (wr.alloc (.cells #[.int .i64 5, .int .i64 w, .int .i64 n, .int .i64 m, .slice AL lL cL, .slice AB lB cB, .string S] 28)) := (Below.refl _ _).alloc (Nat.le_refl _) _
  have HX := Lib.hid (Box.fresh wr 28 [.int .i64 5, .int .i64 w, .int .i64 n, .int .i64 m, .slice AL lL cL, .slice AB lB cB, .string S])
  have HBA := Lib.hid hba
  have HT0 := Lib.hid h
  have HSZ0 : Hid (W0.heap.size ≤ wr.heap.size) := h.bel.size
  have HMI : Hid (∀ k, Mine g v k → k < wr.heap.size) := fun k hk => (h.st.mine_lt k hk).2
  have HO := Lib.hid ho
  clear h hba ho
  go_enter Try.func11, Try.ntmps11
  go_wp2_with fail
  generalize wr.alloc (.cells #[.int .i64 5, .int .i64 w, .int .i64 n, .int .i64 m, .slice AL lL cL, .slice AB lB cB, .string S] 28) = wq at *
  refine (HSM.out _).mono ?_; rintro e w1 ⟨rfl, hb1⟩
  have HX1 := Lib.hid (HX.out.kept (hb1.block _ HX.out.lt))
  have hbs : Below wr.heap.size wr (w1.setRow wr.heap.size #[.int .i64 5, .int .i64 w, .int .i64 n, .int .i64 m, .slice AL (cutN lL 6) cL, .slice AB (cutN lB 40) cB, .string (cutS S)]) := below_setRow (HBA.out.trans (hb1.mono HBA.out.size)) (Nat.le_refl _) _
  have hxs : Box (w1.setRow wr.heap.size #[.int .i64 5, .int .i64 w, .int .i64 n, .int .i64 m, .slice AL (cutN lL 6) cL, .slice AB (cutN lB 40) cB, .string (cutS S)]) wr.heap.size 28 [.int .i64 5, .int .i64 w, .int .i64 n, .int .i64 m, .slice AL (cutN lL 6) cL, .slice AB (cutN lB 40) cB, .string (cutS S)] := setRow_heap _ _ _ _ _ _ HX1.out
  have HT := Lib.hid (HT0.out.below hbs)
  have hy0 := hxs.cell 0
  have hy1 := hxs.cell 1
  have hy2 := hxs.cell 2
  have hy3 := hxs.cell 3
  have hy4 := hxs.cell 4
  have hy5 := hxs.cell 5
  have hy6 := hxs.cell 6
  simp only [List.getElem?_cons_zero, List.getElem?_cons_succ] at hy0 hy1 hy2 hy3 hy4 hy5 hy6
  have HXS := Lib.hid hxs
  clear hb1 hbs hxs HBA HT0 HX HSM
  go_upto_region 2 with (refine wpList_store_row rfl 28 _ _ rfl wr.heap.size #[.int .i64 5, .int .i64 w, .int .i64 n, .int .i64 m, .slice AL (cutN lL 6) cL, .slice AB (cutN lB 40) cB, .string (cutS S)] rfl rfl 28 _ HX1.out (by kernel_rfl) rfl (by kernel_rfl) ?_)
  generalize w1.setRow wr.heap.size #[.int .i64 5, .int .i64 w, .int .i64 n, .int .i64 m, .slice AL (cutN lL 6) cL, .slice AB (cutN lB 40) cB, .string (cutS S)] = ws at *
  have hlen := HT.out.len
  have hcap := HT.out.cap
  have hcm := HT.out.capm
  unfold maxLen at hcm
  have HAT := Lib.hid (at_any HT.out.st HT.out.b8 n w HT.out.len)
  rcases placeE_cases n w bs.length with ⟨hw, hp⟩ | ⟨hw, hh, hp⟩ | ⟨hw, hh, hp⟩
  · have hv0 : atV bs n w = 0 := by unfold atV; rw [if_neg (by rw [hp]; decide)]
    rw [hp, hv0] at HAT
    clear hp hv0
    go_wp2_with fail
    refine HAT.out.mono ?_; rintro e w2 ⟨rfl, hb2⟩
    have hq1 := (HXS.out.kept (hb2.block _ HXS.out.lt)).cell 1
    simp only [List.getElem?_cons_zero, List.getElem?_cons_succ] at hq1
    have HT2 := Lib.hid (HT.out.below hb2)
    clear hb2
    go_wp2_with fail
    refine (ris2_any _ _).mono ?_; rintro e w' ⟨rfl, rfl⟩
    rw [hw]
    go_wp2_with fail
    go_ret2
    exact Next.mk HT2.out
  · have hv0 : atV bs n w = 0 := by unfold atV; rw [if_neg (by rw [hp]; decide)]
    rw [hp, hv0] at HAT
    clear hp hv0
    go_wp2_with fail
    refine HAT.out.mono ?_; rintro e w2 ⟨rfl, hb2⟩
    have hq1 := (HXS.out.kept (hb2.block _ HXS.out.lt)).cell 1
    have hq2 := (HXS.out.kept (hb2.block _ HXS.out.lt)).cell 2
    simp only [List.getElem?_cons_zero, List.getElem?_cons_succ] at hq1 hq2
    have HT2 := Lib.hid (HT.out.below hb2)
    clear hb2
    go_wp2_with fail
    refine (ris2_any _ _).mono ?_; rintro e w' ⟨rfl, rfl⟩
    rw [hw]
    go_wp2_with fail
    refine (rhas_any A bs.length c n w _ hlen).mono ?_; rintro e w' ⟨rfl, rfl⟩
    rw [hh]
    go_wp2_with fail
    go_ret2
    exact Next.mk HT2.out
  · have ⟨g1, g2, g3⟩ := hasB_is hh
    have h4 := Cq.isW_cases hw
    obtain ⟨y, rfl⟩ := Int.eq_ofNat_of_zero_le g1
    obtain ⟨u, rfl⟩ := Int.eq_ofNat_of_zero_le g2
    have hu : 1 ≤ u ∧ u ≤ 8 := by omega
    have hyu : y + u ≤ bs.length := by omega
    have hv0 : atV bs y u = val (cut bs y u) u := by unfold atV; rw [if_pos hp, Int.toNat_natCast, Int.toNat_natCast]
    rw [hp, hv0] at HAT
    clear hp hv0 h4 g1 g2 g3
    have hcl := cut_length bs y u hyu
    have HCL := Lib.hid hcl
    have hsum : IntKind.i64.wrap ((y : Int) + u) = (y : Int) + u := IntWalk.i64_in _ (by omega)
    clear hcl
    go_wp2_with fail
    refine HAT.out.mono ?_; rintro e w2 ⟨rfl, hb2⟩
    have hq1 := (HXS.out.kept (hb2.block _ HXS.out.lt)).cell 1
    have hq2 := (HXS.out.kept (hb2.block _ HXS.out.lt)).cell 2
    simp only [List.getElem?_cons_zero, List.getElem?_cons_succ] at hq1 hq2
    have ht2 := HT.out.below hb2
    have HT2 := Lib.hid ht2
    obtain ⟨ga, oa, rfl, hga, hcell⟩ := ht2.rd (by omega)
    have hrd : Reads w2 (some ⟨ga, oa + y, none⟩) (cut bs y u) := by
      intro _
      refine ⟨ga, oa + y, rfl, hga, fun i hi => ?_⟩
      rw [HCL.out] at hi
      rw [cut_get bs y u i hi, Nat.add_assoc]
      exact hcell (y + i) (by omega)
    have hnum := rnum_any (some ⟨ga, oa + y, none⟩) (cut bs y u) (c - y) w2 hrd (cut_bytes HT.out.b8 y u) (by rw [HCL.out]; omega)
    rw [HCL.out] at hnum
    have HNUM := Lib.hid hnum
    have hyc : y < c := by omega
    clear hb2 ht2 hga hcell hrd hnum HAT
    go_wp2_with fail
    refine (ris2_any _ _).mono ?_; rintro e w' ⟨rfl, rfl⟩
    rw [hw]
    go_wp2_with fail
    refine (rhas_any _ bs.length c y u _ hlen).mono ?_; rintro e w' ⟨rfl, rfl⟩
    rw [hh]
    go_wp2_with fail
    refine HNUM.out.mono ?_; rintro e w' ⟨rfl, rfl⟩
    go_wp2_with fail
    go_ret2
    exact Next.mk HT2.out
set_option maxHeartbeats 4000000 in
set_option maxRecDepth 100000 in
theorem step_str {W0 wr : World} {g : Nat} {v : Value} {A : Option Addr} {bs : List Int} {c : Nat} (h : Twin W0 wr g v A bs c) (w n m : Int) (AL : Option Addr) (lL cL : Nat) (z : List Int) (AB : Option Addr) (lB cB : Nat) (ys : List Int) (S : ByteArray)
    (ho : OpOk W0 AL lL cL z AB lB cB ys S) :
    Calls Try.prog 11 #[.pointer (some ⟨g, 0, none⟩), .slice A bs.length c, opV 7 w n m (.slice AL lL cL) (.slice AB lB cB) S] wr (Next W0 g) := by
  have HSM : Hid (∀ W, Calls Try.prog 45 #[.agg #[.int .i64 7, .int .i64 w, .int .i64 n, .int .i64 m, .slice AL lL cL, .slice AB lB cB, .string S]] W fun e W' => e = .returned (.agg #[.int .i64 7, .int .i64 w, .int .i64 n, .int .i64 m, .slice AL (cutN lL 6) cL, .slice AB (cutN lB 40) cB, .string (cutS S)]) ∧ Below W.heap.size W W') := fun W => small_any 7 w n m AL lL cL AB lB cB S W ho.hL ho.mL ho.hB ho.mB ho.sm
  unfold opV
  have hba : Below wr.heap.size wr (wr.alloc (.cells #[.int .i64 7, .int .i64 w, .int .i64 n, .int .i64 m, .slice AL lL cL, .slice AB lB cB, .string S] 28)) := (Below.refl _ _).alloc (Nat.le_refl _) _
  have HX := Lib.hid (Box.fresh wr 28 [.int .i64 7, .int .i64 w, .int .i64 n, .int .i64 m, .slice AL lL cL, .slice AB lB cB, .string S])
  have HBA := Lib.hid hba
  have HT0 := Lib.hid h
  have HSZ0 : Hid (W0.heap.size ≤ wr.heap.size) := h.bel.size
  have HMI : Hid (∀ k, Mine g v k → k < wr.heap.size) := fun k hk => (h.st.mine_lt k hk).2
  have HO := Lib.hid ho
  clear h hba ho
  go_enter Try.func11, Try.ntmps11
  go_wp2_with fail
  generalize wr.alloc (.cells #[.int .i64 7, .int .i64 w, .int .i64 n, .int .i64 m, .slice AL lL cL, .slice AB lB cB, .string S] 28) = wq at *
  refine (HSM.out _).mono ?_; rintro e w1 ⟨rfl, hb1⟩
  have HX1 := Lib.hid (HX.out.kept (hb1.block _ HX.out.lt))
  have hbs : Below wr.heap.size wr (w1.setRow wr.heap.size #[.int .i64 7, .int .i64 w, .int .i64 n, .int .i64 m, .slice AL (cutN lL 6) cL, .slice AB (cutN lB 40) cB, .string (cutS S)]) := below_setRow (HBA.out.trans (hb1.mono HBA.out.size)) (Nat.le_refl _) _
  have hxs : Box (w1.setRow wr.heap.size #[.int .i64 7, .int .i64 w, .int .i64 n, .int .i64 m, .slice AL (cutN lL 6) cL, .slice AB (cutN lB 40) cB, .string (cutS S)]) wr.heap.size 28 [.int .i64 7, .int .i64 w, .int .i64 n, .int .i64 m, .slice AL (cutN lL 6) cL, .slice AB (cutN lB 40) cB, .string (cutS S)] := setRow_heap _ _ _ _ _ _ HX1.out
  have HT := Lib.hid (HT0.out.below hbs)
  have hy0 := hxs.cell 0
  have hy1 := hxs.cell 1
  have hy2 := hxs.cell 2
  have hy3 := hxs.cell 3
  have hy4 := hxs.cell 4
  have hy5 := hxs.cell 5
  have hy6 := hxs.cell 6
  simp only [List.getElem?_cons_zero, List.getElem?_cons_succ] at hy0 hy1 hy2 hy3 hy4 hy5 hy6
  have HXS := Lib.hid hxs
  clear hb1 hbs hxs HBA HT0 HX HSM
  go_upto_region 2 with (refine wpList_store_row rfl 28 _ _ rfl wr.heap.size #[.int .i64 7, .int .i64 w, .int .i64 n, .int .i64 m, .slice AL (cutN lL 6) cL, .slice AB (cutN lB 40) cB, .string (cutS S)] rfl rfl 28 _ HX1.out (by kernel_rfl) rfl (by kernel_rfl) ?_)
  generalize w1.setRow wr.heap.size #[.int .i64 7, .int .i64 w, .int .i64 n, .int .i64 m, .slice AL (cutN lL 6) cL, .slice AB (cutN lB 40) cB, .string (cutS S)] = ws at *
  have hlen := HT.out.len
  have hcap := HT.out.cap
  have hcm := HT.out.capm
  unfold maxLen at hcm
  have HS1 := Lib.hid (str_any HT.out.st HT.out.b8 HT.out.len n m)
  have HS2 := Lib.hid (rstr_any A bs c n m ws HT.out.rd (fun e => (HT.out.nil e).1) HT.out.b8 HT.out.len HT.out.cap)
  generalize strS bs n m = s1 at *
  generalize strE bs n m = e1 at *
  go_wp2_with fail
  refine HS1.out.mono ?_; rintro e w' ⟨rfl, rfl⟩
  go_wp2_with fail
  refine HS2.out.mono ?_; rintro e w' ⟨rfl, rfl⟩
  go_wp2_with fail
  go_ret2
  exact Next.mk HT.out
set_option maxHeartbeats 4000000 in
set_option maxRecDepth 100000 in
theorem step_other {W0 wr : World} {g : Nat} {v : Value} {A : Option Addr} {bs : List Int} {c : Nat} (h : Twin W0 wr g v A bs c) (k w n m : Int) (h0 : (k == 0) = false) (h1 : (k == 1) = false) (h2 : (k == 2) = false) (h3 : (k == 3) = false) (h4 : (k == 4) = false) (h5 : (k == 5) = false) (h6 : (k == 6) = false) (h7 : (k == 7) = false) (AL : Option Addr) (lL cL : Nat) (z : List Int) (AB : Option Addr) (lB cB : Nat) (ys : List Int) (S : ByteArray)
    (ho : OpOk W0 AL lL cL z AB lB cB ys S) :
    Calls Try.prog 11 #[.pointer (some ⟨g, 0, none⟩), .slice A bs.length c, opV k w n m (.slice AL lL cL) (.slice AB lB cB) S] wr (Next W0 g) := by
  have HSM : Hid (∀ W, Calls Try.prog 45 #[.agg #[.int .i64 k, .int .i64 w, .int .i64 n, .int .i64 m, .slice AL lL cL, .slice AB lB cB, .string S]] W fun e W' => e = .returned (.agg #[.int .i64 k, .int .i64 w, .int .i64 n, .int .i64 m, .slice AL (cutN lL 6) cL, .slice AB (cutN lB 40) cB, .string (cutS S)]) ∧ Below W.heap.size W W') := fun W => small_any k w n m AL lL cL AB lB cB S W ho.hL ho.mL ho.hB ho.mB ho.sm
  unfold opV
  have hba : Below wr.heap.size wr (wr.alloc (.cells #[.int .i64 k, .int .i64 w, .int .i64 n, .int .i64 m, .slice AL lL cL, .slice AB lB cB, .string S] 28)) := (Below.refl _ _).alloc (Nat.le_refl _) _
  have HX := Lib.hid (Box.fresh wr 28 [.int .i64 k, .int .i64 w, .int .i64 n, .int .i64 m, .slice AL lL cL, .slice AB lB cB, .string S])
  have HBA := Lib.hid hba
  have HT0 := Lib.hid h
  have HSZ0 : Hid (W0.heap.size ≤ wr.heap.size) := h.bel.size
  have HMI : Hid (∀ k, Mine g v k → k < wr.heap.size) := fun k hk => (h.st.mine_lt k hk).2
  have HO := Lib.hid ho
  clear h hba ho
  go_enter Try.func11, Try.ntmps11
  go_wp2_with fail
  generalize wr.alloc (.cells #[.int .i64 k, .int .i64 w, .int .i64 n, .int .i64 m, .slice AL lL cL, .slice AB lB cB, .string S] 28) = wq at *
  refine (HSM.out _).mono ?_; rintro e w1 ⟨rfl, hb1⟩
  have HX1 := Lib.hid (HX.out.kept (hb1.block _ HX.out.lt))
  have hbs : Below wr.heap.size wr (w1.setRow wr.heap.size #[.int .i64 k, .int .i64 w, .int .i64 n, .int .i64 m, .slice AL (cutN lL 6) cL, .slice AB (cutN lB 40) cB, .string (cutS S)]) := below_setRow (HBA.out.trans (hb1.mono HBA.out.size)) (Nat.le_refl _) _
  have hxs : Box (w1.setRow wr.heap.size #[.int .i64 k, .int .i64 w, .int .i64 n, .int .i64 m, .slice AL (cutN lL 6) cL, .slice AB (cutN lB 40) cB, .string (cutS S)]) wr.heap.size 28 [.int .i64 k, .int .i64 w, .int .i64 n, .int .i64 m, .slice AL (cutN lL 6) cL, .slice AB (cutN lB 40) cB, .string (cutS S)] := setRow_heap _ _ _ _ _ _ HX1.out
  have HT := Lib.hid (HT0.out.below hbs)
  have hy0 := hxs.cell 0
  have hy1 := hxs.cell 1
  have hy2 := hxs.cell 2
  have hy3 := hxs.cell 3
  have hy4 := hxs.cell 4
  have hy5 := hxs.cell 5
  have hy6 := hxs.cell 6
  simp only [List.getElem?_cons_zero, List.getElem?_cons_succ] at hy0 hy1 hy2 hy3 hy4 hy5 hy6
  have HXS := Lib.hid hxs
  clear hb1 hbs hxs HBA HT0 HX HSM
  go_upto_region 2 with (refine wpList_store_row rfl 28 _ _ rfl wr.heap.size #[.int .i64 k, .int .i64 w, .int .i64 n, .int .i64 m, .slice AL (cutN lL 6) cL, .slice AB (cutN lB 40) cB, .string (cutS S)] rfl rfl 28 _ HX1.out (by kernel_rfl) rfl (by kernel_rfl) ?_)
  generalize w1.setRow wr.heap.size #[.int .i64 k, .int .i64 w, .int .i64 n, .int .i64 m, .slice AL (cutN lL 6) cL, .slice AB (cutN lB 40) cB, .string (cutS S)] = ws at *
  go_wp2_with fail
  go_ret2
  exact Next.mk HT.out
end Go.Proofs.Ytfcooaafhpoobaa
