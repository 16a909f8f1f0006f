/- Walks of layer 2: one call of both, that puts a number in place. -/
import Derived.Test.YtfcooaafhpoobaaRpk
import Derived.Deep.DeepCutAuto
namespace Go.Proofs.Ytfcooaafhpoobaa
open Go.RowKit Rp Go.Maps
open Cq (U64 I64 isW)

def SetTo (W0 W W' : World) (g : Nat) (v : Value) (bs : List Int) (a w x : Int) (e : Ending) : Prop :=
  (isW w = false ∧ e = .returned (.int .i64 2) ∧ W = W') ∨ (isW w = true ∧ hasB a w bs.length = false ∧ e = .returned (.int .i64 7) ∧ W = W') ∨
    ∃ y u : Nat, a = y ∧ w = u ∧ isW w = true ∧ hasB a w bs.length = true ∧ 1 ≤ u ∧ u ≤ 8 ∧ y + u ≤ bs.length ∧ e = .returned (.int .i64 0) ∧ Grew W0.heap.size 5 W W' g 98 [] v (setB bs y u x)
theorem set_all {W0 W : World} {g : Nat} {v : Value} {A : Option Addr} {bs : List Int} {c : Nat} (h : Twin W0 W g v A bs c) (a w x : Int) (hx : U64 x) :
    Calls Try.prog 47 #[.pointer (some ⟨g, 0, none⟩), .int .i64 a, .int .i64 w, .int .u64 x] W fun e W' => SetTo W0 W W' g v bs a w x e := by
  rcases placeE_cases a w bs.length with ⟨h1, h2⟩ | ⟨h1, h2, h3⟩ | ⟨h1, h2, h3⟩
  · refine (set_any W0.heap.size W g _ [] v bs h.st h.len a w x (by rw [h2]; decide)).mono ?_
    rintro e W' ⟨e1, e2⟩
    rw [h2] at e1
    exact .inl ⟨h1, e1, e2⟩
  · refine (set_any W0.heap.size W g _ [] v bs h.st h.len a w x (by rw [h3]; decide)).mono ?_
    rintro e W' ⟨e1, e2⟩
    rw [h3] at e1
    exact .inr (.inl ⟨h1, h2, e1, e2⟩)
  · have ⟨g1, g2, g3⟩ := hasB_is h2
    have h4 := Cq.isW_cases h1
    obtain ⟨y, rfl⟩ := Int.eq_ofNat_of_zero_le g1
    obtain ⟨u, rfl⟩ := Int.eq_ofNat_of_zero_le g2
    refine (set_ok W0.heap.size W g _ [] v bs h.st h.len y u (by omega) (by omega) h3 x hx).mono ?_
    rintro e W' ⟨e1, e2⟩
    exact .inr (.inr ⟨y, u, rfl, rfl, h1, h2, by omega, by omega, by omega, e1, e2⟩)
theorem setB_bytes {bs : List Int} (h8 : Bytes8 bs) (y u : Nat) (x : Int) : Bytes8 (setB bs y u x) := by
  unfold setB
  exact bytes_append (fun z hz => h8 z (List.mem_of_mem_take hz)) (bytes_append (low_bytes u x) (fun z hz => h8 z (List.mem_of_mem_drop hz)))
set_option maxHeartbeats 4000000 in
set_option maxRecDepth 100000 in
theorem step_set {W0 wr : World} {g : Nat} {v : Value} {A : Option Addr} {bs : List Int} {c : Nat} (h : Twin W0 wr g v A bs c) (w n m : Int) (AL : Option Addr) (lL cL : Nat) (z : List Int) (AB : Option Addr) (lB cB : Nat) (ys : List Int) (S : ByteArray)
    (ho : OpOk W0 AL lL cL z AB lB cB ys S) :
    Calls Try.prog 11 #[.pointer (some ⟨g, 0, none⟩), .slice A bs.length c, opV 4 w n m (.slice AL lL cL) (.slice AB lB cB) S] wr (Next W0 g) := by
  have HSM : Hid (∀ W, Calls Try.prog 45 #[.agg #[.int .i64 4, .int .i64 w, .int .i64 n, .int .i64 m, .slice AL lL cL, .slice AB lB cB, .string S]] W fun e W' => e = .returned (.agg #[.int .i64 4, .int .i64 w, .int .i64 n, .int .i64 m, .slice AL (cutN lL 6) cL, .slice AB (cutN lB 40) cB, .string (cutS S)]) ∧ Below W.heap.size W W') := fun W => small_any 4 w n m AL lL cL AB lB cB S W ho.hL ho.mL ho.hB ho.mB ho.sm
  unfold opV
  have hba : Below wr.heap.size wr (wr.alloc (.cells #[.int .i64 4, .int .i64 w, .int .i64 n, .int .i64 m, .slice AL lL cL, .slice AB lB cB, .string S] 28)) := (Below.refl _ _).alloc (Nat.le_refl _) _
  have HX := Lib.hid (Box.fresh wr 28 [.int .i64 4, .int .i64 w, .int .i64 n, .int .i64 m, .slice AL lL cL, .slice AB lB cB, .string S])
  have HBA := Lib.hid hba
  have HT0 := Lib.hid h
  have HSZ0 : Hid (W0.heap.size ≤ wr.heap.size) := h.bel.size
  have HMI : Hid (∀ k, Mine g v k → k < wr.heap.size) := fun k hk => (h.st.mine_lt k hk).2
  have HO := Lib.hid ho
  clear h hba ho
  go_enter Try.func11, Try.ntmps11
  go_wp2_with fail
  generalize wr.alloc (.cells #[.int .i64 4, .int .i64 w, .int .i64 n, .int .i64 m, .slice AL lL cL, .slice AB lB cB, .string S] 28) = wq at *
  refine (HSM.out _).mono ?_; rintro e w1 ⟨rfl, hb1⟩
  have HX1 := Lib.hid (HX.out.kept (hb1.block _ HX.out.lt))
  have hbs : Below wr.heap.size wr (w1.setRow wr.heap.size #[.int .i64 4, .int .i64 w, .int .i64 n, .int .i64 m, .slice AL (cutN lL 6) cL, .slice AB (cutN lB 40) cB, .string (cutS S)]) := below_setRow (HBA.out.trans (hb1.mono HBA.out.size)) (Nat.le_refl _) _
  have hxs : Box (w1.setRow wr.heap.size #[.int .i64 4, .int .i64 w, .int .i64 n, .int .i64 m, .slice AL (cutN lL 6) cL, .slice AB (cutN lB 40) cB, .string (cutS S)]) wr.heap.size 28 [.int .i64 4, .int .i64 w, .int .i64 n, .int .i64 m, .slice AL (cutN lL 6) cL, .slice AB (cutN lB 40) cB, .string (cutS S)] := setRow_heap _ _ _ _ _ _ HX1.out
  have HT := Lib.hid (HT0.out.below hbs)
  have hy0 := hxs.cell 0
  have hy1 := hxs.cell 1
  have hy2 := hxs.cell 2
  have hy3 := hxs.cell 3
  have hy4 := hxs.cell 4
  have hy5 := hxs.cell 5
  have hy6 := hxs.cell 6
  simp only [List.getElem?_cons_zero, List.getElem?_cons_succ] at hy0 hy1 hy2 hy3 hy4 hy5 hy6
  have HXS := Lib.hid hxs
  clear hb1 hbs hxs HBA HT0 HX HSM
  go_upto_region 2 with (refine wpList_store_row rfl 28 _ _ rfl wr.heap.size #[.int .i64 4, .int .i64 w, .int .i64 n, .int .i64 m, .slice AL (cutN lL 6) cL, .slice AB (cutN lB 40) cB, .string (cutS S)] rfl rfl 28 _ HX1.out (by kernel_rfl) rfl (by kernel_rfl) ?_)
  generalize w1.setRow wr.heap.size #[.int .i64 4, .int .i64 w, .int .i64 n, .int .i64 m, .slice AL (cutN lL 6) cL, .slice AB (cutN lB 40) cB, .string (cutS S)] = ws at *
  obtain ⟨x, hx, hxl⟩ : ∃ x, U64 x ∧ ((cutN lL 6 = 0 ∧ x = 0) ∨ (0 < cutN lL 6 ∧ ∃ b off, AL = some ⟨b, off, none⟩ ∧ ws.cell? ⟨b, off, none⟩ = some (.int .u64 x))) := by
    have h1 := cutN_le lL 6
    by_cases h0 : cutN lL 6 = 0
    · exact ⟨0, by simp [U64], .inl ⟨h0, rfl⟩⟩
    · obtain ⟨b, off, e, hb, hw⟩ := (HO.out.ws.below HT.out.bel (Nat.le_refl _)) (by omega)
      exact ⟨_, zget HO.out.zu 0, .inr ⟨by omega, b, off, e, hw 0 (by omega)⟩⟩
  have HXL := Lib.hid hxl
  have HNM : Hid (¬ Mine g v wr.heap.size) := fun hm => by have := HMI.out _ hm; omega
  have HSET := Lib.hid (set_all HT.out n w x hx)
  have hlen := HT.out.len
  clear hxl
  go_upto_if 39 with fail
  go_cut [8] (fun u wx => u = .int .u64 x ∧ ws = wx)
  case first =>
    rcases HXL.out with ⟨h0, rfl⟩ | ⟨h0, b0, off0, rfl, hc0⟩
    · go_wp2_with fail
      go_meet
      exact ⟨rfl, rfl⟩
    · go_wp2_with fail
      go_meet
      exact ⟨rfl, rfl⟩
  case rest =>
    obtain ⟨rfl, rfl⟩ := hcut
    clear HXL
    go_wp2_with fail
    refine HSET.out.mono ?_
    rintro e w2 (⟨hw, rfl, rfl⟩ | ⟨hw, hh, rfl, rfl⟩ | ⟨y, u, rfl, rfl, hw, hh, hu1, hu8, hyu, rfl, hg⟩)
    · go_wp2_with fail
      refine (ris2_any _ _).mono ?_; rintro e w' ⟨rfl, rfl⟩
      rw [hw]
      go_wp2_with fail
      go_ret2
      exact Next.mk HT.out
    · go_wp2_with fail
      refine (ris2_any _ _).mono ?_; rintro e w' ⟨rfl, rfl⟩
      rw [hw]
      go_wp2_with fail
      refine (rhas_any A bs.length c n w _ hlen).mono ?_; rintro e w' ⟨rfl, rfl⟩
      rw [hh]
      go_wp2_with fail
      go_ret2
      exact Next.mk HT.out
    · have hg2 := hg
      obtain ⟨v1, st1, ch1, _⟩ := hg2
      have hx2 := HXS.out.chg ch1 HNM.out
      have hrd2 : Reads w2 A bs := HT.out.rd.chgp ch1 (fun a ha h0 => (HT.out.apart a ha h0).1)
      have hsz2 := ch1.size
      obtain ⟨ga, oa, rfl, hga, hcell⟩ := hrd2 (by omega)
      have hgab : ga < w2.heap.size := hga
      have hcap := HT.out.cap
      have hcm := HT.out.capm
      have HG := Lib.hid hg
      have HX2 := Lib.hid hx2
      have HRD2 := Lib.hid hrd2
      have hq1 := hx2.cell 1
      have hq2 := hx2.cell 2
      simp only [List.getElem?_cons_zero, List.getElem?_cons_succ] at hq1 hq2
      have hlo : wr.heap.size < w2.heap.size := hx2.lt
      have hal : Below w2.heap.size w2 (w2.alloc (.cells #[] 5)) := (Below.refl _ _).alloc (Nat.le_refl _) _
      have HAL := Lib.hid hal
      have hals : w2.heap.size ≤ (w2.alloc (.cells #[] 5)).heap.size := hal.size
      have HO2 := Lib.hid (own_none w2 w2.heap.size (Nat.le_refl _))
      have htk : (bs.take y).length = y := by rw [List.length_take]; omega
      have HTK := Lib.hid htk
      have HRT := Lib.hid (reads_below (reads_take hrd2 y) hal (Nat.le_refl _))
      unfold maxLen at hcm
      clear st1 ch1 hx2 hrd2 hcell hga hal htk HSET hg
      go_wp2_with fail
      refine (ris2_any _ _).mono ?_; rintro e w' ⟨rfl, rfl⟩
      rw [hw]
      go_wp2_with fail
      refine (rhas_any _ bs.length c y u _ hlen).mono ?_; rintro e w' ⟨rfl, rfl⟩
      rw [hh]
      go_wp2_with (at_builtin; refine wpList_append_src rfl _ _ rfl w2.heap.size _ 0 [] rfl HO2.out (some ⟨ga, oa, none⟩) y c (bs.take y) rfl ?c1 HRT.out ?c0 ?c2 ?c3 ?_)
      case c1 => exact HTK.out
      case c0 => intro e; cases e
      case c2 => omega
      case c3 => exact hals
      intro v3 w3 hown3 hgr3 hat3
      have hb3 : Below w2.heap.size w2 w3 := HAL.out.grown hgr3 hals (fun k hk => by simp [Value.ownBlock] at hk; omega)
      have HB3 := Lib.hid hb3
      have HOWN3 := Lib.hid hown3
      have hX3 := HX2.out.kept (hb3.block _ hlo)
      have HX3 := Lib.hid hX3
      have hq1 := hX3.cell 1
      simp only [List.getElem?_cons_zero, List.getElem?_cons_succ] at hq1
      have hsz3 := hb3.size
      clear hb3 hown3 hgr3 hat3 hX3 HO2 HRT HAL HX3
      go_wp2_with fail
      refine (rbytes_any u hu8 x hx _).mono ?_
      rintro e w4 ⟨vl, rfl, hown4, hb4⟩
      obtain ⟨A4, c4, rfl, _, hrd4, hnil4, _, _, _⟩ := own_slice hown4
      rw [low_length] at *
      have HO4 := Lib.hid (own_below HOWN3.out hb4)
      have HB4 := Lib.hid (HB3.out.trans (hb4.mono hsz3))
      have hsz4 := hb4.size
      have HRD4 := Lib.hid hrd4
      have HNIL4 : Hid (A4 = none → c4 = 0 ∧ u = 0) := fun e => ⟨(hnil4 e).2, by have := low_length u x; rw [(hnil4 e).1] at this; simpa using this.symm⟩
      clear hown4 hb4 hrd4 hnil4 HOWN3 HB3
      go_wp2_with (at_builtin; refine wpList_append_src rfl _ _ rfl w2.heap.size _ y (bs.take y) rfl HO4.out A4 u c4 (low u x) rfl ?c1 HRD4.out HNIL4.out ?c2 ?c3 ?_)
      case c1 => exact low_length u x
      case c2 => omega
      case c3 => omega
      intro v5 w5 hown5 hgr5 hat5
      have hb5 : Below w2.heap.size w2 w5 := HB4.out.grown hgr5 (by omega) (fun k hk => (HO4.out.lt k hk).1)
      have hX5 := HX2.out.kept (hb5.block _ hlo)
      have HB5 := Lib.hid hb5
      have HOWN5 := Lib.hid hown5
      have hq1 := hX5.cell 1
      have hq2 := hX5.cell 2
      simp only [List.getElem?_cons_zero, List.getElem?_cons_succ] at hq1 hq2
      have hsz5 := hb5.size
      have hrd5 := reads_below HRD2.out hb5 (Nat.le_refl _)
      obtain ⟨z6, hz6⟩ : ∃ z6 : List Int, z6 = bs.drop (y + u) := ⟨_, rfl⟩
      have hl6 : z6.length = bs.length - (y + u) := by rw [hz6, List.length_drop]
      have hrd6 : ∀ o, (bs.length - (y + u) = 0 ∨ o = oa + (y + u)) → Reads w5 (some ⟨ga, o, none⟩) z6 := by
        intro o ho hp
        rw [hl6] at hp
        obtain ⟨g', o', e, hg', hc⟩ := hrd5 (by omega)
        injection e with e
        injection e with e1 e2
        subst e1 e2
        refine ⟨ga, o, rfl, hg', fun i hi => ?_⟩
        rw [hl6] at hi
        have ho2 : o = oa + (y + u) := by omega
        rw [ho2, hz6, List.getD_eq_getElem?_getD, List.getElem?_drop, Nat.add_assoc, ← List.getD_eq_getElem?_getD]
        exact hc (y + u + i) (by omega)
      have HRD6 := Lib.hid hrd6
      have HL6 := Lib.hid hl6
      have hsetB : bs.take y ++ (low u x ++ z6) = setB bs y u x := by rw [hz6]; rfl
      have HSB := Lib.hid hsetB
      have hsbl := setB_length bs y u x hyu
      have HSBL := Lib.hid hsbl
      clear hX5 hown5 hgr5 hat5 hb5 hrd5 hz6 hl6 hrd6 hsetB hsbl HO4 HRD4 HB4
      have hsum : IntKind.i64.wrap ((y : Int) + u) = (y : Int) + u := IntWalk.i64_in _ (by omega)
      generalize hbl : bs.length = L at *
      have HBL := Lib.hid hbl
      clear hbl
      by_cases hcc : c = y + u
      · have hl0 : L - (y + u) = 0 := by omega
        have HL0 := Lib.hid hl0
        clear hl0
        go_wp2_with (at_builtin; refine wpList_append_src rfl _ _ rfl w2.heap.size _ (y + u) (bs.take y ++ low u x) rfl HOWN5.out (some ⟨ga, _, none⟩) (L - (y + u)) _ z6 rfl ?c1 ?c4 ?c0 ?c2 ?c3 ?_)
        case c1 => exact HL6.out
        case c4 => exact HRD6.out _ (.inl HL0.out)
        case c0 => intro e; cases e
        case c2 => omega
        case c3 => exact hsz5
        intro v7 w7 hown7 hgr7 hat7
        have hb7 : Below w2.heap.size w2 w7 := HB5.out.grown hgr7 hsz5 (fun k hk => (HOWN5.out.lt k hk).1)
        rw [HSB.out] at hown7
        obtain ⟨A8, c8, rfl, v8, ht8⟩ := HT.out.next HG.out (Below.refl _ _) hown7 hb7 (setB_bytes HT.out.b8 y u x) (by rw [HSBL.out]; omega)
        have HT8 := Lib.hid ht8
        clear hown7 hgr7 hat7 hb7 ht8 hsum
        generalize setB bs y u x = bs8 at *
        go_wp2_with fail
        go_ret2
        exact Next.mk HT8.out
      · have hlt : y + u < c := by omega
        clear hcc
        go_wp2_with (at_builtin; refine wpList_append_src rfl _ _ rfl w2.heap.size _ (y + u) (bs.take y ++ low u x) rfl HOWN5.out (some ⟨ga, _, none⟩) (L - (y + u)) _ z6 rfl ?c1 ?c4 ?c0 ?c2 ?c3 ?_)
        case c1 => exact HL6.out
        case c4 => exact HRD6.out _ (.inr rfl)
        case c0 => intro e; cases e
        case c2 => omega
        case c3 => exact hsz5
        intro v7 w7 hown7 hgr7 hat7
        have hb7 : Below w2.heap.size w2 w7 := HB5.out.grown hgr7 hsz5 (fun k hk => (HOWN5.out.lt k hk).1)
        rw [HSB.out] at hown7
        obtain ⟨A8, c8, rfl, v8, ht8⟩ := HT.out.next HG.out (Below.refl _ _) hown7 hb7 (setB_bytes HT.out.b8 y u x) (by rw [HSBL.out]; omega)
        have HT8 := Lib.hid ht8
        clear hown7 hgr7 hat7 hb7 ht8 hsum
        generalize setB bs y u x = bs8 at *
        go_wp2_with fail
        go_ret2
        exact Next.mk HT8.out
end Go.Proofs.Ytfcooaafhpoobaa
