/- Walks of layer 2: one call of both, that cuts. -/
import Derived.Test.YtfcooaafhpoobaaRpm
namespace Go.Proofs.Ytfcooaafhpoobaa
open Go.RowKit Rp Go.Maps
open Cq (U64 I64 isW)

set_option maxHeartbeats 4000000 in
set_option maxRecDepth 100000 in
theorem step_cut {W0 wr : World} {g : Nat} {v : Value} {A : Option Addr} {bs : List Int} {c : Nat} (h : Twin W0 wr g v A bs c) (w n m : Int) (AL : Option Addr) (lL cL : Nat) (z : List Int) (AB : Option Addr) (lB cB : Nat) (ys : List Int) (S : ByteArray)
    (ho : OpOk W0 AL lL cL z AB lB cB ys S) :
    Calls Try.prog 11 #[.pointer (some ⟨g, 0, none⟩), .slice A bs.length c, opV 6 w n m (.slice AL lL cL) (.slice AB lB cB) S] wr (Next W0 g) := by
  have HSM : Hid (∀ W, Calls Try.prog 45 #[.agg #[.int .i64 6, .int .i64 w, .int .i64 n, .int .i64 m, .slice AL lL cL, .slice AB lB cB, .string S]] W fun e W' => e = .returned (.agg #[.int .i64 6, .int .i64 w, .int .i64 n, .int .i64 m, .slice AL (cutN lL 6) cL, .slice AB (cutN lB 40) cB, .string (cutS S)]) ∧ Below W.heap.size W W') := fun W => small_any 6 w n m AL lL cL AB lB cB S W ho.hL ho.mL ho.hB ho.mB ho.sm
  unfold opV
  have hba : Below wr.heap.size wr (wr.alloc (.cells #[.int .i64 6, .int .i64 w, .int .i64 n, .int .i64 m, .slice AL lL cL, .slice AB lB cB, .string S] 28)) := (Below.refl _ _).alloc (Nat.le_refl _) _
  have HX := Lib.hid (Box.fresh wr 28 [.int .i64 6, .int .i64 w, .int .i64 n, .int .i64 m, .slice AL lL cL, .slice AB lB cB, .string S])
  have HBA := Lib.hid hba
  have HT0 := Lib.hid h
  have HSZ0 : Hid (W0.heap.size ≤ wr.heap.size) := h.bel.size
  have HMI : Hid (∀ k, Mine g v k → k < wr.heap.size) := fun k hk => (h.st.mine_lt k hk).2
  have HO := Lib.hid ho
  clear h hba ho
  go_enter Try.func11, Try.ntmps11
  go_wp2_with fail
  generalize wr.alloc (.cells #[.int .i64 6, .int .i64 w, .int .i64 n, .int .i64 m, .slice AL lL cL, .slice AB lB cB, .string S] 28) = wq at *
  refine (HSM.out _).mono ?_; rintro e w1 ⟨rfl, hb1⟩
  have HX1 := Lib.hid (HX.out.kept (hb1.block _ HX.out.lt))
  have hbs : Below wr.heap.size wr (w1.setRow wr.heap.size #[.int .i64 6, .int .i64 w, .int .i64 n, .int .i64 m, .slice AL (cutN lL 6) cL, .slice AB (cutN lB 40) cB, .string (cutS S)]) := below_setRow (HBA.out.trans (hb1.mono HBA.out.size)) (Nat.le_refl _) _
  have hxs : Box (w1.setRow wr.heap.size #[.int .i64 6, .int .i64 w, .int .i64 n, .int .i64 m, .slice AL (cutN lL 6) cL, .slice AB (cutN lB 40) cB, .string (cutS S)]) wr.heap.size 28 [.int .i64 6, .int .i64 w, .int .i64 n, .int .i64 m, .slice AL (cutN lL 6) cL, .slice AB (cutN lB 40) cB, .string (cutS S)] := setRow_heap _ _ _ _ _ _ HX1.out
  have HT := Lib.hid (HT0.out.below hbs)
  have hy0 := hxs.cell 0
  have hy1 := hxs.cell 1
  have hy2 := hxs.cell 2
  have hy3 := hxs.cell 3
  have hy4 := hxs.cell 4
  have hy5 := hxs.cell 5
  have hy6 := hxs.cell 6
  simp only [List.getElem?_cons_zero, List.getElem?_cons_succ] at hy0 hy1 hy2 hy3 hy4 hy5 hy6
  have HXS := Lib.hid hxs
  clear hb1 hbs hxs HBA HT0 HX HSM
  go_upto_region 2 with (refine wpList_store_row rfl 28 _ _ rfl wr.heap.size #[.int .i64 6, .int .i64 w, .int .i64 n, .int .i64 m, .slice AL (cutN lL 6) cL, .slice AB (cutN lB 40) cB, .string (cutS S)] rfl rfl 28 _ HX1.out (by kernel_rfl) rfl (by kernel_rfl) ?_)
  generalize w1.setRow wr.heap.size #[.int .i64 6, .int .i64 w, .int .i64 n, .int .i64 m, .slice AL (cutN lL 6) cL, .slice AB (cutN lB 40) cB, .string (cutS S)] = ws at *
  have hlen := HT.out.len
  have hcap := HT.out.cap
  have hcm := HT.out.capm
  unfold maxLen at hcm
  cases hh : hasB n m bs.length
  · obtain ⟨A1, c1, hv1, _, _⟩ := own_form HT.out.st.own
    have hc1 : ws.cell? ⟨g, 0, none⟩ = some (.slice A1 bs.length c1) := by
      have := HT.out.st.box.cell 0; rw [hv1] at this; simpa using this
    have HC := Lib.hid (cut_no ws g A1 bs.length c1 hc1 hlen n m hh)
    clear hc1 hv1
    go_wp2_with fail
    refine HC.out.mono ?_; rintro e w' ⟨rfl, rfl⟩
    go_wp2_with fail
    refine (rhas_any A bs.length c n m _ hlen).mono ?_; rintro e w' ⟨rfl, rfl⟩
    rw [hh]
    go_wp2_with fail
    go_ret2
    exact Next.mk HT.out
  · have ⟨g1, g2, g3⟩ := hasB_is hh
    obtain ⟨y, rfl⟩ := Int.eq_ofNat_of_zero_le g1
    obtain ⟨q, rfl⟩ := Int.eq_ofNat_of_zero_le g2
    have hyq : y + q ≤ bs.length := by omega
    have HC := Lib.hid (cut_ok W0.heap.size ws g _ [] v bs HT.out.st hlen y q hyq)
    have hcl := cut_length bs y q hyq
    have HCL := Lib.hid hcl
    have hsum : IntKind.i64.wrap ((y : Int) + q) = (y : Int) + q := IntWalk.i64_in _ (by omega)
    clear g1 g2 g3 hcl
    go_wp2_with fail
    refine HC.out.mono ?_; rintro e w2 ⟨_, rfl, gu, rfl, hgu, hbu, hb2⟩
    have hxk := HXS.out.kept (hb2.block _ HXS.out.lt)
    have hq2 := hxk.cell 2
    have hq3 := hxk.cell 3
    simp only [List.getElem?_cons_zero, List.getElem?_cons_succ] at hq2 hq3
    have ht2 := HT.out.below hb2
    have HT2 := Lib.hid ht2
    have hpr := partAt_reads ht2.rd (fun e => (ht2.nil e).1) y q c hyq hcap
    have hsl := slice_lh A bs.length c y q (by omega)
    have hru : Reads w2 (some ⟨gu, 0, none⟩) (cut bs y q) := Box.reads hbu
    have hcv1 : ∀ wd : World, (∃ nd, wd = w2.drewN nd) → (convert 22 9 (.slice (some ⟨gu, 0, none⟩) q q)).run Try.prog wd = .ok (.string (strOf (cut bs y q))) wd := by
      rintro wd ⟨nd, rfl⟩
      have := conv_reads (W := w2.drewN nd) (hru.chg ((Chg.refl (fun _ => False) w2).drewN nd) (fun _ _ a => a)) (fun e => by cases e) q
      rw [HCL.out] at this
      exact this
    have hcv2 : ∀ wd : World, (∃ nd, wd = w2.drewN nd) → (convert 22 9 (.slice (partAt A y c) q (c - y))).run Try.prog wd = .ok (.string (strOf (cut bs y q))) wd := by
      rintro wd ⟨nd, rfl⟩
      have := conv_reads (W := w2.drewN nd) (hpr.1.chg ((Chg.refl (fun _ => False) w2).drewN nd) (fun _ _ a => a)) hpr.2 (c - y)
      rw [HCL.out] at this
      exact this
    have hd1 := hcv1 w2.drew ⟨1, rfl⟩
    have hd2 := hcv2 w2.drew ⟨1, rfl⟩
    rw [HCL.out]
    clear hgu hbu hb2 hxk ht2 hpr hru HC hcv1 hcv2
    go_wp2_with fail
    refine (rhas_any _ bs.length c y q _ hlen).mono ?_; rintro e w' ⟨rfl, rfl⟩
    rw [hh]
    go_wp2_with fail
    go_region
    all_goals
      go_wp2_with fail
      go_ret2
      exact Next.mk (HT2.out.below ((Below.refl _ _).drew))
theorem step_any {W0 wr : World} {g : Nat} {v : Value} {A : Option Addr} {bs : List Int} {c : Nat} (h : Twin W0 wr g v A bs c) (k w n m : Int) (AL : Option Addr) (lL cL : Nat) (z : List Int) (AB : Option Addr) (lB cB : Nat) (ys : List Int) (S : ByteArray)
    (ho : OpOk W0 AL lL cL z AB lB cB ys S) :
    Calls Try.prog 11 #[.pointer (some ⟨g, 0, none⟩), .slice A bs.length c, opV k w n m (.slice AL lL cL) (.slice AB lB cB) S] wr (Next W0 g) := by
  by_cases h0 : k = 0
  · subst h0; exact step_num h w n m AL lL cL z AB lB cB ys S ho
  by_cases h1 : k = 1
  · subst h1; exact step_raw h w n m AL lL cL z AB lB cB ys S ho
  by_cases h2 : k = 2
  · subst h2; exact step_text h w n m AL lL cL z AB lB cB ys S ho
  by_cases h3 : k = 3
  · subst h3; exact step_pad h w n m AL lL cL z AB lB cB ys S ho
  by_cases h4 : k = 4
  · subst h4; exact step_set h w n m AL lL cL z AB lB cB ys S ho
  by_cases h5 : k = 5
  · subst h5; exact step_at h w n m AL lL cL z AB lB cB ys S ho
  by_cases h6 : k = 6
  · subst h6; exact step_cut h w n m AL lL cL z AB lB cB ys S ho
  by_cases h7 : k = 7
  · subst h7; exact step_str h w n m AL lL cL z AB lB cB ys S ho
  exact step_other h k w n m (by simpa using h0) (by simpa using h1) (by simpa using h2) (by simpa using h3) (by simpa using h4) (by simpa using h5) (by simpa using h6) (by simpa using h7) AL lL cL z AB lB cB ys S ho
end Go.Proofs.Ytfcooaafhpoobaa
