/- Walks of layer 2: one call of both. -/
import Derived.Test.YtfcooaafhpoobaaRpj
namespace Go.Proofs.Ytfcooaafhpoobaa
open Go.RowKit Rp Go.Maps
open Cq (U64 I64 isW)

/-- what a call's slices and its text are -/
structure OpOk (W0 : World) (AL : Option Addr) (lL cL : Nat) (z : List Int) (AB : Option Addr) (lB cB : Nat) (ys : List Int) (S : ByteArray) : Prop where
  hL : lL ≤ cL
  mL : cL ≤ maxLen
  zl : z.length = lL
  zu : ∀ x ∈ z, U64 x
  ws : WordsIn W0 AL lL z
  hB : lB ≤ cB
  mB : cB ≤ maxLen
  yl : ys.length = lB
  yb : Bytes8 ys
  rd : Reads W0 AB ys
  nilB : AB = none → lB = 0 ∧ cB = 0
  sm : S.size ≤ maxLen
theorem OpOk.z6 {W0 : World} {AL : Option Addr} {lL cL : Nat} {z : List Int} {AB : Option Addr} {lB cB : Nat} {ys : List Int} {S : ByteArray} (h : OpOk W0 AL lL cL z AB lB cB ys S) :
    (z.take (cutN lL 6)).length = cutN lL 6 ∧ (∀ x ∈ z.take (cutN lL 6), U64 x) ∧ WordsIn W0 AL (cutN lL 6) (z.take (cutN lL 6)) := by
  have h1 := cutN_le lL 6
  have hz := h.zl
  refine ⟨by rw [List.length_take]; omega, fun x hx => h.zu x (List.mem_of_mem_take hx), fun hp => ?_⟩
  obtain ⟨b, off, e, hb, hw⟩ := h.ws (by omega)
  refine ⟨b, off, e, hb, fun i hi => ?_⟩
  rw [hw i (by omega), List.getD_eq_getElem?_getD, List.getD_eq_getElem?_getD, List.getElem?_take_of_lt hi]
theorem OpOk.y40 {W0 : World} {AL : Option Addr} {lL cL : Nat} {z : List Int} {AB : Option Addr} {lB cB : Nat} {ys : List Int} {S : ByteArray} (h : OpOk W0 AL lL cL z AB lB cB ys S) :
    (ys.take (cutN lB 40)).length = cutN lB 40 ∧ Bytes8 (ys.take (cutN lB 40)) ∧ Reads W0 AB (ys.take (cutN lB 40)) ∧ (AB = none → cutN lB 40 = 0 ∧ cB = 0) := by
  have h1 := cutN_le lB 40
  have hy := h.yl
  refine ⟨by rw [List.length_take]; omega, fun x hx => h.yb x (List.mem_of_mem_take hx), reads_take h.rd _, fun e => ?_⟩
  have := h.nilB e
  exact ⟨by omega, this.2⟩
set_option maxHeartbeats 4000000 in
set_option maxRecDepth 100000 in
theorem step_num {W0 wr : World} {g : Nat} {v : Value} {A : Option Addr} {bs : List Int} {c : Nat} (h : Twin W0 wr g v A bs c) (w n m : Int) (AL : Option Addr) (lL cL : Nat) (z : List Int) (AB : Option Addr) (lB cB : Nat) (ys : List Int) (S : ByteArray)
    (ho : OpOk W0 AL lL cL z AB lB cB ys S) :
    Calls Try.prog 11 #[.pointer (some ⟨g, 0, none⟩), .slice A bs.length c, opV 0 w n m (.slice AL lL cL) (.slice AB lB cB) S] wr (Next W0 g) := by
  have HSM : Hid (∀ W, Calls Try.prog 45 #[.agg #[.int .i64 0, .int .i64 w, .int .i64 n, .int .i64 m, .slice AL lL cL, .slice AB lB cB, .string S]] W fun e W' => e = .returned (.agg #[.int .i64 0, .int .i64 w, .int .i64 n, .int .i64 m, .slice AL (cutN lL 6) cL, .slice AB (cutN lB 40) cB, .string (cutS S)]) ∧ Below W.heap.size W W') := fun W => small_any 0 w n m AL lL cL AB lB cB S W ho.hL ho.mL ho.hB ho.mB ho.sm
  unfold opV
  have hba : Below wr.heap.size wr (wr.alloc (.cells #[.int .i64 0, .int .i64 w, .int .i64 n, .int .i64 m, .slice AL lL cL, .slice AB lB cB, .string S] 28)) := (Below.refl _ _).alloc (Nat.le_refl _) _
  have HX := Lib.hid (Box.fresh wr 28 [.int .i64 0, .int .i64 w, .int .i64 n, .int .i64 m, .slice AL lL cL, .slice AB lB cB, .string S])
  have HBA := Lib.hid hba
  have HT0 := Lib.hid h
  have HO := Lib.hid ho
  clear h hba ho
  go_enter Try.func11, Try.ntmps11
  go_wp2_with fail
  generalize wr.alloc (.cells #[.int .i64 0, .int .i64 w, .int .i64 n, .int .i64 m, .slice AL lL cL, .slice AB lB cB, .string S] 28) = wq at *
  refine (HSM.out _).mono ?_; rintro e w1 ⟨rfl, hb1⟩
  have HX1 := Lib.hid (HX.out.kept (hb1.block _ HX.out.lt))
  have hbs : Below wr.heap.size wr (w1.setRow wr.heap.size #[.int .i64 0, .int .i64 w, .int .i64 n, .int .i64 m, .slice AL (cutN lL 6) cL, .slice AB (cutN lB 40) cB, .string (cutS S)]) := below_setRow (HBA.out.trans (hb1.mono HBA.out.size)) (Nat.le_refl _) _
  have hxs : Box (w1.setRow wr.heap.size #[.int .i64 0, .int .i64 w, .int .i64 n, .int .i64 m, .slice AL (cutN lL 6) cL, .slice AB (cutN lB 40) cB, .string (cutS S)]) wr.heap.size 28 [.int .i64 0, .int .i64 w, .int .i64 n, .int .i64 m, .slice AL (cutN lL 6) cL, .slice AB (cutN lB 40) cB, .string (cutS S)] := setRow_heap _ _ _ _ _ _ HX1.out
  have HT := Lib.hid (HT0.out.below hbs)
  have hy0 := hxs.cell 0
  have hy1 := hxs.cell 1
  have hy2 := hxs.cell 2
  have hy3 := hxs.cell 3
  have hy4 := hxs.cell 4
  have hy5 := hxs.cell 5
  have hy6 := hxs.cell 6
  simp only [List.getElem?_cons_zero, List.getElem?_cons_succ] at hy0 hy1 hy2 hy3 hy4 hy5 hy6
  have HXS := Lib.hid hxs
  clear hb1 hbs hxs HBA HT0 HX HSM
  go_wp2_with (refine wpList_store_row rfl 28 _ _ rfl wr.heap.size #[.int .i64 0, .int .i64 w, .int .i64 n, .int .i64 m, .slice AL (cutN lL 6) cL, .slice AB (cutN lB 40) cB, .string (cutS S)] rfl rfl 28 _ HX1.out (by kernel_rfl) rfl (by kernel_rfl) ?_)
  generalize w1.setRow wr.heap.size #[.int .i64 0, .int .i64 w, .int .i64 n, .int .i64 m, .slice AL (cutN lL 6) cL, .slice AB (cutN lB 40) cB, .string (cutS S)] = ws at *
  refine (grow_num HT.out w n m AL (cutN lL 6) cL (z.take (cutN lL 6)) (.slice AB (cutN lB 40) cB) (cutS S) HO.out.z6.1 HO.out.z6.2.1 HO.out.z6.2.2 (cutN_le lL 6).1).mono ?_
  rintro e w2 ⟨v2, A2, bs2, c2, rfl, ht2⟩
  have HT2 := Lib.hid ht2
  clear ht2
  go_wp2_with fail
  go_ret2
  exact Next.mk HT2.out
set_option maxHeartbeats 4000000 in
set_option maxRecDepth 100000 in
theorem step_raw {W0 wr : World} {g : Nat} {v : Value} {A : Option Addr} {bs : List Int} {c : Nat} (h : Twin W0 wr g v A bs c) (w n m : Int) (AL : Option Addr) (lL cL : Nat) (z : List Int) (AB : Option Addr) (lB cB : Nat) (ys : List Int) (S : ByteArray)
    (ho : OpOk W0 AL lL cL z AB lB cB ys S) :
    Calls Try.prog 11 #[.pointer (some ⟨g, 0, none⟩), .slice A bs.length c, opV 1 w n m (.slice AL lL cL) (.slice AB lB cB) S] wr (Next W0 g) := by
  have HSM : Hid (∀ W, Calls Try.prog 45 #[.agg #[.int .i64 1, .int .i64 w, .int .i64 n, .int .i64 m, .slice AL lL cL, .slice AB lB cB, .string S]] W fun e W' => e = .returned (.agg #[.int .i64 1, .int .i64 w, .int .i64 n, .int .i64 m, .slice AL (cutN lL 6) cL, .slice AB (cutN lB 40) cB, .string (cutS S)]) ∧ Below W.heap.size W W') := fun W => small_any 1 w n m AL lL cL AB lB cB S W ho.hL ho.mL ho.hB ho.mB ho.sm
  unfold opV
  have hba : Below wr.heap.size wr (wr.alloc (.cells #[.int .i64 1, .int .i64 w, .int .i64 n, .int .i64 m, .slice AL lL cL, .slice AB lB cB, .string S] 28)) := (Below.refl _ _).alloc (Nat.le_refl _) _
  have HX := Lib.hid (Box.fresh wr 28 [.int .i64 1, .int .i64 w, .int .i64 n, .int .i64 m, .slice AL lL cL, .slice AB lB cB, .string S])
  have HBA := Lib.hid hba
  have HT0 := Lib.hid h
  have HO := Lib.hid ho
  clear h hba ho
  go_enter Try.func11, Try.ntmps11
  go_wp2_with fail
  generalize wr.alloc (.cells #[.int .i64 1, .int .i64 w, .int .i64 n, .int .i64 m, .slice AL lL cL, .slice AB lB cB, .string S] 28) = wq at *
  refine (HSM.out _).mono ?_; rintro e w1 ⟨rfl, hb1⟩
  have HX1 := Lib.hid (HX.out.kept (hb1.block _ HX.out.lt))
  have hbs : Below wr.heap.size wr (w1.setRow wr.heap.size #[.int .i64 1, .int .i64 w, .int .i64 n, .int .i64 m, .slice AL (cutN lL 6) cL, .slice AB (cutN lB 40) cB, .string (cutS S)]) := below_setRow (HBA.out.trans (hb1.mono HBA.out.size)) (Nat.le_refl _) _
  have hxs : Box (w1.setRow wr.heap.size #[.int .i64 1, .int .i64 w, .int .i64 n, .int .i64 m, .slice AL (cutN lL 6) cL, .slice AB (cutN lB 40) cB, .string (cutS S)]) wr.heap.size 28 [.int .i64 1, .int .i64 w, .int .i64 n, .int .i64 m, .slice AL (cutN lL 6) cL, .slice AB (cutN lB 40) cB, .string (cutS S)] := setRow_heap _ _ _ _ _ _ HX1.out
  have HT := Lib.hid (HT0.out.below hbs)
  have hy0 := hxs.cell 0
  have hy1 := hxs.cell 1
  have hy2 := hxs.cell 2
  have hy3 := hxs.cell 3
  have hy4 := hxs.cell 4
  have hy5 := hxs.cell 5
  have hy6 := hxs.cell 6
  simp only [List.getElem?_cons_zero, List.getElem?_cons_succ] at hy0 hy1 hy2 hy3 hy4 hy5 hy6
  have HXS := Lib.hid hxs
  clear hb1 hbs hxs HBA HT0 HX HSM
  go_wp2_with (refine wpList_store_row rfl 28 _ _ rfl wr.heap.size #[.int .i64 1, .int .i64 w, .int .i64 n, .int .i64 m, .slice AL (cutN lL 6) cL, .slice AB (cutN lB 40) cB, .string (cutS S)] rfl rfl 28 _ HX1.out (by kernel_rfl) rfl (by kernel_rfl) ?_)
  generalize w1.setRow wr.heap.size #[.int .i64 1, .int .i64 w, .int .i64 n, .int .i64 m, .slice AL (cutN lL 6) cL, .slice AB (cutN lB 40) cB, .string (cutS S)] = ws at *
  refine (grow_raw HT.out w n m (.slice AL (cutN lL 6) cL) AB (cutN lB 40) cB (ys.take (cutN lB 40)) (cutS S) HO.out.y40.1 HO.out.y40.2.1 HO.out.y40.2.2.1 HO.out.y40.2.2.2 (Nat.le_trans (cutN_le lB 40).2 HO.out.hB) HO.out.mB (cutN_le lB 40).1).mono ?_
  rintro e w2 ⟨v2, A2, bs2, c2, rfl, ht2⟩
  have HT2 := Lib.hid ht2
  clear ht2
  go_wp2_with fail
  go_ret2
  exact Next.mk HT2.out
set_option maxHeartbeats 4000000 in
set_option maxRecDepth 100000 in
theorem step_text {W0 wr : World} {g : Nat} {v : Value} {A : Option Addr} {bs : List Int} {c : Nat} (h : Twin W0 wr g v A bs c) (w n m : Int) (AL : Option Addr) (lL cL : Nat) (z : List Int) (AB : Option Addr) (lB cB : Nat) (ys : List Int) (S : ByteArray)
    (ho : OpOk W0 AL lL cL z AB lB cB ys S) :
    Calls Try.prog 11 #[.pointer (some ⟨g, 0, none⟩), .slice A bs.length c, opV 2 w n m (.slice AL lL cL) (.slice AB lB cB) S] wr (Next W0 g) := by
  have HSM : Hid (∀ W, Calls Try.prog 45 #[.agg #[.int .i64 2, .int .i64 w, .int .i64 n, .int .i64 m, .slice AL lL cL, .slice AB lB cB, .string S]] W fun e W' => e = .returned (.agg #[.int .i64 2, .int .i64 w, .int .i64 n, .int .i64 m, .slice AL (cutN lL 6) cL, .slice AB (cutN lB 40) cB, .string (cutS S)]) ∧ Below W.heap.size W W') := fun W => small_any 2 w n m AL lL cL AB lB cB S W ho.hL ho.mL ho.hB ho.mB ho.sm
  unfold opV
  have hba : Below wr.heap.size wr (wr.alloc (.cells #[.int .i64 2, .int .i64 w, .int .i64 n, .int .i64 m, .slice AL lL cL, .slice AB lB cB, .string S] 28)) := (Below.refl _ _).alloc (Nat.le_refl _) _
  have HX := Lib.hid (Box.fresh wr 28 [.int .i64 2, .int .i64 w, .int .i64 n, .int .i64 m, .slice AL lL cL, .slice AB lB cB, .string S])
  have HBA := Lib.hid hba
  have HT0 := Lib.hid h
  have HO := Lib.hid ho
  clear h hba ho
  go_enter Try.func11, Try.ntmps11
  go_wp2_with fail
  generalize wr.alloc (.cells #[.int .i64 2, .int .i64 w, .int .i64 n, .int .i64 m, .slice AL lL cL, .slice AB lB cB, .string S] 28) = wq at *
  refine (HSM.out _).mono ?_; rintro e w1 ⟨rfl, hb1⟩
  have HX1 := Lib.hid (HX.out.kept (hb1.block _ HX.out.lt))
  have hbs : Below wr.heap.size wr (w1.setRow wr.heap.size #[.int .i64 2, .int .i64 w, .int .i64 n, .int .i64 m, .slice AL (cutN lL 6) cL, .slice AB (cutN lB 40) cB, .string (cutS S)]) := below_setRow (HBA.out.trans (hb1.mono HBA.out.size)) (Nat.le_refl _) _
  have hxs : Box (w1.setRow wr.heap.size #[.int .i64 2, .int .i64 w, .int .i64 n, .int .i64 m, .slice AL (cutN lL 6) cL, .slice AB (cutN lB 40) cB, .string (cutS S)]) wr.heap.size 28 [.int .i64 2, .int .i64 w, .int .i64 n, .int .i64 m, .slice AL (cutN lL 6) cL, .slice AB (cutN lB 40) cB, .string (cutS S)] := setRow_heap _ _ _ _ _ _ HX1.out
  have HT := Lib.hid (HT0.out.below hbs)
  have hy0 := hxs.cell 0
  have hy1 := hxs.cell 1
  have hy2 := hxs.cell 2
  have hy3 := hxs.cell 3
  have hy4 := hxs.cell 4
  have hy5 := hxs.cell 5
  have hy6 := hxs.cell 6
  simp only [List.getElem?_cons_zero, List.getElem?_cons_succ] at hy0 hy1 hy2 hy3 hy4 hy5 hy6
  have HXS := Lib.hid hxs
  clear hb1 hbs hxs HBA HT0 HX HSM
  go_wp2_with (refine wpList_store_row rfl 28 _ _ rfl wr.heap.size #[.int .i64 2, .int .i64 w, .int .i64 n, .int .i64 m, .slice AL (cutN lL 6) cL, .slice AB (cutN lB 40) cB, .string (cutS S)] rfl rfl 28 _ HX1.out (by kernel_rfl) rfl (by kernel_rfl) ?_)
  generalize w1.setRow wr.heap.size #[.int .i64 2, .int .i64 w, .int .i64 n, .int .i64 m, .slice AL (cutN lL 6) cL, .slice AB (cutN lB 40) cB, .string (cutS S)] = ws at *
  refine (grow_text HT.out w n m (.slice AL (cutN lL 6) cL) (.slice AB (cutN lB 40) cB) (cutS S) (cutS_le S)).mono ?_
  rintro e w2 ⟨v2, A2, bs2, c2, rfl, ht2⟩
  have HT2 := Lib.hid ht2
  clear ht2
  go_wp2_with fail
  go_ret2
  exact Next.mk HT2.out
set_option maxHeartbeats 4000000 in
set_option maxRecDepth 100000 in
theorem step_pad {W0 wr : World} {g : Nat} {v : Value} {A : Option Addr} {bs : List Int} {c : Nat} (h : Twin W0 wr g v A bs c) (w n m : Int) (AL : Option Addr) (lL cL : Nat) (z : List Int) (AB : Option Addr) (lB cB : Nat) (ys : List Int) (S : ByteArray)
    (ho : OpOk W0 AL lL cL z AB lB cB ys S) :
    Calls Try.prog 11 #[.pointer (some ⟨g, 0, none⟩), .slice A bs.length c, opV 3 w n m (.slice AL lL cL) (.slice AB lB cB) S] wr (Next W0 g) := by
  have HSM : Hid (∀ W, Calls Try.prog 45 #[.agg #[.int .i64 3, .int .i64 w, .int .i64 n, .int .i64 m, .slice AL lL cL, .slice AB lB cB, .string S]] W fun e W' => e = .returned (.agg #[.int .i64 3, .int .i64 w, .int .i64 n, .int .i64 m, .slice AL (cutN lL 6) cL, .slice AB (cutN lB 40) cB, .string (cutS S)]) ∧ Below W.heap.size W W') := fun W => small_any 3 w n m AL lL cL AB lB cB S W ho.hL ho.mL ho.hB ho.mB ho.sm
  unfold opV
  have hba : Below wr.heap.size wr (wr.alloc (.cells #[.int .i64 3, .int .i64 w, .int .i64 n, .int .i64 m, .slice AL lL cL, .slice AB lB cB, .string S] 28)) := (Below.refl _ _).alloc (Nat.le_refl _) _
  have HX := Lib.hid (Box.fresh wr 28 [.int .i64 3, .int .i64 w, .int .i64 n, .int .i64 m, .slice AL lL cL, .slice AB lB cB, .string S])
  have HBA := Lib.hid hba
  have HT0 := Lib.hid h
  have HO := Lib.hid ho
  clear h hba ho
  go_enter Try.func11, Try.ntmps11
  go_wp2_with fail
  generalize wr.alloc (.cells #[.int .i64 3, .int .i64 w, .int .i64 n, .int .i64 m, .slice AL lL cL, .slice AB lB cB, .string S] 28) = wq at *
  refine (HSM.out _).mono ?_; rintro e w1 ⟨rfl, hb1⟩
  have HX1 := Lib.hid (HX.out.kept (hb1.block _ HX.out.lt))
  have hbs : Below wr.heap.size wr (w1.setRow wr.heap.size #[.int .i64 3, .int .i64 w, .int .i64 n, .int .i64 m, .slice AL (cutN lL 6) cL, .slice AB (cutN lB 40) cB, .string (cutS S)]) := below_setRow (HBA.out.trans (hb1.mono HBA.out.size)) (Nat.le_refl _) _
  have hxs : Box (w1.setRow wr.heap.size #[.int .i64 3, .int .i64 w, .int .i64 n, .int .i64 m, .slice AL (cutN lL 6) cL, .slice AB (cutN lB 40) cB, .string (cutS S)]) wr.heap.size 28 [.int .i64 3, .int .i64 w, .int .i64 n, .int .i64 m, .slice AL (cutN lL 6) cL, .slice AB (cutN lB 40) cB, .string (cutS S)] := setRow_heap _ _ _ _ _ _ HX1.out
  have HT := Lib.hid (HT0.out.below hbs)
  have hy0 := hxs.cell 0
  have hy1 := hxs.cell 1
  have hy2 := hxs.cell 2
  have hy3 := hxs.cell 3
  have hy4 := hxs.cell 4
  have hy5 := hxs.cell 5
  have hy6 := hxs.cell 6
  simp only [List.getElem?_cons_zero, List.getElem?_cons_succ] at hy0 hy1 hy2 hy3 hy4 hy5 hy6
  have HXS := Lib.hid hxs
  clear hb1 hbs hxs HBA HT0 HX HSM
  go_wp2_with (refine wpList_store_row rfl 28 _ _ rfl wr.heap.size #[.int .i64 3, .int .i64 w, .int .i64 n, .int .i64 m, .slice AL (cutN lL 6) cL, .slice AB (cutN lB 40) cB, .string (cutS S)] rfl rfl 28 _ HX1.out (by kernel_rfl) rfl (by kernel_rfl) ?_)
  generalize w1.setRow wr.heap.size #[.int .i64 3, .int .i64 w, .int .i64 n, .int .i64 m, .slice AL (cutN lL 6) cL, .slice AB (cutN lB 40) cB, .string (cutS S)] = ws at *
  refine (grow_pad HT.out 3 w n m (.slice AL (cutN lL 6) cL) (.slice AB (cutN lB 40) cB) (cutS S) rfl).mono ?_
  rintro e w2 ⟨v2, A2, bs2, c2, rfl, ht2⟩
  have HT2 := Lib.hid ht2
  clear ht2
  go_wp2_with fail
  go_ret2
  exact Next.mk HT2.out
end Go.Proofs.Ytfcooaafhpoobaa
