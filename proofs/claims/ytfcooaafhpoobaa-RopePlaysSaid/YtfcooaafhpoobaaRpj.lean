/- Walks of layer 2: texts of both. -/
import Derived.Test.YtfcooaafhpoobaaRpi
import Derived.Deep.DeepCutAuto
namespace Go.Proofs.Ytfcooaafhpoobaa
open Go.RowKit Rp Go.Maps
open Cq (U64 I64 isW)

theorem sB_get (S : ByteArray) (k : Nat) (h : k < S.size) : (sB S).getD k 0 = ((S[k].toNat : Nat) : Int) := by
  unfold sB
  have hj2 : k < S.data.toList.length := by rw [Array.length_toList]; exact h
  rw [List.getD_eq_getElem?_getD, List.getElem?_map, List.getElem?_eq_getElem hj2]; rfl
theorem sB_no {S : ByteArray} (h : zI S < 0) (k : Nat) (hk : k < S.size) : (sB S).getD k 0 ≠ 0 := by
  have h1 := zI_ge S
  have h2 := zI_none (s := S) (by omega)
  have hl : k < (sB S).length := by rw [sB_len]; exact hk
  rw [List.getD_eq_getElem?_getD, List.getElem?_eq_getElem hl]
  exact h2 _ (List.getElem_mem hl)
theorem sB_none {S : ByteArray} (h : ∀ j, j < S.size → (sB S).getD j 0 ≠ 0) : zI S < 0 := by
  by_cases g : zI S < 0
  · exact g
  · exfalso
    have h1 := zI_some (s := S) (by omega)
    obtain ⟨j, hj, e⟩ := List.getElem_of_mem h1
    have := h j (by rw [← sB_len]; exact hj)
    rw [List.getD_eq_getElem?_getD, List.getElem?_eq_getElem hj, e] at this
    exact this rfl
theorem sB_bytes (S : ByteArray) : Bytes8 (sB S) := by
  intro y hy
  unfold sB at hy
  obtain ⟨b, _, rfl⟩ := List.mem_map.1 hy
  have := b.toNat_lt
  omega
set_option maxHeartbeats 2000000 in
set_option maxRecDepth 100000 in
theorem grow_text {W0 wr : World} {g : Nat} {v : Value} {A : Option Addr} {bs : List Int} {c : Nat} (h : Twin W0 wr g v A bs c) (w n m : Int) (VL VB : Value) (S : ByteArray) (hS : S.size ≤ 40) :
    Calls Try.prog 46 #[.pointer (some ⟨g, 0, none⟩), .slice A bs.length c, opV 2 w n m VL VB S] wr (Next W0 g) := by
  unfold opV
  have hba : Below wr.heap.size wr (wr.alloc (.cells #[.int .i64 2, .int .i64 w, .int .i64 n, .int .i64 m, VL, VB, .string S] 28)) := (Below.refl _ _).alloc (Nat.le_refl _) _
  have HT := Lib.hid (h.below hba)
  have HX := Lib.hid (Box.fresh wr 28 [.int .i64 2, .int .i64 w, .int .i64 n, .int .i64 m, VL, VB, .string S])
  have HMI : Hid (∀ k, Mine g v k → k < wr.heap.size) := fun k hk => (h.st.mine_lt k hk).2
  clear h hba
  go_enter Try.func46, Try.ntmps46
  go_upto_region 13 with fail
  generalize wr.alloc (.cells #[.int .i64 2, .int .i64 w, .int .i64 n, .int .i64 m, VL, VB, .string S] 28) = wq at *
  have hx6 := HX.out.cell 6
  simp only [List.getElem?_cons_zero, List.getElem?_cons_succ] at hx6
  have htext : Calls Try.prog 99 #[.pointer (some ⟨g, 0, none⟩), .slice (some ⟨wq.heap.size, 0, none⟩) 2 2] (wq.alloc (.cells #[.string S, .string ⟨#[]⟩] 9)) fun e w1 => ∃ E, e = .returned (.int .i64 E) ∧
        ((0 ≤ zI S ∧ E = 2 ∧ Twin W0 w1 g v A bs c) ∨ (zI S < 0 ∧ 1048576 < bs.length + (S.size + 2) ∧ E = 4 ∧ Twin W0 w1 g v A bs c) ∨ (zI S < 0 ∧ bs.length + (S.size + 2) ≤ 1048576 ∧ E = 0 ∧ Grew W0.heap.size 5 wq w1 g 98 [] v (bs ++ (sB S ++ [0, 0]))))
        ∧ Box w1 wr.heap.size 28 [.int .i64 2, .int .i64 w, .int .i64 n, .int .i64 m, VL, VB, .string S] ∧ Below W0.heap.size W0 w1 ∧ Reads w1 A bs := by
    have hbd : Below wq.heap.size wq (wq.alloc (.cells #[.string S, .string ⟨#[]⟩] 9)) := (Below.refl _ _).alloc (Nat.le_refl _) _
    have hbx : Box (wq.alloc (.cells #[.string S, .string ⟨#[]⟩] 9)) wq.heap.size 9 [.string S, .string ⟨#[]⟩] := Box.fresh wq 9 _
    have hTd := HT.out.below hbd
    generalize (wq.alloc (.cells #[.string S, .string ⟨#[]⟩] 9)) = wd at *
    have hXd := HX.out.kept (hbd.block _ HX.out.lt)
    have hnb : ¬ Mine g v wr.heap.size := fun hm => by have := HMI.out _ hm; omega
    refine (text_all hTd wq.heap.size 2 S hbx (fun hm => by have := (HT.out.st.mine_lt _ hm).2; omega) (by omega)).mono ?_
    rintro e w1 ⟨E, rfl, ⟨hz, hE, rfl⟩ | ⟨hz, hf, hE, rfl⟩ | ⟨hz, hf, hE, hg⟩⟩
    · exact ⟨E, rfl, .inl ⟨hz, hE, hTd⟩, hXd, hTd.bel, hTd.rd⟩
    · exact ⟨E, rfl, .inr (.inl ⟨hz, hf, hE, hTd⟩), hXd, hTd.bel, hTd.rd⟩
    · obtain ⟨v1, st1, ch1, ow1⟩ := hg
      have hb1 : Below W0.heap.size wd w1 := ch1.below W0.heap.size hTd.bel.size (fun j hj hm => by have := (hTd.st.mine_lt j hm).1; omega)
      exact ⟨E, rfl, .inr (.inr ⟨hz, hf, hE, Grew.trans (Chg.thenBelow (Chg.refl (Mine g v) wq) hbd) (fun _ a => .inl a) ⟨v1, st1, ch1, ow1⟩⟩), hXd.chg ch1 hnb, hTd.bel.trans hb1, hTd.rd.chgp ch1 (fun a ha h0 => (hTd.apart a ha h0).1)⟩
  have HTX := Lib.hid htext
  clear htext
  go_wp2_with fail
  refine HTX.out.mono ?_; rintro e w1 ⟨E, rfl, hcs, hbx, hbel, hrd⟩
  have HCS := Lib.hid hcs
  have HBX := Lib.hid hbx
  have HBEL := Lib.hid hbel
  have HRD := Lib.hid hrd
  have hx61 := hbx.cell 6
  simp only [List.getElem?_cons_zero, List.getElem?_cons_succ] at hx61
  clear hcs hbx hbel hrd hx6 HTX
  go_wp2_with fail
  go_loop [14] (fun i => ∃ k : Nat, k ≤ S.size ∧ i = .int .i64 k ∧ ∀ j, j < k → (sB S).getD j 0 ≠ 0) (fun i => S.size - (intOf i).toNat)
  case atStart => exact ⟨0, by omega, rfl, fun j hj => by omega⟩
  case round =>
    obtain ⟨k, hk, rfl, hno⟩ := hrel
    have HNO := Lib.hid hno
    clear hno
    by_cases hlt : k < S.size
    · have hsk := sB_get S k hlt
      have HSK := Lib.hid hsk
      by_cases hz : (sB S).getD k 0 = 0
      · have hb : ((S[k].toNat : Int) == 0) = true := by rw [← hsk, hz]; rfl
        have hE : E = 2 ∧ Twin W0 w1 g v A bs c := by
          rcases HCS.out with ⟨_, h1, h2⟩ | ⟨h1, _⟩ | ⟨h1, _⟩
          · exact ⟨h1, h2⟩
          · exact absurd hz (sB_no h1 k hlt)
          · exact absurd hz (sB_no h1 k hlt)
        obtain ⟨rfl, ht⟩ := hE
        have HTT := Lib.hid ht
        clear hsk hz ht
        go_wp2_with fail
        go_ret2
        exact Next.mk HTT.out
      · have hb : ((S[k].toNat : Int) == 0) = false := by rw [← hsk]; simpa using hz
        have HNZ := Lib.hid hz
        clear hsk hz
        go_wp2_with fail
        go_round
        case rel => exact ⟨k + 1, by omega, by go_num, fun j hj => by
          by_cases e : j = k
          · subst e; exact HNZ.out
          · exact HNO.out j (by omega)⟩
        case measure => simp [intOf]; omega
    · have hks : k = S.size := by omega
      have hneg : zI S < 0 := sB_none (fun j hj => HNO.out j (by omega))
      obtain ⟨cap, w2, hcv, hc1, hc2, hb2, hsz2, hcell, hspare⟩ := conv_bytes w1 S (by omega)
      have hb3 : Below w2.heap.size w2 (w2.alloc (.cells #[.int .u8 0, .int .u8 0] 5)) := (Below.refl _ _).alloc (Nat.le_refl _) _
      have hx3 : Box (w2.alloc (.cells #[.int .u8 0, .int .u8 0] 5)) w2.heap.size 5 [.int .u8 0, .int .u8 0] := Box.fresh w2 5 _
      have hb13 : Below w1.heap.size w1 (w2.alloc (.cells #[.int .u8 0, .int .u8 0] 5)) := hb2.trans (hb3.mono (by omega))
      obtain ⟨A4, c4, w4, hrun, hrd4, hc4, hcm4, hb4⟩ := run_append_marked (w2.alloc (.cells #[.int .u8 0, .int .u8 0] 5)) w1.heap.size S.size cap (sB S) (sB_len S)
        (fun j hj => by rw [World.cell?_of_block (hb3.block _ (by show w1.heap.size < _; omega))]; exact hcell j hj)
        (fun j h1 h2 => by
          have := hspare j h1 h2
          rw [World.cell?_of_block (hb3.block _ (by show w1.heap.size < _; omega))]
          refine ⟨this.1, ?_⟩
          have := hb3.frozen (p := ⟨w1.heap.size, j, none⟩) (by show w1.heap.size < _; omega)
          rw [this]; exact (hspare j h1 h2).2) hc1 hc2 (by have := hb3.size; omega) ⟨w2.heap.size, 0, none⟩ 2 [0, 0]
        (fun j hj => by
          have hj2 : j = 0 ∨ j = 1 := by simp at hj; omega
          rcases hj2 with rfl | rfl
          · exact hx3.cell 0
          · exact hx3.cell 1) (by simp; omega)
      have HRUN : Hid ((Builtin.append_ #[22, 22] 22 #[.slice (some ⟨w1.heap.size, 0, none⟩) S.size cap, .slice (some ⟨w2.heap.size, 0, none⟩) 2 2]).run Try.prog (w2.alloc (.cells #[.int .u8 0, .int .u8 0] 5)) = .ok (.slice (some A4) (S.size + 2) c4) w4) := hrun
      have hb14 : Below w1.heap.size w1 w4 := hb13.trans hb4
      have hl4 : (sB S ++ [0, 0]).length = S.size + 2 := by rw [List.length_append, sB_len]; rfl
      have HRD4 := Lib.hid hrd4
      have HB14 := Lib.hid hb14
      have HRB := Lib.hid (reads_below HRD.out hb14 (Nat.le_refl _))
      have HL4 := Lib.hid hl4
      have HCV := Lib.hid hcv
      have hc4' : S.size + 2 ≤ c4 := hc4
      clear hb3 hx3 hb13 hrun hrd4 hc4 hcm4 hb4 hb14 hl4 hcell hspare hc1 hc2 hb2 hcv hsz2
      rcases HCS.out with ⟨h1, _⟩ | ⟨_, hfull, hE, ht⟩ | ⟨_, hfit, hE, hg⟩
      · exact absurd h1 (by omega)
      · subst hE
        have HTT := Lib.hid (ht.below HB14.out)
        have HB := Lib.hid (behind_no A bs.length c (some A4) (S.size + 2) c4 w4 ht.len (by omega) hfull)
        have hcv := HCV.out
        clear ht hfull hneg
        go_wp2_with (at_builtin; refine wpList_append_run rfl _ _ 22 rfl _ _ rfl rfl _ _ HRUN.out ?_)
        go_wp2_with fail
        refine HB.out.mono ?_; rintro e w' ⟨rfl, rfl⟩
        go_wp2_with fail
        go_ret2
        exact Next.mk HTT.out
      · subst hE
        have HG := Lib.hid hg
        have hbe := behind_ok A bs c (some A4) (sB S ++ [0, 0]) c4 w4 HRB.out HT.out.nil HRD4.out (fun e => by cases e) (by rw [HL4.out]; exact hfit)
        rw [HL4.out] at hbe
        have HBE := Lib.hid hbe
        have HF2 := Lib.hid hfit
        have hcv := HCV.out
        clear hbe hg hfit hneg
        go_wp2_with (at_builtin; refine wpList_append_run rfl _ _ 22 rfl _ _ rfl rfl _ _ HRUN.out ?_)
        go_wp2_with fail
        refine HBE.out.mono ?_; rintro e w5 ⟨u3, rfl, hown3, hb5⟩
        obtain ⟨A6, c6, rfl, v6, ht6⟩ := HT.out.next HG.out HB14.out hown3 hb5 (bytes_append HT.out.b8 (bytes_append (sB_bytes S) (zeros_bytes 2))) (by rw [List.length_append, HL4.out]; exact HF2.out)
        have HT6 := Lib.hid ht6
        clear hown3 hb5 ht6 HG HBE HCS
        generalize bs ++ (sB S ++ [0, 0]) = bs2 at *
        go_wp2_with fail
        go_ret2
        exact Next.mk HT6.out
end Go.Proofs.Ytfcooaafhpoobaa
