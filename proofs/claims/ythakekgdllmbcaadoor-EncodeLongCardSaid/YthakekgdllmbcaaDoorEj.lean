/- Layer 7: the law EncodeLong. -/
import Derived.Test.YthakekgdllmbcaaDoorEi
import Derived.OwnWalk
namespace Go.Proofs.YthakekgdllmbcaaDoor
open Go.RowKit Rp Go.Maps
open Cq (U64 I64 isW)
theorem below_cells {B b : Nat} {w0 : World} (hB : B ≤ b) : ∀ (vs : List Value) (o : Nat) (w : World), Below B w0 w → Below B w0 (w.setCells b o vs)
  | [], _, _, h => h
  | v :: r, o, w, h => by
    rw [World.setCells]
    exact below_cells hB r (o + 1) _ (h.setCell (p := ⟨b, o, none⟩) hB v)
/-- The slice filled up to k. -/
def FillR (W : World) (m k : Nat) (w : World) : Prop := (∀ j, j < m → w.there W.heap.size (j * 20) 20) ∧ NopsAt w W.heap.size k ∧ Below W.heap.size W w ∧ W.heap.size < w.heap.size
set_option maxHeartbeats 4000000 in
set_option maxRecDepth 100000 in
theorem law_long (over : Int) (W : World) (hT : TabsA W) (hW2 : 2 ≤ W.heap.size) :
    Calls Tryd.prog 3 #[.int .i64 over] W fun e W' => e = .returned (.bool true) ∧ Below W.heap.size W W' := by
  obtain ⟨i0, zs, hi0, hz0, hz1, hz2⟩ : ∃ i zs, Tryd.prog.info? 28 = some i ∧ i.zero = some (.agg zs) ∧ i.size = 20 ∧ i.bytes = 152 := by
    obtain ⟨i, hi, h1, h2, h3⟩ := info_parts (P := Tryd.prog) (e := 28) (z := .agg #[.int .i64 0, .int .i64 0, .int .i64 0, .int .i64 0, .int .i64 0, .int .i64 0, .int .i64 0, .int .i64 0, .int .i64 0, .int .i64 0, .int .i64 0, .int .i64 0, .int .i64 0, .int .i64 0, .int .i64 0, .int .i64 0, .int .i64 0, .bool false, .bool false, .int .i64 0]) (size := 20) (bytes := 152) (by kernel_rfl)
    exact ⟨i, _, hi, h1, h2, h3⟩
  obtain ⟨m, hm, hm1, hm2⟩ : ∃ m : Nat, 4096 + over.tmod 9 = (m : Int) ∧ 4088 ≤ m ∧ m ≤ 4104 := by
    have h1 := Int.lt_tmod_of_pos over (show (0 : Int) < 9 by decide)
    have h2 := Int.tmod_lt_of_pos over (show (0 : Int) < 9 by decide)
    exact ⟨(4096 + over.tmod 9).toNat, by omega, by omega, by omega⟩
  obtain ⟨d, hd⟩ : ∃ d, over.tmod 9 = d := ⟨_, rfl⟩
  rw [hd] at hm
  have HT := Lib.hid hT
  have HBY : Hid (i0.bytes * m ≤ 281474976710656) := by show i0.bytes * m ≤ 281474976710656; rw [hz2]; omega
  clear hT
  go_enter Tryd.func3, Tryd.ntmps3
  go_upto_region 2 with fail
  clear hd
  go_wp2_with (refine wpList_make_full _ (by rfl) _ _ 22 (by rfl) W.heap.size 28 i0 (.agg zs) 20 Tryd.underlying22 hi0 hz0 hz1 .i64 .i64 (m : Int) (m : Int) m (by rfl) (by rfl) rfl rfl HBY.out (by unfold maxLen; omega) (Nat.le_refl _) ?_)
  intro w1 hown hgrow
  have HS : Hid (FillR W m 0 w1) := by
    have hb : Below W.heap.size W w1 := (Chg.refl (fun _ => False) W).grown hgrow (fun k e _ => by cases e) |>.below _ (Nat.le_refl _) (fun _ _ h => h)
    rcases hown.2 with ⟨hv, _⟩ | ⟨r, cap', cur, hv, hB, hk, hn1, hc1, hs1, ht⟩
    · cases hv
    · injection hv with e1 e2 e3
      injection e1 with e1
      injection e1 with e1 _ _
      subst e1 e3
      refine ⟨fun j hj t ht => ?_, fun j hj => by omega, hb, (Array.getElem?_eq_some_iff.1 hk).1⟩
      have hlt : j * 20 + t < cur.size := by rw [hs1]; omega
      refine ⟨by simp [World.cell?, hk, Array.getElem?_eq_getElem hlt], by simp [World.frozen?, hk]⟩
  clear hown hgrow
  go_wp2_with fail
  go_loopw [5, 18] (fun _ i wr => ∃ k : Nat, k ≤ m ∧ i = .int .i64 k ∧ FillR W m k wr) (fun _ i _ => m - (intOf i).toNat)
  case atStart => exact ⟨0, Nat.zero_le _, rfl, HS.out⟩
  case round =>
    obtain ⟨k, hk, rfl, hR⟩ := hrel
    have HR := Lib.hid hR
    clear hR
    by_cases hlt : k < m
    · go_upto_region 7 with (refine wpList_store_mid (by rfl) 28 _ _ (by rfl) W.heap.size (k * 20) (nopV 0).toArray (by rfl) (by rfl) (HR.out.1 k hlt) (by kernel_rfl) (by kernel_rfl) ?_)
      have HF : Hid (FillR W m (k + 1) (wr.setCells W.heap.size (k * 20) (nopV 0))) := by
        obtain ⟨h1, h2, h3, h4⟩ := HR.out
        refine ⟨fun j hj => World.there_setCells (h1 j hj) _ _ _, fun j hj => ?_, below_cells (Nat.le_refl _) _ _ _ h3, ?_⟩
        · by_cases e : j = k
          · subst e
            exact World.rangeAt_setCells_same _ _ _ _ (h1 j hlt)
          · exact World.rangeAt_setCells_apart (h2 j (by omega)) _ _ _ (.inr (.inl (by rw [nopV_len]; omega)))
        · exact Nat.lt_of_lt_of_le h4 (below_cells (B := 0) (Nat.zero_le _) _ _ _ (Below.refl 0 wr)).size
      simp only [Act.put]
      go_wp2_with fail
      go_roundw
      case rel => exact ⟨k + 1, by omega, by go_num, HF.out⟩
      case measure => simp [intOf]; omega
    · obtain rfl : k = m := by omega
      have HN : Hid (NopsAt wr W.heap.size k ∧ Below W.heap.size W wr ∧ W.heap.size < wr.heap.size) := HR.out.2
      have HTb : Hid (∀ w' : World, Below W.heap.size W w' → TabsA w') := fun w' hb => tabs_low HT.out fun q hq => hb.block q (by omega)
      clear HR HT
      by_cases hbig : 4096 < k
      · go_wp2_with fail
        refine (all_long wr _ k k hbig).mono ?_
        rintro e w4 ⟨rfl, rfl⟩
        go_wp2_with fail
        refine (fix_long _ _ k k hbig).mono ?_
        rintro e w5 ⟨rfl, rfl⟩
        have hbig' : (4096 : Int) < (k : Int) := by omega
        go_wp2_with fail
        refine (awake_any _ (HTb.out _ HN.out.2.1)).mono ?_
        rintro e w6 ⟨rfl, hb6⟩
        have HB6 : Hid (Below W.heap.size W w6) := HN.out.2.1.trans (hb6.mono HN.out.2.1.size)
        clear hb6
        go_wp2_with fail
        go_ret
        exact ⟨rfl, HB6.out⟩
      · go_wp2_with fail
        refine (all_ok wr (HTb.out _ HN.out.2.1) (by have := HN.out.2.1.size; omega) W.heap.size k k (by omega) HN.out.2.2 HN.out.1).mono ?_
        rintro e w4 ⟨⟨A, c', st, rfl⟩, hb4⟩
        have HB4 := Lib.hid hb4
        have HW4 : Hid (Below W.heap.size W w4) := HN.out.2.1.trans (hb4.mono HN.out.2.1.size)
        have HN4 : Hid (NopsAt w4 W.heap.size k ∧ W.heap.size < w4.heap.size) := ⟨HN.out.1.kept (hb4.block _ HN.out.2.2), Nat.lt_of_lt_of_le HN.out.2.2 hb4.size⟩
        clear hb4
        go_wp2_with fail
        refine (fix_ok w4 (HTb.out _ HW4.out) (by have := HW4.out.size; omega) W.heap.size k k (by omega) (by omega) HN4.out.2 HN4.out.1).mono ?_
        rintro e w5 ⟨⟨o, rfl⟩, hb5⟩
        have HW5 : Hid (Below W.heap.size W w5) := HW4.out.trans (hb5.mono HW4.out.size)
        clear hb5
        have hsm : ¬ (4096 : Int) < (k : Int) := by omega
        go_wp2_with fail
        refine (awake_any _ (HTb.out _ HW5.out)).mono ?_
        rintro e w6 ⟨rfl, hb6⟩
        have HB6 : Hid (Below W.heap.size W w6) := HW5.out.trans (hb6.mono HW5.out.size)
        clear hb6
        go_wp2_with fail
        go_ret
        exact ⟨rfl, HB6.out⟩
theorem tabs_size {W : World} (h : TabsA W) : 2 ≤ W.heap.size := by
  have g1 : Tryd.prog.globalNamed "calque/xenc.singles" = some 1 := by kernel_rfl
  have h2 := h.2
  unfold Lib.TabIs World.var? at h2
  rw [g1] at h2
  simp only [Option.bind_some] at h2
  cases hq : W.heap[1]? with
  | none => rw [hq] at h2; simp at h2
  | some o =>
    have := (Array.getElem?_eq_some_iff.1 hq).1
    omega
theorem law_any (over : Int) (W : World) (hT : TabsA W) : Calls Tryd.prog 3 #[.int .i64 over] W fun e W' => e = .returned (.bool true) ∧ Below W.heap.size W W' := law_long over W hT (tabs_size hT)
end Go.Proofs.YthakekgdllmbcaaDoor
