/- Walks of layer 2: numbers put in place. -/
import Derived.Test.YtfcooaafhpoobaaRopd
import Derived.Laws.BytesString
namespace Go.Proofs.Ytfcooaafhpoobaa
open Go.RowKit Rp
open Cq (U64 I64 isW)

def setB (bs : List Int) (a w : Nat) (v : Int) : List Int := bs.take a ++ (low w v ++ bs.drop (a + w))
theorem setB_length (bs : List Int) (a w : Nat) (v : Int) (h : a + w ≤ bs.length) : (setB bs a w v).length = bs.length := by
  unfold setB; rw [List.length_append, List.length_append, List.length_take, List.length_drop, low_length]; omega
theorem cellsOf_take (bs : List Int) (n : Nat) : cellsOf (bs.take n) = (cellsOf bs).take n := by unfold cellsOf; rw [List.map_take]
theorem cellsOf_drop (bs : List Int) (n : Nat) : cellsOf (bs.drop n) = (cellsOf bs).drop n := by unfold cellsOf; rw [List.map_drop]
set_option maxRecDepth 100000 in
theorem set_ok (B : Nat) (W : World) (sb t : Nat) (rest : List Value) (v : Value) (bs : List Int) (hst : St B 5 W sb t rest v bs) (hb : bs.length ≤ 1048576)
    (a w : Nat) (hw : w = 1 ∨ w = 2 ∨ w = 4 ∨ w = 8) (han : a + w ≤ bs.length) (hpl : placeE a w bs.length = 0) (x : Int) (hx : U64 x) :
    Calls Try.prog 47 #[.pointer (some ⟨sb, 0, none⟩), .int .i64 a, .int .i64 w, .int .u64 x] W fun e W' => e = .returned (.int .i64 0) ∧
      Grew B 5 W W' sb t rest v (setB bs a w x) := by
  rcases own_cases hst.own with ⟨rfl, rfl⟩ | ⟨k, c, cs, rfl, hnc, hcm, hbx, hl, hcs⟩
  · simp at han; omega
  · have hc := hst.box.cell 0
    simp only [List.getElem?_cons_zero] at hc
    have hca : a < c := by omega
    have HS := Lib.hid hst
    have HP := Lib.hid hpl
    have HBX := Lib.hid hbx
    have HCS := Lib.hid hcs
    have HLC := Lib.hid hl
    have HCM := Lib.hid hcm
    clear hst hpl hbx hcs hl hcm
    go_enter Try.func47, Try.ntmps47
    go_wp2_with fail
    refine (place_any sb _ bs.length c a w _ hc (by omega)).mono ?_; rintro e w' ⟨rfl, rfl⟩
    rw [HP.out]
    go_wp2_with fail
    refine (octets_any _ hx _).mono ?_; rintro e w1 ⟨rfl, hb1⟩
    have HF := Lib.hid (Box.fresh w1 176 [.int .u8 0, .int .u8 0, .int .u8 0, .int .u8 0, .int .u8 0, .int .u8 0, .int .u8 0, .int .u8 0])
    have HB1 := Lib.hid hb1
    clear hb1 hc
    go_wp2_with (refine wpList_store_row rfl 176 _ _ rfl w1.heap.size (oct x).toArray rfl rfl 176 _ HF.out (by kernel_rfl) rfl (by kernel_rfl) ?_)
    have hb2 : Below w1.heap.size w1 ((w1.alloc (.cells #[.int .u8 0, .int .u8 0, .int .u8 0, .int .u8 0, .int .u8 0, .int .u8 0, .int .u8 0, .int .u8 0] 176)).setRow w1.heap.size (oct x).toArray) :=
      below_setRow ((Below.refl _ _).alloc (Nat.le_refl _) _) (Nat.le_refl _) _
    have hx2 : Box ((w1.alloc (.cells #[.int .u8 0, .int .u8 0, .int .u8 0, .int .u8 0, .int .u8 0, .int .u8 0, .int .u8 0, .int .u8 0] 176)).setRow w1.heap.size (oct x).toArray) w1.heap.size 176 (oct x) := setRow_heap _ _ _ _ _ _ HF.out
    generalize (w1.alloc (.cells #[.int .u8 0, .int .u8 0, .int .u8 0, .int .u8 0, .int .u8 0, .int .u8 0, .int .u8 0, .int .u8 0] 176)).setRow w1.heap.size (oct x).toArray = w2 at *
    have hb4 : Below W.heap.size W w2 := below_trans HB1.out hb2
    generalize w1.heap.size = g2 at *
    clear hb2 HF HB1
    have hst2 : St B 5 w2.drew sb t rest (.slice (some ⟨k, 0, none⟩) bs.length c) bs := (HS.out.below hb4).chg ((Chg.refl (fun _ => False) w2).drew) (fun _ _ a => a)
    have hch2 : Chg (Mine sb (.slice (some ⟨k, 0, none⟩) bs.length c)) W w2.drew := (Chg.thenBelow (Chg.refl _ W) hb4).drew
    have hbk : Box w2.drew k 5 cs := HBX.out.kept (hb4.block k HBX.out.lt)
    have hcc : w2.cell? ⟨sb, 0, none⟩ = some (.slice (some ⟨k, 0, none⟩) bs.length c) := by
      have := hst2.box.cell 0
      simpa using this
    obtain ⟨w3, hcp, hg3⟩ : ∃ w3, (Builtin.copy_ #[22, 22] 3 #[.slice (some ⟨k, a, none⟩) (bs.length - a) (c - a), .slice (some ⟨g2, 0, none⟩) w 8]).run Try.prog w2.drew = .ok (goInt w) w3
        ∧ Grew B 5 W w3 sb t rest (.slice (some ⟨k, 0, none⟩) bs.length c) (setB bs a w x) := by
      have hll : (cellsOf (low w x)).length = w := by rw [cellsOf_length, low_length]
      have hlc := HLC.out
      have hrun := run_copy_row (P := Try.prog) w2.drew 22 22 3 5 k a (bs.length - a) (c - a) ⟨g2, 0, none⟩ w 8 _ 5 (cellsOf (low w x)) Try.underlying22 (by kernel_rfl) hbk (by rw [hll]; exact (Nat.min_eq_left (by omega)).symm)
        (by
          intro j u hu
          have hj : j < w := by have := (List.getElem?_eq_some_iff.1 hu).1; omega
          rw [cellsOf_get _ _ (by rw [low_length]; exact hj), low_get w x j hj] at hu
          have hs := hx2.cell j
          rw [oct_get x j (by omega), hu] at hs
          by_cases h0 : j = 0
          · subst h0; simpa [Addr.add] using hs
          · simpa [Addr.add, h0] using hs)
        (by rw [hll]; simp; omega) (by intro u hu; obtain ⟨y, _, rfl⟩ := List.mem_map.1 hu; rfl)
      rw [hll] at hrun
      refine ⟨_, hrun, ?_⟩
      have hsr := setRow_heap w2.drew k _ (cs.toArray.toList.take a ++ cellsOf (low w x) ++ cs.toArray.toList.drop (a + w)).toArray _ _ hbk
      have hne : k ≠ sb := fun e => ownBlock_ne hst2.own hst2.box hst2.ne (by rw [← e]; rfl)
      refine ⟨.slice (some ⟨k, 0, none⟩) bs.length c, ⟨hst2.low, hst2.box.kept (setRow_other _ _ _ _ (fun e => hne e.symm)), ?_, hst2.ne⟩, ?_, fun _ a => .inl a⟩
      · have hsl := setB_length bs a w x han
        refine ⟨by rw [cellsOf_length, hsl]; omega, .inr ⟨k, c, _, by rw [hsl], (hst2.own.lt k rfl).1, hsr, by omega, HCM.out, ?_, ?_⟩⟩
        · have hc0 : cs.length = c := HLC.out
          simp only [List.size_toArray, List.length_append, List.length_take, List.length_drop, hll]; omega
        · have htk : cs.take bs.length = cellsOf bs := by
            apply List.ext_getElem?
            intro i
            by_cases hi : i < bs.length
            · rw [List.getElem?_take_of_lt hi, HCS.out i hi, cellsOf_get bs i hi]
            · rw [List.getElem?_eq_none (by rw [List.length_take]; omega), List.getElem?_eq_none (by rw [cellsOf_length]; omega)]
          rw [hsl]
          unfold setB
          rw [cellsOf_append, cellsOf_append, cellsOf_take, cellsOf_drop, ← htk]
          rw [Nat.mul_one]
          show (cs.take a ++ cellsOf (low w x) ++ cs.drop (a + w)).take bs.length = _
          rw [List.append_assoc, List.take_append, List.take_append, hll]
          have hc0 : cs.length = c := HLC.out
          rw [List.length_take, Nat.min_eq_left (by omega)]
          rw [List.take_of_length_le (l := cs.take a) (by rw [List.length_take]; omega), List.take_of_length_le (l := cellsOf (low w x)) (by rw [hll]; omega), List.take_take, Nat.min_eq_left (by omega), List.drop_take]
          congr 3
          omega
      · refine hch2.trans (S' := Mine sb (.slice (some ⟨k, 0, none⟩) bs.length c)) ⟨rfl, rfl, rfl, by simp [World.setRow], fun j _ hj => setRow_other _ _ _ _ (fun e => hj (.inr (by rw [e]; rfl)))⟩ (fun _ _ a => a)
    have HG3 := Lib.hid hg3
    have hsl := slice8 g2 w hw
    clear hg3 hx2 hb4 hst2 hch2 hbk hnc
    have f1 : a ≤ bs.length := by omega
    go_wp2_with fail
    simp only [Act.put]
    go_region
    go_wp2_with fail
    go_ret
    exact ⟨rfl, HG3.out⟩
/-- bytes as a string -/
def strOf (bs : List Int) : ByteArray := bs.foldl (fun r n => r.push (UInt8.ofNat n.toNat)) ByteArray.empty
theorem conv_reads {W : World} {A : Option Addr} {bs : List Int} (hr : Reads W A bs) (hA : A = none → bs = []) (c : Nat) :
    (convert 22 9 (.slice A bs.length c)).run Try.prog W = .ok (.string (strOf bs)) W := by
  rw [run_convert_bytes_string W 22 9 5 A bs.length c Try.underlying22 Try.underlying5 Try.underlying9]
  cases A with
  | none => rw [hA rfl]; rfl
  | some a =>
    refine run_bytesToString W a bs.length c bs ?_
    have hl := run_loadCells_list (P := Try.prog) W a (cellsOf bs) (by
      intro j u hu
      have hj : j < bs.length := by have := (List.getElem?_eq_some_iff.1 hu).1; simpa [cellsOf] using this
      rw [cellsOf_get bs j hj] at hu
      obtain ⟨g, off, e, _, hc⟩ := hr (by omega)
      injection e with e
      subst e
      rw [← hu]
      by_cases h0 : j = 0
      · subst h0; simpa [Addr.add] using hc 0 hj
      · simpa [Addr.add, h0] using hc j hj)
    rw [cellsOf_length] at hl
    exact hl
theorem Box.reads {W : World} {g : Nat} {bs : List Int} (h : Box W g 5 (cellsOf bs)) : Reads W (some ⟨g, 0, none⟩) bs := by
  intro _
  refine ⟨g, 0, rfl, h.lt, fun i hi => ?_⟩
  have := h.cell i
  rw [cellsOf_get bs i hi] at this
  simpa using this
theorem new_none (W : World) : Calls Try.prog 10 #[.slice none 0 0] W fun e W' => e = .returned (.pointer (some ⟨W.heap.size, 0, none⟩)) ∧ St W.heap.size 5 W' W.heap.size 98 [] (.slice none 0 0) [] ∧ Below W.heap.size W W' := by
  have HF : Hid (St W.heap.size 5 (W.alloc (.cells #[.slice none 0 0] 98)) W.heap.size 98 [] (.slice none 0 0) [] ∧ Below W.heap.size W (W.alloc (.cells #[.slice none 0 0] 98))) :=
    ⟨⟨Nat.le_refl _, Box.fresh W 98 [.slice none 0 0], World.ownsRow_nil _ _ _ _, by decide⟩, (Below.refl _ W).alloc (Nat.le_refl _) _⟩
  go_enter Try.func10, Try.ntmps10
  go_wp2_with fail
  go_loop [5, 10] (fun _ i => i = .int .i64 0) (fun _ _ => 0)
  case atStart => rfl
  case round =>
    subst hrel
    go_wp2_with fail
    go_ret
    exact ⟨rfl, HF.out⟩
theorem set_any (B : Nat) (W : World) (sb t : Nat) (rest : List Value) (v : Value) (bs : List Int) (hst : St B 5 W sb t rest v bs) (hb : bs.length ≤ 1048576) (a w x : Int) (hne : placeE a w bs.length ≠ 0) :
    Calls Try.prog 47 #[.pointer (some ⟨sb, 0, none⟩), .int .i64 a, .int .i64 w, .int .u64 x] W fun e W' => e = .returned (.int .i64 (placeE a w bs.length)) ∧ W = W' := by
  obtain ⟨A, c, hv, _, _⟩ := own_form hst.own
  have hc := hst.box.cell 0
  simp only [List.getElem?_cons_zero] at hc
  rw [hv] at hc
  clear hst hv
  rcases placeE_cases a w bs.length with ⟨h1, h2⟩ | ⟨h1, h2, h3⟩ | ⟨h1, h2, h3⟩
  · rw [h2]
    have HP := Lib.hid h2
    clear h2 hne
    go_enter Try.func47, Try.ntmps47
    go_wp2_with fail
    refine (place_any sb A bs.length c a w _ hc (by omega)).mono ?_; rintro e w' ⟨rfl, rfl⟩
    rw [HP.out]
    go_wp2_with fail
    go_ret
    exact ⟨rfl, rfl⟩
  · rw [h3]
    have HP := Lib.hid h3
    clear h3 h2 hne
    go_enter Try.func47, Try.ntmps47
    go_wp2_with fail
    refine (place_any sb A bs.length c a w _ hc (by omega)).mono ?_; rintro e w' ⟨rfl, rfl⟩
    rw [HP.out]
    go_wp2_with fail
    go_ret
    exact ⟨rfl, rfl⟩
  · exact absurd h3 hne
set_option maxRecDepth 100000 in
theorem awake2_any (W : World) : Calls Try.prog 14 #[] W fun e W' => e = .returned (.bool true) ∧ Below W.heap.size W W' := by
  go_enter Try.func14, Try.ntmps14
  go_wp2_with fail
  refine (new_none _).mono ?_; rintro e w1 ⟨rfl, hst, hb1⟩
  have HB1 := Lib.hid hb1
  have hsz1 := hb1.size
  have hlt1 : W.heap.size < w1.heap.size := hst.box.lt
  have HST1 := Lib.hid hst
  clear hb1 hst
  go_wp2_with fail
  have hbA : Below w1.heap.size w1 (w1.alloc (.cells #[.int .u64 258, .int .u64 1] 46)) := (Below.refl _ _).alloc (Nat.le_refl _) _
  have hwA : Words (w1.alloc (.cells #[.int .u64 258, .int .u64 1] 46)) w1.heap.size 0 2 [258, 1] := by
    intro i hi
    have hc : i = 0 ∨ i = 1 := by omega
    rcases hc with rfl | rfl
    · simp
    · simp
  have hszA : w1.heap.size < (w1.alloc (.cells #[.int .u64 258, .int .u64 1] 46)).heap.size := by rw [World.size_alloc]; omega
  generalize w1.alloc (.cells #[.int .u64 258, .int .u64 1] 46) = wA at *
  have hstA := HST1.out.below hbA
  have hbWA : Below W.heap.size W wA := below_trans HB1.out hbA
  have hnm : ¬ Mine W.heap.size (.slice none 0 0) w1.heap.size := by
    rintro (h | h)
    · omega
    · simp [Value.ownBlock] at h
  refine (num_ok W.heap.size wA W.heap.size [] _ [] hstA (by omega) (by simp) 2 (by decide) w1.heap.size 0 2 2 [258, 1] rfl (by intro x hx; simp at hx; rcases hx with rfl | rfl <;> simp [U64]) (by decide) hwA hszA hnm).mono ?_
  rintro e w2 ⟨rfl, v2, st2, ch2, ow2⟩
  rw [show ([] : List Int) ++ lows 2 [258, 1] 2 = [2, 1, 1, 0] from by decide] at st2
  have hmine : ∀ k, k < W.heap.size → ¬ Mine W.heap.size v2 k := fun k hk hm => by have := (st2.mine_lt k hm).1; omega
  have hbW2 : Below W.heap.size W w2 := hbWA.trans (ch2.below W.heap.size (by omega) (fun k hk hm => by have := (hstA.mine_lt k hm).1; omega))
  have HST2 := Lib.hid st2
  have HBW2 := Lib.hid hbW2
  have hsz2 := hbW2.size
  clear st2 ch2 ow2 hmine hbW2 hbWA hstA hwA hszA hbA HST1 HB1
  go_wp2_with fail
  refine (set_ok W.heap.size w2 W.heap.size 98 [] v2 [2, 1, 1, 0] HST2.out (by decide) 1 2 (by decide) (by decide) (by decide) 65535 (by simp [U64])).mono ?_
  rintro e w3 ⟨rfl, v3, st3, ch3, ow3⟩
  rw [show setB [2, 1, 1, 0] 1 2 65535 = [2, 255, 255, 0] from by decide] at st3
  have hbW3 : Below W.heap.size W w3 := HBW2.out.trans (ch3.below W.heap.size (by omega) (fun k hk hm => by have := (HST2.out.mine_lt k hm).1; omega))
  have HST3 := Lib.hid st3
  have HBW3 := Lib.hid hbW3
  have hsz3 := hbW3.size
  clear st3 ch3 ow3 hbW3 HST2 HBW2
  have h8 : Bytes8 [2, 255, 255, 0] := by intro x hx; simp at hx; omega
  have H8 := Lib.hid h8
  clear h8
  go_wp2_with fail
  refine (at_any HST3.out H8.out 0 4 (by decide)).mono ?_
  rintro e w4 ⟨rfl, hb4⟩
  rw [show atV [2, 255, 255, 0] 0 4 = 16776962 from by decide, show placeE 0 4 ([2, 255, 255, 0] : List Int).length = 0 from by decide]
  have HST4 := Lib.hid (HST3.out.below hb4)
  have HBW4 := Lib.hid (below_trans HBW3.out hb4)
  clear hb4 HST3 HBW3
  go_wp2_with fail
  refine (at_any HST4.out H8.out 1 4 (by decide)).mono ?_
  rintro e w5 ⟨rfl, hb5⟩
  rw [show placeE 1 4 ([2, 255, 255, 0] : List Int).length = 7 from by decide]
  have HST5 := Lib.hid (HST4.out.below hb5)
  have HBW5 := Lib.hid (below_trans HBW4.out hb5)
  clear hb5 HST4 HBW4
  go_wp2_with fail
  refine (bytes_any HST5.out (by decide)).mono ?_
  rintro e w6 ⟨_, rfl, g6, rfl, hg6, hb6, hbl6⟩
  have hcv : (convert 22 9 (.slice (some ⟨g6, 0, none⟩) 4 4)).run Try.prog w6 = .ok (.string ⟨#[2, 255, 255, 0]⟩) w6 := by
    have := conv_reads (Box.reads hb6) (fun h => by cases h) ([2, 255, 255, 0] : List Int).length
    rw [show strOf [2, 255, 255, 0] = ⟨#[2, 255, 255, 0]⟩ from by decide] at this
    exact this
  have HBW6 := Lib.hid (below_trans HBW5.out hbl6)
  clear hb6 hbl6 HST5 HBW5
  go_wp2
  go_ret
  exact ⟨rfl, HBW6.out⟩
end Go.Proofs.Ytfcooaafhpoobaa
