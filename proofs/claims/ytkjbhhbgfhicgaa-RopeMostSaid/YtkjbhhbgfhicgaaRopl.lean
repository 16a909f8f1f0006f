/- The statement of layer 2 that a rope has 2^20 bytes at most. -/
import Derived.Test.YtkjbhhbgfhicgaaRopk
namespace Go.Proofs.Ytkjbhhbgfhicgaa
open Go.RowKit Rp
open Cq (U64 I64 isW)

theorem infoU64 : (Try.prog.info? 22).map (fun i => (i.zero, i.size, i.bytes)) = some (some (.int .u64 0), 1, 8) := by kernel_rfl
theorem made_words (n : Nat) : (madeCells #[Value.int .u64 0] (n * 1)).toList = (List.replicate n (Value.int .u64 0)) := by
  unfold madeCells
  rw [Nat.mul_one]
  apply List.ext_getElem
  · simp
  · intro i h1 h2
    simp [Nat.mod_one]
theorem make_bytes (W : World) (k : Nat) (x : Int) (hx : x = k) (hk : k ≤ 19) : ∃ w3, (Instr.makeSlice 48 (.int .i64 x) (.int .i64 x)).run Try.prog W = .ok (.slice (some ⟨W.heap.size, 0, none⟩) k k) w3 ∧ Below W.heap.size W w3 ∧ W.heap.size < w3.heap.size := by
  subst hx
  obtain ⟨i0, hi, hz0, hz1, hz2⟩ := info_parts infoU8
  obtain ⟨w2, hmk, hown, hgr⟩ := run_make_full (P := Try.prog) W 0 48 5 i0 (.int .u8 0) 1 Try.underlying48 hi hz0 hz1 .i64 .i64 k (by rw [hz2]; omega) (by unfold maxLen; omega) (Nat.zero_le _)
  exact ⟨w2, hmk, (Below.refl _ W).grown hgr (Nat.le_refl _) (fun _ h => by cases h), (made_box hown).lt⟩
theorem make_words (W : World) (k : Nat) (x : Int) (hx : x = k) (hk : k ≤ 19) : ∃ w3, (Instr.makeSlice 42 (.int .i64 x) (.int .i64 x)).run Try.prog W = .ok (.slice (some ⟨W.heap.size, 0, none⟩) k k) w3 ∧ Below W.heap.size W w3 ∧ W.heap.size < w3.heap.size ∧ Words w3 W.heap.size 0 k (List.replicate k 0) := by
  subst hx
  obtain ⟨i0, hi, hz0, hz1, hz2⟩ := info_parts infoU64
  obtain ⟨w2, hmk, hown, hgr⟩ := run_make_full (P := Try.prog) W 0 42 22 i0 (.int .u64 0) 1 Try.underlying42 hi hz0 hz1 .i64 .i64 k (by rw [hz2]; omega) (by unfold maxLen; omega) (Nat.zero_le _)
  have hbx : Box w2 W.heap.size 22 (List.replicate k (Value.int .u64 0)) := by
    have h := made_box hown
    rw [show (madeCells (Value.int .u64 0).cells (k * 1)).toList = List.replicate k (Value.int .u64 0) from made_words k] at h
    exact h
  refine ⟨w2, hmk, (Below.refl _ W).grown hgr (Nat.le_refl _) (fun _ h => by cases h), hbx.lt, fun i hi => ?_⟩
  rw [Nat.zero_add, hbx.cell i, List.getElem?_replicate, if_pos hi, List.getD_eq_getElem?_getD, List.getElem?_replicate, if_pos hi]; rfl
/-- nothing but length is asked of the bytes -/
theorem new_most (W w1 : World) (N : Nat) (hN : 100 ≤ N) (hNm : N ≤ 1048595) (hb : Below W.heap.size W w1) (hgb : W.heap.size < w1.heap.size) (hbx : Box w1 W.heap.size 5 (cellsOf (List.replicate N 0))) :
    Calls Try.prog 51 #[.slice (some ⟨w1.heap.size, 0, none⟩) 2 2] (w1.alloc (.cells #[.slice (some ⟨W.heap.size, 0, none⟩) 100 N, .slice (some ⟨W.heap.size, 100, none⟩) (N - 100) (N - 100)] 48)).drew
      fun e W' => ∃ rb v bs, e = .returned (.pointer (some ⟨rb, 0, none⟩)) ∧ St W.heap.size 5 W' rb 96 [] v bs ∧ bs.length = min N most ∧ Below W.heap.size W W' := by
  let ys : Nat → List Int := fun i => if i = 0 then List.replicate 100 0 else List.replicate (N - 100) 0
  let A : Nat → Option Addr := fun i => if i = 0 then some ⟨W.heap.size, 0, none⟩ else some ⟨W.heap.size, 100, none⟩
  let c : Nat → Nat := fun i => if i = 0 then N else N - 100
  have hal : Below w1.heap.size w1 (w1.alloc (.cells #[.slice (some ⟨W.heap.size, 0, none⟩) 100 N, .slice (some ⟨W.heap.size, 100, none⟩) (N - 100) (N - 100)] 48)).drew := ((Below.refl _ _).alloc (Nat.le_refl _) _).drew
  have hpx : Box (w1.alloc (.cells #[.slice (some ⟨W.heap.size, 0, none⟩) 100 N, .slice (some ⟨W.heap.size, 100, none⟩) (N - 100) (N - 100)] 48)).drew w1.heap.size 48 [.slice (some ⟨W.heap.size, 0, none⟩) 100 N, .slice (some ⟨W.heap.size, 100, none⟩) (N - 100) (N - 100)] := Box.fresh w1 48 _
  have hbx2 := hbx.kept (hal.block _ hgb)
  have hsz : W.heap.size < (w1.alloc (.cells #[.slice (some ⟨W.heap.size, 0, none⟩) 100 N, .slice (some ⟨W.heap.size, 100, none⟩) (N - 100) (N - 100)] 48)).drew.heap.size := hbx2.lt
  generalize (w1.alloc (.cells #[.slice (some ⟨W.heap.size, 0, none⟩) 100 N, .slice (some ⟨W.heap.size, 100, none⟩) (N - 100) (N - 100)] 48)).drew = wd at *
  have hcell : ∀ i, i < N → wd.cell? ⟨W.heap.size, i, none⟩ = some (.int .u8 0) := by
    intro i hi
    rw [hbx2.cell i, cellsOf_get _ i (by simpa using hi), List.getD_eq_getElem?_getD, List.getElem?_replicate, if_pos hi]; rfl
  have hparts : Parts wd w1.heap.size 0 2 A c ys := by
    intro i hi
    have hi2 : i = 0 ∨ i = 1 := by omega
    rcases hi2 with rfl | rfl
    · refine ⟨?_, ?_, fun h => by simp [A] at h, ?_, ?_⟩
      · have := hpx.cell 0; simpa [A, c, ys] using this
      · intro _
        refine ⟨W.heap.size, 0, rfl, hsz, fun j hj => ?_⟩
        have hj' : j < 100 := by
          have : (List.replicate 100 (0 : Int)).length = 100 := List.length_replicate
          exact this ▸ hj
        have := hcell j (by omega)
        have e : (ys 0).getD j 0 = 0 := by
          show (List.replicate 100 (0 : Int)).getD j 0 = 0
          rw [List.getD_eq_getElem?_getD, List.getElem?_replicate, if_pos hj']; rfl
        rw [e, Nat.zero_add]; exact this
      · show (List.replicate 100 (0 : Int)).length ≤ N
        rw [List.length_replicate]; omega
      · intro a ha; simp [A] at ha; subst ha; exact hsz
    · refine ⟨?_, ?_, fun h => by simp [A] at h, ?_, ?_⟩
      · have := hpx.cell 1; simpa [A, c, ys] using this
      · intro _
        refine ⟨W.heap.size, 100, rfl, hsz, fun j hj => ?_⟩
        have hj' : j < N - 100 := by simpa [ys] using hj
        have := hcell (100 + j) (by omega)
        simpa [ys, List.getElem?_replicate, hj'] using this
      · simp [ys, c]
      · intro a ha; simp [A] at ha; subst ha; exact hsz
  have hlen : (heldTo ys 2).length = min N most := by
    unfold heldTo
    rw [List.length_take]
    have : (catTo ys 2).length = N := by simp [catTo, ys]; omega
    rw [this, Nat.min_comm]
  refine (new_any w1.heap.size 0 2 2 A c ys wd (by omega) hparts hpx.lt (fun i => by simp only [c]; split <;> omega)).mono ?_
  rintro e W' ⟨v, rfl, hst, hb2⟩
  refine ⟨wd.heap.size, v, heldTo ys 2, rfl, ⟨by omega, hst.box, ?_, hst.ne⟩, hlen, ?_⟩
  · refine ⟨hst.own.1, ?_⟩
    rcases hst.own.2 with h | ⟨k, cap, cur, h1, h2, h3⟩
    · exact .inl h
    · exact .inr ⟨k, cap, cur, h1, by omega, h3⟩
  · exact (hb.trans (hal.mono hb.size)).trans (hb2.mono (by omega))
set_option maxHeartbeats 1000000 in
set_option maxRecDepth 100000 in
theorem law_most (over way : Int) (hw : I64 way) (W : World) : Calls Try.prog 13 #[.int .i64 over, .int .i64 way] W fun e W' => e = .returned (.bool true) ∧ Below W.heap.size W W' := by
  obtain ⟨i0, hi, hz0, hz1, hz2⟩ := info_parts infoU8
  have ho : -20 < over.tmod 20 ∧ over.tmod 20 < 20 := by
    exact ⟨Int.lt_tmod_of_pos over (by decide), Int.tmod_lt_of_pos over (by decide)⟩
  obtain ⟨N, hN⟩ : ∃ N : Nat, (1048576 : Int) + over.tmod 20 = N := ⟨((1048576 : Int) + over.tmod 20).toNat, by omega⟩
  have hN1 : 1048556 < N := by omega
  have hN2 : N < 1048596 := by omega
  have HN := Lib.hid hN
  have HW := Lib.hid hw
  clear hN hw
  go_enter Try.func13, Try.ntmps13
  go_wp2_with (refine wpList_make_full W rfl _ _ 48 rfl 0 5 i0 (.int .u8 0) 1 Try.underlying48 hi hz0 hz1 .i64 .i64 (1048576 + over.tmod 20) (1048576 + over.tmod 20) N rfl rfl HN.out HN.out ?c1 ?c2 ?c3 ?_)
  case c1 => rw [hz2]; omega
  case c2 => unfold maxLen; omega
  case c3 => omega
  intro w1 hown hgr
  have hbx : Box w1 W.heap.size 5 (cellsOf (List.replicate N 0)) := by
    have h := made_box hown
    have e := made_bytes N
    rw [Nat.mul_one] at e
    rw [e] at h
    exact h
  have hbel : Below W.heap.size W w1 := (Below.refl _ W).grown hgr (Nat.le_refl _) (fun _ h => by cases h)
  have HNEW := Lib.hid (new_most W w1 N (by omega) (by omega) hbel hbx.lt hbx)
  have HI := Lib.hid (And.intro hi (And.intro hz0 (And.intro hz1 hz2)))
  clear hown hgr hbx hbel hi hz0 hz1 hz2
  have hN3 : 100 ≤ N := by omega
  go_wp2_with fail
  go_region_with (go_at_call 51; refine HNEW.out.mono ?_; rintro e w2 ⟨rb, v, bs, rfl, hst, hbl, hb2⟩)
  all_goals
    have HST := Lib.hid hst
    have HBL := Lib.hid hbl
    have HB2 := Lib.hid hb2
    clear hst hbl hb2 HNEW
    by_cases hpos : 0 ≤ over.tmod 20
  iterate 2
    · have hlen : bs.length = 1048576 := by have h1 := HBL.out; have h2 := HN.out; rw [most_is] at h1; omega
      have HLEN := Lib.hid hlen
      clear hlen
      go_wp2_with fail
      refine (len_any HST.out).mono ?_; rintro e w' ⟨rfl, rfl⟩
      rw [HLEN.out]
      go_wp2_with fail
      have hx3 : (w2.alloc (.cells #[.int .u64 5] 22)).cell? ⟨w2.heap.size, 0, none⟩ = some (.int .u64 5) := by
        simp
      have hb3 : Below w2.heap.size w2 (w2.alloc (.cells #[.int .u64 5] 22)) := (Below.refl _ _).alloc (Nat.le_refl _) _
      generalize w2.alloc (.cells #[.int .u64 5] 22) = w3 at *
      have HST3 := Lib.hid (HST.out.below hb3)
      have hsz2 := HB2.out.size
      have HB3 : Hid (Below W.heap.size W w3) := HB2.out.trans (hb3.mono (by omega))
      clear hb3 hx3
      obtain ⟨A3, c3, hv3, _, _⟩ := own_form HST3.out.own
      have hc3 : w3.cell? ⟨rb, 0, none⟩ = some (.slice A3 bs.length c3) := by
        have := HST3.out.box.cell 0; rw [hv3] at this; simpa using this
      have HNF := Lib.hid (num_full rb A3 bs.length c3 1 (by decide) (some ⟨w2.heap.size, 0, none⟩) 1 1 w3 hc3 (by rw [HLEN.out]; exact Nat.le_refl _) (by rw [HLEN.out]; decide))
      clear hc3 hv3
      refine HNF.out.mono ?_; rintro e w' ⟨rfl, rfl⟩
      go_wp2_with fail
      have hx4 : (w3.alloc (.cells #[.string ⟨#[]⟩] 9)).cell? ⟨w3.heap.size, 0, none⟩ = some (.string ⟨#[]⟩) := by
        simp
      have hb4 : Below w3.heap.size w3 (w3.alloc (.cells #[.string ⟨#[]⟩] 9)) := (Below.refl _ _).alloc (Nat.le_refl _) _
      generalize w3.alloc (.cells #[.string ⟨#[]⟩] 9) = w4 at *
      have HST4 := Lib.hid (HST3.out.below hb4)
      have hsz3 := HB3.out.size
      have HB4 : Hid (Below W.heap.size W w4) := HB3.out.trans (hb4.mono (by omega))
      have HX4 := Lib.hid hx4
      clear hb4 hx4
      refine (text_full W.heap.size w4 rb [] v bs HST4.out HLEN.out _ HX4.out _).mono ?_; rintro e w' ⟨rfl, rfl⟩
      go_wp2_with fail
      refine (awake2_any _).mono ?_; rintro e w5 ⟨rfl, hb5⟩
      have hsz4 := HB4.out.size
      have HB5 : Hid (Below W.heap.size W w5) := HB4.out.trans (hb5.mono (by omega))
      clear hb5
      go_wp2_with fail
      go_ret
      exact ⟨rfl, HB5.out⟩
    · have hneg := Int.not_le.mp hpos
      clear hpos
      obtain ⟨k, hk⟩ : ∃ k : Nat, over.tmod 20 = -(k : Int) := ⟨(-over.tmod 20).toNat, by omega⟩
      have hk1 : 1 ≤ k ∧ k ≤ 19 := by omega
      have hlen : (bs.length : Int) = 1048576 - k := by have h1 := HBL.out; have h2 := HN.out; rw [most_is] at h1; omega
      have hlenN : bs.length = N := by have h1 := HBL.out; have h2 := HN.out; rw [most_is] at h1; omega
      have HLEN := Lib.hid hlen
      have HLENN := Lib.hid hlenN
      have HK := Lib.hid hk
      obtain ⟨wa, hma, hba, hla⟩ := make_bytes w2 k (-over.tmod 20) (by omega) hk1.2
      obtain ⟨wb, hmb, hbb, hlb, hwb⟩ := make_words w2 k (-over.tmod 20) (by omega) hk1.2
      have HBA := Lib.hid hba
      have HBB := Lib.hid hbb
      have HWB := Lib.hid hwb
      have hrb : rb < w2.heap.size := HST.out.box.lt
      have hsz2 := HB2.out.size
      clear hlen hlenN hk hba hbb hwb
      go_wp2_with fail
      · have hb3 : Below wa.heap.size wa ((wa.alloc (.cells #[.int .u8 1] 5)).alloc (.cells #[.slice (some ⟨w2.heap.size, 0, none⟩) k k, .slice (some ⟨wa.heap.size, 0, none⟩) 1 1] 48)) :=
          ((Below.refl _ _).alloc (Nat.le_refl _) _).alloc (by simp) _
        have hp3 : Box ((wa.alloc (.cells #[.int .u8 1] 5)).alloc (.cells #[.slice (some ⟨w2.heap.size, 0, none⟩) k k, .slice (some ⟨wa.heap.size, 0, none⟩) 1 1] 48)) (wa.heap.size + 1) 48 [.slice (some ⟨w2.heap.size, 0, none⟩) k k, .slice (some ⟨wa.heap.size, 0, none⟩) 1 1] := by
          have := Box.fresh (wa.alloc (.cells #[.int .u8 1] 5)) 48 [.slice (some ⟨w2.heap.size, 0, none⟩) k k, .slice (some ⟨wa.heap.size, 0, none⟩) 1 1]
          rw [World.size_alloc] at this
          exact this
        generalize (wa.alloc (.cells #[.int .u8 1] 5)).alloc (.cells #[.slice (some ⟨w2.heap.size, 0, none⟩) k k, .slice (some ⟨wa.heap.size, 0, none⟩) 1 1] 48) = w3 at *
        have HST3 := Lib.hid ((HST.out.below HBA.out).below hb3)
        have HB3 : Hid (Below W.heap.size W w3) := HB2.out.trans ((HBA.out.mono (by omega)).trans (hb3.mono (by have := HBA.out.size; omega)))
        have HRAW := Lib.hid (raw_full W.heap.size w3 rb [] v bs HST3.out (by have := HLEN.out; omega) (wa.heap.size + 1) _ _ k 1 k 1 (hp3.cell 0) (hp3.cell 1) (by have := HLEN.out; omega) (by have := HLEN.out; omega) 2)
        clear hb3 hp3 hma hmb
        refine HRAW.out.mono ?_; rintro e w' ⟨rfl, rfl⟩
        go_wp2_with fail
        refine (len_any HST3.out).mono ?_; rintro e w' ⟨rfl, rfl⟩
        rw [HLENN.out]
        go_wp2_with fail
        refine (awake2_any _).mono ?_; rintro e w7 ⟨rfl, hb7⟩
        have hszy := HB3.out.size
        have HB7 : Hid (Below W.heap.size W w7) := HB3.out.trans (hb7.mono (by omega))
        clear hb7
        go_wp2_with fail
        go_ret
        exact ⟨rfl, HB7.out⟩
      · have HSTB := Lib.hid (HST.out.below HBB.out)
        have HBW : Hid (Below W.heap.size W wb) := HB2.out.trans (HBB.out.mono (by omega))
        have hszb := HBB.out.size
        have HNM : Hid (¬ Mine rb v w2.heap.size) := fun hm => by have := (HST.out.mine_lt _ hm).2; omega
        have HDV : Hid (k ≤ (1048576 - bs.length) / 1) := by show k ≤ _; rw [Nat.div_one]; have := HLEN.out; omega
        clear hma hmb
        refine (num_ok W.heap.size wb rb [] v bs HSTB.out (by omega) (by have := HLEN.out; omega) 1 (by decide) w2.heap.size 0 k k (List.replicate k 0) (by simp) (fun x hx => by rw [List.eq_of_mem_replicate hx]; simp [U64]) HDV.out HWB.out hlb HNM.out).mono ?_
        rintro e w5 ⟨rfl, v5, st5, ch5, ow5⟩
        have hl5 : (bs ++ lows 1 (List.replicate k 0) k).length = 1048576 := by
          rw [List.length_append, lows_length 1 _ k (by simp)]; have := HLEN.out; omega
        have HST5 := Lib.hid st5
        have HB5 : Hid (Below W.heap.size W w5) := HBW.out.trans (ch5.below W.heap.size (by omega) (fun j hj hm => by have := (HSTB.out.mine_lt j hm).1; omega))
        have HL5 := Lib.hid hl5
        clear st5 ch5 ow5 hl5
        generalize bs ++ lows 1 (List.replicate k 0) k = bs5 at *
        go_wp2_with fail
        refine (len_any HST5.out).mono ?_; rintro e w' ⟨rfl, rfl⟩
        rw [HL5.out]
        go_wp2_with fail
        have hb6 : Below w5.heap.size w5 (w5.alloc (.cells #[.int .u64 5] 22)) := (Below.refl _ _).alloc (Nat.le_refl _) _
        generalize w5.alloc (.cells #[.int .u64 5] 22) = w6 at *
        have HST6 := Lib.hid (HST5.out.below hb6)
        have hszz := HB5.out.size
        have HB6 : Hid (Below W.heap.size W w6) := HB5.out.trans (hb6.mono (by omega))
        clear hb6
        obtain ⟨A6, c6, hv6, _, _⟩ := own_form HST6.out.own
        have hc6 : w6.cell? ⟨rb, 0, none⟩ = some (.slice A6 bs5.length c6) := by
          have := HST6.out.box.cell 0; rw [hv6] at this; simpa using this
        have HNF := Lib.hid (num_full rb A6 bs5.length c6 1 (by decide) (some ⟨w5.heap.size, 0, none⟩) 1 1 w6 hc6 (by rw [HL5.out]; exact Nat.le_refl _) (by rw [HL5.out]; decide))
        clear hc6 hv6
        refine HNF.out.mono ?_; rintro e w' ⟨rfl, rfl⟩
        go_wp2_with fail
        refine (awake2_any _).mono ?_; rintro e w7 ⟨rfl, hb7⟩
        have hszy := HB6.out.size
        have HB7 : Hid (Below W.heap.size W w7) := HB6.out.trans (hb7.mono (by omega))
        clear hb7
        go_wp2_with fail
        go_ret
        exact ⟨rfl, HB7.out⟩
      · clear hma hmb
        refine (pad_ok W.heap.size w2 rb [] v bs HST.out (by omega) k HLEN.out hk1).mono ?_
        rintro e w5 ⟨rfl, v5, st5, ch5, ow5⟩
        have hl5 : (bs ++ List.replicate k 0).length = 1048576 := by
          rw [List.length_append, List.length_replicate]; have := HLEN.out; omega
        have HST5 := Lib.hid st5
        have HB5 : Hid (Below W.heap.size W w5) := HB2.out.trans (ch5.below W.heap.size (by omega) (fun j hj hm => by have := (HST.out.mine_lt j hm).1; omega))
        have HL5 := Lib.hid hl5
        clear st5 ch5 ow5 hl5
        generalize bs ++ List.replicate k 0 = bs5 at *
        go_wp2_with fail
        refine (len_any HST5.out).mono ?_; rintro e w' ⟨rfl, rfl⟩
        rw [HL5.out]
        go_wp2_with fail
        have hb6 : Below w5.heap.size w5 (w5.alloc (.cells #[.int .u64 5] 22)) := (Below.refl _ _).alloc (Nat.le_refl _) _
        generalize w5.alloc (.cells #[.int .u64 5] 22) = w6 at *
        have HST6 := Lib.hid (HST5.out.below hb6)
        have hszz := HB5.out.size
        have HB6 : Hid (Below W.heap.size W w6) := HB5.out.trans (hb6.mono (by omega))
        clear hb6
        obtain ⟨A6, c6, hv6, _, _⟩ := own_form HST6.out.own
        have hc6 : w6.cell? ⟨rb, 0, none⟩ = some (.slice A6 bs5.length c6) := by
          have := HST6.out.box.cell 0; rw [hv6] at this; simpa using this
        have HNF := Lib.hid (num_full rb A6 bs5.length c6 1 (by decide) (some ⟨w5.heap.size, 0, none⟩) 1 1 w6 hc6 (by rw [HL5.out]; exact Nat.le_refl _) (by rw [HL5.out]; decide))
        clear hc6 hv6
        refine HNF.out.mono ?_; rintro e w' ⟨rfl, rfl⟩
        go_wp2_with fail
        refine (awake2_any _).mono ?_; rintro e w7 ⟨rfl, hb7⟩
        have hszy := HB6.out.size
        have HB7 : Hid (Below W.heap.size W w7) := HB6.out.trans (hb7.mono (by omega))
        clear hb7
        go_wp2_with fail
        go_ret
        exact ⟨rfl, HB7.out⟩
end Go.Proofs.Ytkjbhhbgfhicgaa
