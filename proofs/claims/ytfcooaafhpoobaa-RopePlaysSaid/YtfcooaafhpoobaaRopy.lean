/- Walks of layer 2: whatever is read of a view; the document's own view. -/
import Derived.Test.YtfcooaafhpoobaaRopx
namespace Go.Proofs.Ytfcooaafhpoobaa
open Go.RowKit Rp
open Cq (U64 I64 isW)

/-- what was wrong first, behind the question whether w is a width -/
def xW (x w : Int) : Int := if x = 0 ∧ isW w = false then 2 else x
theorem vRaw_err {bs : List Int} {a x m : Int} (h : x ≠ 0) : vRaw bs a x m = [] := by unfold vRaw; rw [if_neg (by simp [h])]
theorem vAt_err {a x m : Int} {n : Nat} (h : x ≠ 0) : vAt a x m n = a := by unfold vAt; rw [if_neg (by simp [h])]
theorem vErr_err {a x m : Int} {n : Nat} (h : x ≠ 0) : vErr a x m n = x := by unfold vErr; rw [if_neg h]
theorem vnum_any (B : Nat) (W : World) (vb : Nat) (v : Value) (bs : List Int) (a x w : Int) (h : Vw B W vb v bs a x) (h8 : Bytes8 bs) (hb : bs.length ≤ 1048576) :
    Calls Try.prog 18 #[.pointer (some ⟨vb, 0, none⟩), .int .i64 w] W fun e W' => e = .returned (.int .u64 (val (vRaw bs a (xW x w) w) (vRaw bs a (xW x w) w).length)) ∧
      VTo B W W' vb v bs (vAt a (xW x w) w bs.length) (vErr a (xW x w) w bs.length) := by
  by_cases hx : x = 0
  · subst hx
    cases hw : isW w
    · have e2 : xW 0 w = 2 := by unfold xW; rw [if_pos ⟨rfl, hw⟩]
      rw [e2, vRaw_err (by decide), vAt_err (by decide), vErr_err (by decide)]
      obtain ⟨hc0, hc1, hc2⟩ := h.cells
      have hf2 := h.box.frozen 2
      have HF : Hid (VTo B W (W.setCell ⟨vb, 2, none⟩ (.int .i64 2)) vb v bs a 2) :=
        ⟨h.put2 _, (Chg.refl (fun k => k = vb) W).setCell (p := ⟨vb, 2, none⟩) (fun _ => rfl) _⟩
      clear h e2
      go_enter Try.func18, Try.ntmps18
      go_wp2_with fail
      refine (is_any _ _).mono ?_; rintro e w' ⟨rfl, rfl⟩
      rw [hw]
      go_wp2_with fail
      go_ret
      exact ⟨rfl, HF.out⟩
    · have e2 : xW 0 w = 0 := by unfold xW; rw [if_neg (by simp [hw])]
      rw [e2]
      cases hh : hasB a w bs.length
      · have HT := Lib.hid (take_range B W vb v bs a w h hb hh)
        have e3 : vRaw bs a 0 w = [] := by unfold vRaw; rw [if_neg (by simp [hh])]
        have e4 : vAt a 0 w bs.length = a := by unfold vAt; rw [if_neg (by simp [hh])]
        have e5 : vErr a 0 w bs.length = 7 := by unfold vErr; rw [if_pos rfl, hh]; rfl
        rw [e3, e4, e5]
        have hc2 := h.cells.2.2
        clear h hh e2 e3 e4 e5
        go_enter Try.func18, Try.ntmps18
        go_wp2_with fail
        refine (is_any _ _).mono ?_; rintro e w' ⟨rfl, rfl⟩
        rw [hw]
        go_wp2_with fail
        refine HT.out.mono ?_; rintro e w1 ⟨rfl, hv⟩
        have HV := Lib.hid hv
        clear hv hc2
        go_wp2_with fail
        go_ret
        exact ⟨rfl, HV.out⟩
      · have ⟨g1, g2, g3⟩ := hasB_is hh
        have hk : (0 : Int) = 0 ∧ hasB a w bs.length = true := ⟨rfl, hh⟩
        have e3 : vRaw bs a 0 w = cut bs a.toNat w.toNat := by unfold vRaw; rw [if_pos hk]
        have e4 : vAt a 0 w bs.length = a + w := by unfold vAt; rw [if_pos hk]
        have e5 : vErr a 0 w bs.length = 0 := by unfold vErr; rw [if_pos rfl, hh]; rfl
        rw [e3, e4, e5]
        clear e2 e3 e4 e5 hk hh
        obtain ⟨y, rfl⟩ := Int.eq_ofNat_of_zero_le g1
        obtain ⟨z, rfl⟩ := Int.eq_ofNat_of_zero_le g2
        rw [Int.toNat_natCast, Int.toNat_natCast, cut_length bs y z (by omega)]
        exact vnum_ok B W vb v bs y z h h8 hw hb (by omega)
  · have e2 : xW x w = x := by unfold xW; rw [if_neg (by simp [hx])]
    rw [e2, vRaw_err hx, vAt_err hx, vErr_err hx]
    obtain ⟨_, _, hc2⟩ := h.cells
    have hx1 : (x != 0) = true := by simpa using hx
    have hx2 : (x == 0) = false := by simpa using hx
    have HF : Hid (VTo B W W vb v bs a x) := ⟨h, Chg.refl _ _⟩
    clear h hx e2
    go_enter Try.func18, Try.ntmps18
    go_wp2_with fail
    go_ret
    exact ⟨rfl, HF.out⟩
theorem read_err (B : Nat) (W : World) (sb : Nat) (rest : List Value) (v : Value) (bs : List Int) (h : St B 5 W sb 98 rest v bs) (a : Int) (ha : inB a bs.length = false) :
    Calls Try.prog 15 #[.pointer (some ⟨sb, 0, none⟩), .int .i64 a] W fun e W' => ∃ vb v', e = .returned (.pointer (some ⟨vb, 0, none⟩)) ∧ Vw W.heap.size W' vb v' [] 0 7 ∧ Below W.heap.size W W' := by
  obtain ⟨A, c, hv, _, _⟩ := own_form h.own
  have hc := h.box.cell 0
  simp only [List.getElem?_cons_zero] at hc
  rw [hv] at hc
  have HA := Lib.hid ha
  clear h hv ha
  have hfin : Vw W.heap.size (W.alloc (.cells #[.slice none 0 0, .int .i64 0, .int .i64 7] 112)) W.heap.size (.slice none 0 0) [] 0 7
      ∧ Below W.heap.size W (W.alloc (.cells #[.slice none 0 0, .int .i64 0, .int .i64 7] 112)) :=
    ⟨⟨Nat.le_refl _, Box.fresh W 112 [.slice none 0 0, .int .i64 0, .int .i64 7], World.ownsRow_nil _ _ _ _, by decide⟩, (Below.refl _ _).alloc (Nat.le_refl _) _⟩
  have HF := Lib.hid hfin
  clear hfin
  go_enter Try.func15, Try.ntmps15
  go_wp2_with fail
  refine (inside_any sb A bs.length c a _ hc).mono ?_; rintro e w' ⟨rfl, rfl⟩
  rw [HA.out]
  go_wp2_with fail
  go_ret
  exact ⟨_, _, rfl, HF.out.1, HF.out.2⟩
theorem rhas_any (A : Option Addr) (n c : Nat) (a m : Int) (W : World) (hn : n ≤ 1048576) :
    Calls Try.prog 16 #[.slice A n c, .int .i64 a, .int .i64 m] W fun e W' => e = .returned (.bool (hasB a m n)) ∧ W = W' := by
  by_cases h1 : 0 ≤ a
  · by_cases h2 : a ≤ n
    · by_cases h3 : 0 ≤ m
      · have e1 : IntKind.i64.wrap ((n : Int) - a) = (n : Int) - a := IntWalk.i64_in _ (by omega)
        go_enter Try.func16, Try.ntmps16
        go_wp2_with fail
        go_ret
        exact ⟨by simp [hasB, inB, h1, h2, h3], rfl⟩
      · go_enter Try.func16, Try.ntmps16
        go_wp2_with fail
        go_ret
        exact ⟨by simp [hasB, inB]; omega, rfl⟩
    · go_enter Try.func16, Try.ntmps16
      go_wp2_with fail
      go_ret
      exact ⟨by simp [hasB, inB]; omega, rfl⟩
  · go_enter Try.func16, Try.ntmps16
    go_wp2_with fail
    go_ret
    exact ⟨by simp [hasB, inB]; omega, rfl⟩
/-- the document's own view at block rb -/
def Rv (W : World) (rb : Nat) (A : Option Addr) (n c : Nat) (a x : Int) : Prop := Box W rb 41 [.slice A n c, .int .i64 a, .int .i64 x]
theorem Rv.cells {W : World} {rb : Nat} {A : Option Addr} {n c : Nat} {a x : Int} (h : Rv W rb A n c a x) :
    W.cell? ⟨rb, 0, none⟩ = some (.slice A n c) ∧ W.cell? ⟨rb, 1, none⟩ = some (.int .i64 a) ∧ W.cell? ⟨rb, 2, none⟩ = some (.int .i64 x) :=
  ⟨Box.cell h 0, Box.cell h 1, Box.cell h 2⟩
/-- what Take leaves -/
def Took (W W' : World) (rb : Nat) (A : Option Addr) (bs : List Int) (c : Nat) (a x m : Int) (u : Value) : Prop :=
  ∃ A' c', u = .slice A' (vRaw bs a x m).length c' ∧ Reads W' A' (vRaw bs a x m) ∧ (A' = none → vRaw bs a x m = []) ∧
    Rv W' rb A bs.length c (vAt a x m bs.length) (vErr a x m bs.length) ∧ Chg (fun k => k = rb) W W'
set_option maxRecDepth 100000 in
theorem rtake_err (W : World) (rb : Nat) (A : Option Addr) (n c : Nat) (a x m : Int) (h : Rv W rb A n c a x) (hx : x ≠ 0) :
    Calls Try.prog 20 #[.pointer (some ⟨rb, 0, none⟩), .int .i64 m] W fun e W' => e = .returned (.slice none 0 0) ∧ W = W' := by
  obtain ⟨hc0, hc1, hc2⟩ := h.cells
  have hx1 : (x != 0) = true := by simpa using hx
  have hx2 : (x == 0) = false := by simpa using hx
  clear h hx
  go_enter Try.func20, Try.ntmps20
  go_wp2_with fail
  go_ret
  exact ⟨rfl, rfl⟩
set_option maxRecDepth 100000 in
theorem rtake_range (W : World) (rb : Nat) (A : Option Addr) (n c : Nat) (a m : Int) (h : Rv W rb A n c a 0) (hn : n ≤ 1048576) (hh : hasB a m n = false) :
    Calls Try.prog 20 #[.pointer (some ⟨rb, 0, none⟩), .int .i64 m] W fun e W' => e = .returned (.slice none 0 0) ∧ Rv W' rb A n c a 7 ∧ Chg (fun k => k = rb) W W' := by
  obtain ⟨hc0, hc1, hc2⟩ := h.cells
  have hf2 := Box.frozen h 2
  have HH := Lib.hid hh
  have HB := Lib.hid h
  clear h hh
  go_enter Try.func20, Try.ntmps20
  go_wp2_with fail
  go_quiet ((go_at_call 16; exact quiet_left (rhas_any A n c a m _ hn)))
  rw [HH.out]
  have HF : Hid (Rv ((W.drewN nq).setCell ⟨rb, 2, none⟩ (.int .i64 7)) rb A n c a 7 ∧ Chg (fun k => k = rb) W ((W.drewN nq).setCell ⟨rb, 2, none⟩ (.int .i64 7))) :=
    ⟨Box.put (Box.kept (W' := W.drewN nq) HB.out rfl) 2 _, ((Chg.refl (fun k => k = rb) W).drewN nq).setCell (p := ⟨rb, 2, none⟩) (fun _ => rfl) _⟩
  go_wp2_with fail
  go_ret
  exact ⟨rfl, HF.out⟩
/-- where a part of a slice of bytes begins -/
def partAt (A : Option Addr) (a c : Nat) : Option Addr := if c = a then A else A.map (·.add (a * 1))
set_option maxRecDepth 100000 in
theorem slice_lh (A : Option Addr) (n c a m : Nat) (ham : a + m ≤ c) (W : World) :
    (Instr.sliceAt 22 (.slice A n c) (some (.int .i64 (a : Int))) (some (.int .i64 ((a : Int) + (m : Int)))) none).run Try.prog W = .ok (.slice (partAt A a c) m (c - a)) W := by
  rw [run_sliceAt_slice (h := Try.underlying22), run_slice_lh (ht := Try.underlying22) (h0 := by omega) (h1 := by omega) (h2 := by omega)]
  have e : ((a : Int) + (m : Int)).toNat = a + m := by omega
  rw [e, Int.toNat_natCast]
  have hs : (sizeOf (Try.prog.elem 22)).run Try.prog W = .ok 1 W := by kernel_rfl
  rw [hs]
  simp only [Result.andThen, sliced, Nat.add_sub_cancel_left]
  rfl
theorem partAt_reads {W : World} {A : Option Addr} {bs : List Int} (h : Reads W A bs) (hA : A = none → bs = []) (a m c : Nat) (ham : a + m ≤ bs.length) (hc : bs.length ≤ c) :
    Reads W (partAt A a c) (cut bs a m) ∧ (partAt A a c = none → cut bs a m = []) := by
  refine ⟨fun hp => ?_, fun hn => ?_⟩
  · rw [cut_length bs a m ham] at hp
    obtain ⟨g, off, rfl, hg, hcell⟩ := h (by omega)
    refine ⟨g, off + a, by unfold partAt; rw [if_neg (by omega)]; simp [Addr.add], hg, fun i hi => ?_⟩
    rw [cut_length bs a m ham] at hi
    rw [cut_get bs a m i hi, Nat.add_assoc]
    exact hcell (a + i) (by omega)
  · cases A with
    | none => rw [hA rfl]; simp [cut]
    | some b => unfold partAt at hn; split at hn <;> simp at hn
set_option maxRecDepth 100000 in
theorem rtake_ok (W : World) (rb : Nat) (A : Option Addr) (n c a m : Nat) (h : Rv W rb A n c a 0) (hn : n ≤ 1048576) (hnc : n ≤ c) (ham : a + m ≤ n) :
    Calls Try.prog 20 #[.pointer (some ⟨rb, 0, none⟩), .int .i64 m] W fun e W' => e = .returned (.slice (partAt A a c) m (c - a)) ∧ Rv W' rb A n c ((a : Int) + (m : Int)) 0 ∧ Chg (fun k => k = rb) W W' := by
  obtain ⟨hc0, hc1, hc2⟩ := h.cells
  have hf1 := Box.frozen h 1
  have hh : hasB a m n = true := by simp [hasB, inB]; omega
  have HH := Lib.hid hh
  have HB := Lib.hid h
  clear h hh
  go_enter Try.func20, Try.ntmps20
  go_wp2_with fail
  go_quiet ((go_at_call 16; exact quiet_left (rhas_any _ n c a m _ hn)))
  rw [HH.out]
  have HF : Hid (Rv ((W.drewN nq).setCell ⟨rb, 1, none⟩ (.int .i64 ((a : Int) + (m : Int)))) rb A n c ((a : Int) + (m : Int)) 0 ∧ Chg (fun k => k = rb) W ((W.drewN nq).setCell ⟨rb, 1, none⟩ (.int .i64 ((a : Int) + (m : Int))))) :=
    ⟨Box.put (Box.kept (W' := W.drewN nq) HB.out rfl) 1 _, ((Chg.refl (fun k => k = rb) W).drewN nq).setCell (p := ⟨rb, 1, none⟩) (fun _ => rfl) _⟩
  go_wp2_with fail
  generalize (W.drewN nq).setCell ⟨rb, 1, none⟩ (.int .i64 ((a : Int) + (m : Int))) = w2 at *
  obtain ⟨hd0, hd1, _⟩ := HF.out.1.cells
  have e1 : IntKind.i64.wrap ((a : Int) + (m : Int) - (m : Int)) = (a : Int) := by rw [Int.add_sub_cancel]; exact IntWalk.i64_in _ (by omega)
  have e2 : ((a : Int) + (m : Int)).toNat = a + m := by omega
  clear hc0 hc1 hc2 hf1
  by_cases hca : c = a
  · subst hca
    have hsl := slice_lh A n c c m (by omega) w2
    rw [show partAt A c c = A from if_pos rfl] at hsl
    go_region
    go_wp2_with fail
    go_ret
    refine ⟨?_, Box.kept HF.out.1 rfl, HF.out.2.drew⟩
    simp [partAt]
  · have hsl := slice_lh A n c a m (by omega) w2
    rw [show partAt A a c = A.map (·.add (a * 1)) from if_neg hca] at hsl
    go_region
    go_wp2_with fail
    go_ret
    refine ⟨?_, Box.kept HF.out.1 rfl, HF.out.2.drew⟩
    simp [partAt, hca]
theorem rtake_any (W : World) (rb : Nat) (A : Option Addr) (bs : List Int) (c : Nat) (a x m : Int) (h : Rv W rb A bs.length c a x) (hr : Reads W A bs) (hA : A = none → bs = []) (hrb : ∀ b, A = some b → 0 < bs.length → b.block ≠ rb) (hn : bs.length ≤ 1048576) (hnc : bs.length ≤ c) :
    Calls Try.prog 20 #[.pointer (some ⟨rb, 0, none⟩), .int .i64 m] W fun e W' => ∃ u, e = .returned u ∧ Took W W' rb A bs c a x m u := by
  unfold Took
  by_cases hx : x = 0
  · subst hx
    cases hh : hasB a m bs.length
    · refine (rtake_range W rb A bs.length c a m h hn hh).mono ?_
      rintro e W' ⟨rfl, h1, h2⟩
      rw [show vRaw bs a 0 m = [] by unfold vRaw; rw [if_neg (by simp [hh])], show vAt a 0 m bs.length = a by unfold vAt; rw [if_neg (by simp [hh])], show vErr a 0 m bs.length = 7 by unfold vErr; rw [if_pos rfl, hh]; rfl]
      exact ⟨_, rfl, none, 0, rfl, fun h => absurd h (by simp), fun _ => rfl, h1, h2⟩
    · have ⟨g1, g2, g3⟩ := hasB_is hh
      have hk : (0 : Int) = 0 ∧ hasB a m bs.length = true := ⟨rfl, hh⟩
      rw [show vRaw bs a 0 m = cut bs a.toNat m.toNat by unfold vRaw; rw [if_pos hk], show vAt a 0 m bs.length = a + m by unfold vAt; rw [if_pos hk], show vErr a 0 m bs.length = 0 by unfold vErr; rw [if_pos rfl, hh]; rfl]
      clear hk hh
      obtain ⟨y, rfl⟩ := Int.eq_ofNat_of_zero_le g1
      obtain ⟨z, rfl⟩ := Int.eq_ofNat_of_zero_le g2
      rw [Int.toNat_natCast, Int.toNat_natCast, cut_length bs y z (by omega)]
      refine (rtake_ok W rb A bs.length c y z h hn hnc (by omega)).mono ?_
      rintro e W' ⟨rfl, h1, h2⟩
      have hp := partAt_reads (hr.chgp h2 (fun b e ep => hrb b e ep)) hA y z c (by omega) hnc
      exact ⟨_, rfl, _, _, rfl, hp.1, hp.2, h1, h2⟩
  · refine (rtake_err W rb A bs.length c a x m h hx).mono ?_
    rintro e W' ⟨rfl, rfl⟩
    rw [vRaw_err hx, vAt_err hx, vErr_err hx]
    exact ⟨_, rfl, none, 0, rfl, fun h => absurd h (by simp), fun _ => rfl, h, Chg.refl _ _⟩
end Go.Proofs.Ytfcooaafhpoobaa
