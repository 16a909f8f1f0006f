/- Walks of layer 2: views. -/
import Derived.Test.YtfcooaafhpoobaaRopr
namespace Go.Proofs.Ytfcooaafhpoobaa
open Go.RowKit Rp
open Cq (U64 I64 isW)

/-- a view at block vb: its bytes, where it stands, what was wrong first -/
def Vw (B : Nat) (W : World) (vb : Nat) (v : Value) (bs : List Int) (a x : Int) : Prop := St B 5 W vb 112 [.int .i64 a, .int .i64 x] v bs
def VTo (B : Nat) (W W' : World) (vb : Nat) (v : Value) (bs : List Int) (a x : Int) : Prop := Vw B W' vb v bs a x ∧ Chg (fun k => k = vb) W W'
theorem Vw.cells {B : Nat} {W : World} {vb : Nat} {v : Value} {bs : List Int} {a x : Int} (h : Vw B W vb v bs a x) :
    W.cell? ⟨vb, 0, none⟩ = some v ∧ W.cell? ⟨vb, 1, none⟩ = some (.int .i64 a) ∧ W.cell? ⟨vb, 2, none⟩ = some (.int .i64 x) :=
  ⟨h.box.cell 0, h.box.cell 1, h.box.cell 2⟩
theorem Vw.put1 {B : Nat} {W : World} {vb : Nat} {v : Value} {bs : List Int} {a x : Int} (h : Vw B W vb v bs a x) (b : Int) : Vw B (W.setCell ⟨vb, 1, none⟩ (.int .i64 b)) vb v bs b x :=
  ⟨h.low, h.box.put 1 (.int .i64 b), ownsRow_setCell_other h.own (a := ⟨vb, 1, none⟩) (ownBlock_ne h.own h.box h.ne) _, h.ne⟩
theorem Vw.put2 {B : Nat} {W : World} {vb : Nat} {v : Value} {bs : List Int} {a x : Int} (h : Vw B W vb v bs a x) (y : Int) : Vw B (W.setCell ⟨vb, 2, none⟩ (.int .i64 y)) vb v bs a y :=
  ⟨h.low, h.box.put 2 (.int .i64 y), ownsRow_setCell_other h.own (a := ⟨vb, 2, none⟩) (ownBlock_ne h.own h.box h.ne) _, h.ne⟩
theorem Vw.drewN {B : Nat} {W : World} {vb : Nat} {v : Value} {bs : List Int} {a x : Int} (h : Vw B W vb v bs a x) (n : Nat) : Vw B (W.drewN n) vb v bs a x :=
  St.chg h ((Chg.refl (fun _ => False) W).drewN n) (fun _ _ a => a)
set_option maxRecDepth 100000 in
theorem read_ok (B : Nat) (W : World) (sb : Nat) (rest : List Value) (v : Value) (bs : List Int) (h : St B 5 W sb 98 rest v bs) (hb : bs.length ≤ 1048576) (a : Int) (ha : inB a bs.length = true) :
    Calls Try.prog 15 #[.pointer (some ⟨sb, 0, none⟩), .int .i64 a] W fun e W' => ∃ vb v', e = .returned (.pointer (some ⟨vb, 0, none⟩)) ∧ Vw W.heap.size W' vb v' bs a 0 ∧ Below W.heap.size W W' := by
  obtain ⟨A, c, hv, _, _⟩ := own_form h.own
  have hc := h.box.cell 0
  simp only [List.getElem?_cons_zero] at hc
  rw [hv] at hc
  have H := Lib.hid h
  have HA := Lib.hid ha
  clear h hv ha
  go_enter Try.func15, Try.ntmps15
  go_wp2_with fail
  refine (inside_any sb A bs.length c a _ hc).mono ?_; rintro e w' ⟨rfl, rfl⟩
  rw [HA.out]
  go_wp2_with fail
  refine (bytes_any H.out hb).mono ?_; rintro e w1 ⟨_, rfl, g, rfl, hg, hbx, hbl⟩
  have HBX := Lib.hid hbx
  have HBL := Lib.hid hbl
  have HG := Lib.hid hg
  clear hbx hbl hg hc
  go_wp2_with fail
  have hfin : Vw W.heap.size (w1.alloc (.cells #[.slice (some ⟨g, 0, none⟩) bs.length bs.length, .int .i64 a, .int .i64 0] 112)) w1.heap.size (.slice (some ⟨g, 0, none⟩) bs.length bs.length) bs a 0
      ∧ Below W.heap.size W (w1.alloc (.cells #[.slice (some ⟨g, 0, none⟩) bs.length bs.length, .int .i64 a, .int .i64 0] 112)) := by
    have hba : Below w1.heap.size w1 (w1.alloc (.cells #[.slice (some ⟨g, 0, none⟩) bs.length bs.length, .int .i64 a, .int .i64 0] 112)) := (Below.refl _ _).alloc (Nat.le_refl _) _
    refine ⟨⟨HBL.out.size, Box.fresh w1 112 [.slice (some ⟨g, 0, none⟩) bs.length bs.length, .int .i64 a, .int .i64 0], ?_, by decide⟩, below_trans HBL.out hba⟩
    have hk := HBX.out.kept (hba.block g HBX.out.lt)
    refine ⟨by rw [cellsOf_length]; omega, .inr ⟨g, bs.length, (cellsOf bs).toArray, rfl, HG.out, hk, Nat.le_refl _, by unfold maxLen; omega, by simp [cellsOf_length], ?_⟩⟩
    show (cellsOf bs).take _ = _
    rw [List.take_of_length_le (by rw [cellsOf_length]; omega)]
  have HF := Lib.hid hfin
  clear hfin
  go_ret
  exact ⟨_, _, rfl, HF.out.1, HF.out.2⟩
theorem take_ok (B : Nat) (W : World) (vb : Nat) (v : Value) (bs : List Int) (a m : Nat) (h : Vw B W vb v bs a 0) (hb : bs.length ≤ 1048576) (ham : a + m ≤ bs.length) :
    Calls Try.prog 58 #[.pointer (some ⟨vb, 0, none⟩), .int .i64 m] W fun e W' => e = .returned (.tuple #[.int .i64 a, .bool true]) ∧ VTo B W W' vb v bs ((a + m : Nat) : Int) 0 := by
  obtain ⟨A, c, hv, _, _⟩ := own_form h.own
  obtain ⟨hc0, hc1, hc2⟩ := h.cells
  have hf1 := h.box.frozen 1
  rw [hv] at hc0
  have hhas : hasB a m bs.length = true := by simp [hasB, inB]; omega
  have HH := Lib.hid hhas
  have H := Lib.hid h
  clear h hv hhas
  go_enter Try.func58, Try.ntmps58
  go_wp2_with fail
  go_quiet ((go_at_call 103; exact quiet_left (has_any vb A bs.length c a m _ (by simpa using hc0) (by omega))))
  rw [HH.out]
  have HF : Hid (VTo B W ((W.drewN nq).setCell ⟨vb, 1, none⟩ (.int .i64 ((a + m : Nat) : Int))) vb v bs ((a + m : Nat) : Int) 0) :=
    ⟨(H.out.drewN nq).put1 _, ((Chg.refl (fun k => k = vb) W).drewN nq).setCell (p := ⟨vb, 1, none⟩) (fun _ => rfl) _⟩
  go_wp2_with fail
  go_ret2
  exact ⟨rfl, HF.out⟩
theorem vnum_ok (B : Nat) (W : World) (vb : Nat) (v : Value) (bs : List Int) (a w : Nat) (h : Vw B W vb v bs a 0) (h8 : Bytes8 bs) (hw : isW w = true) (hb : bs.length ≤ 1048576) (ham : a + w ≤ bs.length) :
    Calls Try.prog 18 #[.pointer (some ⟨vb, 0, none⟩), .int .i64 w] W fun e W' => e = .returned (.int .u64 (val (cut bs a w) w)) ∧ VTo B W W' vb v bs ((a + w : Nat) : Int) 0 := by
  obtain ⟨hc0, hc1, hc2⟩ := h.cells
  have hw4 := Cq.isW_cases hw
  have hw5 : w = 1 ∨ w = 2 ∨ w = 4 ∨ w = 8 := by omega
  have H := Lib.hid h
  have HW5 := Lib.hid hw5
  clear h hc0 hc1 hw4 hw5
  go_enter Try.func18, Try.ntmps18
  go_wp2_with fail
  refine (is_any _ _).mono ?_; rintro e w' ⟨rfl, rfl⟩
  rw [hw]
  go_wp2_with fail
  refine (take_ok B _ vb v bs a w H.out hb ham).mono ?_; rintro e w1 ⟨rfl, hv1, hch1⟩
  have HV1 := Lib.hid hv1
  have HC1 := Lib.hid hch1
  clear hv1 hch1 hc2
  go_wp2_with fail
  refine (number_any (W := w1) HV1.out h8 a w HW5.out ham hb).mono ?_; rintro e w2 ⟨rfl, hb2⟩
  have HF : Hid (VTo B W w2 vb v bs ((a + w : Nat) : Int) 0) := ⟨HV1.out.below hb2, HC1.out.thenBelow hb2⟩
  clear hb2
  go_wp2_with fail
  go_ret
  exact ⟨rfl, HF.out⟩
theorem verr_any {B : Nat} {W : World} {vb : Nat} {v : Value} {bs : List Int} {a x : Int} (h : Vw B W vb v bs a x) :
    Calls Try.prog 23 #[.pointer (some ⟨vb, 0, none⟩)] W fun e W' => e = .returned (.int .i64 x) ∧ W = W' := by
  have hc := h.cells.2.2
  clear h
  go_enter Try.func23, Try.ntmps23
  go_wp2
  go_ret
  exact ⟨rfl, rfl⟩
theorem vat_any {B : Nat} {W : World} {vb : Nat} {v : Value} {bs : List Int} {a x : Int} (h : Vw B W vb v bs a x) :
    Calls Try.prog 24 #[.pointer (some ⟨vb, 0, none⟩)] W fun e W' => e = .returned (.int .i64 a) ∧ W = W' := by
  have hc := h.cells.2.1
  clear h
  go_enter Try.func24, Try.ntmps24
  go_wp2
  go_ret
  exact ⟨rfl, rfl⟩
theorem vleft_ok {B : Nat} {W : World} {vb : Nat} {v : Value} {bs : List Int} {a : Int} (h : Vw B W vb v bs a 0) (hb : bs.length ≤ 1048576) (ha : 0 ≤ a ∧ a ≤ bs.length) :
    Calls Try.prog 25 #[.pointer (some ⟨vb, 0, none⟩)] W fun e W' => e = .returned (.int .i64 (bs.length - a)) ∧ Drawn W W' := by
  obtain ⟨A, c, hv, _, _⟩ := own_form h.own
  obtain ⟨hc0, hc1, hc2⟩ := h.cells
  rw [hv] at hc0
  clear h hv
  have e1 : IntKind.i64.wrap ((bs.length : Int) - a) = (bs.length : Int) - a := IntWalk.i64_in _ (by omega)
  go_enter Try.func25, Try.ntmps25
  go_wp2_with fail
  go_quiet ((go_at_call 54; exact quiet_left (stsize_any vb A bs.length c _ (by simpa using hc0))))
  go_wp2_with fail
  go_ret
  exact ⟨rfl, (Drawn.refl _).drewN _⟩
theorem vleft_err {B : Nat} {W : World} {vb : Nat} {v : Value} {bs : List Int} {a x : Int} (h : Vw B W vb v bs a x) (hx : x ≠ 0) :
    Calls Try.prog 25 #[.pointer (some ⟨vb, 0, none⟩)] W fun e W' => e = .returned (.int .i64 0) ∧ W = W' := by
  obtain ⟨hc0, hc1, hc2⟩ := h.cells
  have hx1 : (x != 0) = true := by simpa using hx
  have hx2 : (x == 0) = false := by simpa using hx
  clear h hc0 hc1 hx
  go_enter Try.func25, Try.ntmps25
  go_wp2_with fail
  go_ret
  exact ⟨rfl, rfl⟩
end Go.Proofs.Ytfcooaafhpoobaa
