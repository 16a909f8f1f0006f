/- Walks of layer 2: views that have failed, or fail. -/
import Derived.Test.YtfcooaafhpoobaaRopg
namespace Go.Proofs.Ytfcooaafhpoobaa
open Go.RowKit Rp
open Cq (U64 I64 isW)

theorem take_err (B : Nat) (W : World) (vb : Nat) (v : Value) (bs : List Int) (a x m : Int) (h : Vw B W vb v bs a x) (hx : x ≠ 0) :
    Calls Try.prog 58 #[.pointer (some ⟨vb, 0, none⟩), .int .i64 m] W fun e W' => e = .returned (.tuple #[.int .i64 0, .bool false]) ∧ W = W' := by
  obtain ⟨_, _, hc2⟩ := h.cells
  have hx1 : (x != 0) = true := by simpa using hx
  have hx2 : (x == 0) = false := by simpa using hx
  clear h hx
  go_enter Try.func58, Try.ntmps58
  go_wp2_with fail
  go_ret2
  exact ⟨rfl, rfl⟩
theorem take_range (B : Nat) (W : World) (vb : Nat) (v : Value) (bs : List Int) (a m : Int) (h : Vw B W vb v bs a 0) (hb : bs.length ≤ 1048576) (hh : hasB a m bs.length = false) :
    Calls Try.prog 58 #[.pointer (some ⟨vb, 0, none⟩), .int .i64 m] W fun e W' => e = .returned (.tuple #[.int .i64 0, .bool false]) ∧ VTo B W W' vb v bs a 7 := by
  obtain ⟨A, c, hv, _, _⟩ := own_form h.own
  obtain ⟨hc0, hc1, hc2⟩ := h.cells
  have hf2 := h.box.frozen 2
  rw [hv] at hc0
  have HH := Lib.hid hh
  have H := Lib.hid h
  clear h hv hh
  go_enter Try.func58, Try.ntmps58
  go_wp2_with fail
  go_quiet ((go_at_call 103; exact quiet_left (has_any vb A bs.length c a m _ (by simpa using hc0) (by omega))))
  rw [HH.out]
  have HF : Hid (VTo B W ((W.drewN nq).setCell ⟨vb, 2, none⟩ (.int .i64 7)) vb v bs a 7) :=
    ⟨(H.out.drewN nq).put2 _, ((Chg.refl (fun k => k = vb) W).drewN nq).setCell (p := ⟨vb, 2, none⟩) (fun _ => rfl) _⟩
  go_wp2_with fail
  go_ret2
  exact ⟨rfl, HF.out⟩
/-- what a view stands at behind n bytes that it takes -/
def vAt (a x m : Int) (n : Nat) : Int := if x = 0 ∧ hasB a m n = true then a + m else a
def vErr (a x m : Int) (n : Nat) : Int := if x = 0 then (if hasB a m n then 0 else 7) else x
theorem take_any (B : Nat) (W : World) (vb : Nat) (v : Value) (bs : List Int) (a x m : Int) (h : Vw B W vb v bs a x) (hb : bs.length ≤ 1048576) :
    Calls Try.prog 58 #[.pointer (some ⟨vb, 0, none⟩), .int .i64 m] W fun e W' =>
      e = .returned (.tuple #[.int .i64 (if x = 0 ∧ hasB a m bs.length = true then a else 0), .bool (decide (x = 0 ∧ hasB a m bs.length = true))]) ∧ VTo B W W' vb v bs (vAt a x m bs.length) (vErr a x m bs.length) := by
  unfold vAt vErr
  by_cases hx : x = 0
  · subst hx
    cases hh : hasB a m bs.length
    · refine (take_range B W vb v bs a m h hb hh).mono ?_
      rintro e W' ⟨h1, h2⟩
      exact ⟨by rw [h1]; simp, by simpa using h2⟩
    · have ⟨g1, g2, g3⟩ := hasB_is hh
      obtain ⟨y, rfl⟩ := Int.eq_ofNat_of_zero_le g1
      obtain ⟨z, rfl⟩ := Int.eq_ofNat_of_zero_le g2
      refine (take_ok B W vb v bs y z h hb (by omega)).mono ?_
      rintro e W' ⟨h1, h2⟩
      exact ⟨by rw [h1]; simp, by simpa using h2⟩
  · refine (take_err B W vb v bs a x m h hx).mono ?_
    rintro e W' ⟨h1, rfl⟩
    refine ⟨by rw [h1]; simp [hx], ?_⟩
    rw [if_neg (by simp [hx]), if_neg hx]
    exact ⟨h, Chg.refl _ _⟩
theorem skip_any (B : Nat) (W : World) (vb : Nat) (v : Value) (bs : List Int) (a x m : Int) (h : Vw B W vb v bs a x) (hb : bs.length ≤ 1048576) :
    Calls Try.prog 22 #[.pointer (some ⟨vb, 0, none⟩), .int .i64 m] W fun e W' => e = .returned (.tuple #[]) ∧ VTo B W W' vb v bs (vAt a x m bs.length) (vErr a x m bs.length) := by
  by_cases hk : x = 0 ∧ hasB a m bs.length = true
  · have HT := Lib.hid (take_any B W vb v bs a x m h hb)
    rw [if_pos hk, decide_eq_true hk] at HT
    clear h hk
    go_enter Try.func22, Try.ntmps22
    go_wp2_with fail
    refine HT.out.mono ?_; rintro e w' ⟨rfl, hv⟩
    have HV := Lib.hid hv
    clear hv
    go_wp2_with fail
    go_end0
    exact ⟨rfl, HV.out⟩
  · have HT := Lib.hid (take_any B W vb v bs a x m h hb)
    rw [if_neg hk, decide_eq_false hk] at HT
    clear h hk
    go_enter Try.func22, Try.ntmps22
    go_wp2_with fail
    refine HT.out.mono ?_; rintro e w' ⟨rfl, hv⟩
    have HV := Lib.hid hv
    clear hv
    go_wp2_with fail
    go_end0
    exact ⟨rfl, HV.out⟩
/-- the bytes that a view hands out -/
def vRaw (bs : List Int) (a x m : Int) : List Int := if x = 0 ∧ hasB a m bs.length = true then cut bs a.toNat m.toNat else []
theorem raw_any (B : Nat) (W : World) (vb : Nat) (v : Value) (bs : List Int) (a x m : Int) (h : Vw B W vb v bs a x) (hb : bs.length ≤ 1048576) :
    Calls Try.prog 21 #[.pointer (some ⟨vb, 0, none⟩), .int .i64 m] W fun e W' => ∃ A c, e = .returned (.slice A (vRaw bs a x m).length c) ∧ Reads W' A (vRaw bs a x m) ∧ (A = none → vRaw bs a x m = []) ∧ (∀ p, A = some p → W.heap.size ≤ p.block) ∧
      VTo B W W' vb v bs (vAt a x m bs.length) (vErr a x m bs.length) := by
  by_cases hk : x = 0 ∧ hasB a m bs.length = true
  · have HT := Lib.hid (take_any B W vb v bs a x m h hb)
    rw [if_pos hk, decide_eq_true hk] at HT
    rw [show vRaw bs a x m = cut bs a.toNat m.toNat by unfold vRaw; rw [if_pos hk]]
    obtain ⟨rfl, hh⟩ := hk
    have ⟨g1, g2, g3⟩ := hasB_is hh
    obtain ⟨y, rfl⟩ := Int.eq_ofNat_of_zero_le g1
    obtain ⟨z, rfl⟩ := Int.eq_ofNat_of_zero_le g2
    rw [Int.toNat_natCast, Int.toNat_natCast]
    clear h hh
    go_enter Try.func21, Try.ntmps21
    go_wp2_with fail
    refine HT.out.mono ?_; rintro e w1 ⟨rfl, hv, hch⟩
    have HV := Lib.hid hv
    have HC := Lib.hid hch
    clear hv hch
    go_wp2_with fail
    refine (clone_any (W := w1) HV.out y z (by omega) hb).mono ?_; rintro e w2 ⟨_, rfl, g, rfl, hg, hbx, hbl⟩
    have hgW : W.heap.size ≤ g := Nat.le_trans HC.out.size hg
    have HF : Hid (W.heap.size ≤ g ∧ Reads w2 (some ⟨g, 0, none⟩) (cut bs y z) ∧ VTo B W w2 vb v bs (vAt y 0 z bs.length) (vErr y 0 z bs.length)) := ⟨hgW, Box.reads hbx, HV.out.below hbl, HC.out.thenBelow hbl⟩
    clear hbx hbl hg hgW
    go_wp2_with fail
    go_ret
    exact ⟨_, _, rfl, HF.out.2.1, (fun h => by cases h), (fun p hp => by injection hp with hp; subst hp; exact HF.out.1), HF.out.2.2⟩
  · have HT := Lib.hid (take_any B W vb v bs a x m h hb)
    rw [if_neg hk, decide_eq_false hk] at HT
    rw [show vRaw bs a x m = [] by unfold vRaw; rw [if_neg hk]]
    clear h hk
    go_enter Try.func21, Try.ntmps21
    go_wp2_with fail
    refine HT.out.mono ?_; rintro e w1 ⟨rfl, hv⟩
    have HV := Lib.hid hv
    clear hv
    go_wp2_with fail
    go_ret
    exact ⟨none, 0, rfl, fun h => absurd h (by simp), (fun _ => by trivial), (fun p hp => by cases hp), HV.out⟩
end Go.Proofs.Ytfcooaafhpoobaa
