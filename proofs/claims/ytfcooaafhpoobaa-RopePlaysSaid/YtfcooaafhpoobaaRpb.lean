/- Walks of layer 2: bytes 0 up to a multiple. -/
import Derived.Test.YtfcooaafhpoobaaRopk
namespace Go.Proofs.Ytfcooaafhpoobaa
open Go.RowKit Rp
open Cq (U64 I64 isW)

/-- how many bytes 0 there are up to a multiple of t -/
def padN (n t : Nat) : Nat := (t - n % t) % t
theorem padN_lt (n t : Nat) (h : 1 ≤ t) : padN n t < t := Nat.mod_lt _ h
theorem pad_arg (g : Nat) (t : Int) (h : t < 1 ∨ 65536 < t) (W : World) :
    Calls Try.prog 100 #[.pointer (some ⟨g, 0, none⟩), .int .i64 t] W fun e W' => e = .returned (.int .i64 2) ∧ W = W' := by
  by_cases h1 : t < 1
  · clear h
    go_enter Try.func100, Try.ntmps100
    go_wp2_with fail
    go_ret
    exact ⟨rfl, rfl⟩
  · have h2 : 65536 < t := by omega
    have h3 : decide (t < 1) = false := decide_eq_false h1
    clear h
    go_enter Try.func100, Try.ntmps100
    go_wp2_with fail
    go_ret
    exact ⟨rfl, rfl⟩
set_option maxRecDepth 100000 in
theorem pad_any (B : Nat) (W : World) (g : Nat) (rest : List Value) (v : Value) (bs : List Int) (hst : St B 5 W g 98 rest v bs) (hB : B ≤ W.heap.size) (hbs : bs.length ≤ 1048576)
    (t : Nat) (ht1 : 1 ≤ t) (ht2 : t ≤ 65536) (hr : padN bs.length t ≤ 1048576 - bs.length) :
    Calls Try.prog 100 #[.pointer (some ⟨g, 0, none⟩), .int .i64 t] W fun e W' => e = .returned (.int .i64 0) ∧ Grew B 5 W W' g 98 rest v (bs ++ List.replicate (padN bs.length t) 0) := by
  obtain ⟨i0, hi, hz0, hz1, hz2⟩ := info_parts infoU8
  obtain ⟨A, c2, hv, _, _⟩ := own_form hst.own
  have hc : W.cell? ⟨g, 0, none⟩ = some (.slice A bs.length c2) := by
    have := hst.box.cell 0; rw [hv] at this; simpa using this
  have hsize := stsize_any g A bs.length c2 W hc
  have hroom := room_any g A bs.length c2 W hc hbs
  obtain ⟨k, hk⟩ : ∃ k, k = padN bs.length t := ⟨_, rfl⟩
  rw [← hk] at hr ⊢
  obtain ⟨w2, hmk, hown, hgr⟩ := run_make_full (P := Try.prog) W.drew 0 22 5 i0 (.int .u8 0) 1 Try.underlying22 hi hz0 hz1 .i64 .i64 k (by rw [hz2]; omega) (by unfold maxLen; omega) (Nat.zero_le _)
  have hbx : Box w2 W.heap.size 5 (cellsOf (List.replicate k 0)) := by
    have h := made_box hown
    rw [show (madeCells (Value.int .u8 0).cells (k * 1)).toList = cellsOf (List.replicate k 0) from made_bytes k] at h
    exact h
  have hmk' : (Instr.makeSlice 22 (.int .i64 k) (.int .i64 k)).run Try.prog W.drew = .ok (.slice (some ⟨W.heap.size, 0, none⟩) k k) w2 := hmk
  clear hmk
  have hbel : Below W.heap.size W w2 := ((Below.refl _ W).drew).grown hgr (Nat.le_refl _) (fun _ h => by cases h)
  have hadd : Calls Try.prog 43 #[.pointer (some ⟨g, 0, none⟩), .slice (some ⟨W.heap.size, 0, none⟩) k k] w2 fun e W' => e = .returned (.tuple #[]) ∧ Grew B 5 W W' g 98 rest v (bs ++ List.replicate k 0) := by
    refine (add_any B w2 g 98 rest v bs (hst.below hbel) (by have := hbel.size; omega) (some ⟨W.heap.size, 0, none⟩) k k (List.replicate k 0) (by simp) (Box.reads hbx) (fun h => by cases h) (by omega)).mono ?_
    rintro e W' ⟨h1, h2⟩
    exact ⟨h1, Grew.trans (Chg.thenBelow (Chg.refl _ W) hbel) (fun _ a => .inl a) h2⟩
  have HS := Lib.hid hsize
  have HR := Lib.hid hroom
  have HA := Lib.hid hadd
  have HM := Lib.hid hmk'
  have hlt : bs.length % t < t := Nat.mod_lt _ ht1
  obtain ⟨r, hrr⟩ : ∃ r, r = bs.length % t := ⟨_, rfl⟩
  rw [← hrr] at hlt
  have e1 : (bs.length : Int) % (t : Int) = r := by rw [hrr]; exact (Int.natCast_emod _ _).symm
  have e2 : (bs.length : Int).tmod (t : Int) = r := by rw [Int.tmod_eq_emod_of_nonneg (by omega)]; exact e1
  have e3 : ((t : Int) - r) % (t : Int) = k := by
    rw [hk]; unfold padN; rw [← hrr, Int.natCast_emod, Int.natCast_sub (by omega)]
  have e4 : ((t : Int) - r).tmod (t : Int) = k := by rw [Int.tmod_eq_emod_of_nonneg (by omega)]; exact e3
  have hkl : (k : Int) ≤ 1048576 - bs.length := by omega
  clear hst hv hc hsize hroom hown hgr hbx hbel hadd hi hz0 hz1 hz2 hrr hk hmk'
  generalize bs.length = m at *
  go_enter Try.func100, Try.ntmps100
  go_wp2_with fail
  refine HS.out.mono ?_; rintro e w' ⟨rfl, rfl⟩
  go_wp2_with fail
  refine HR.out.mono ?_; rintro e w' ⟨rfl, rfl⟩
  clear e1 e2 e3 e4
  have hmk' := HM.out
  go_wp2_with fail
  go_region_with (go_at_call 43; refine HA.out.mono ?_; rintro e w3 ⟨rfl, hg3⟩)
  have HG := Lib.hid hg3
  clear hg3 hmk'
  go_wp2_with fail
  go_ret
  exact ⟨rfl, HG.out⟩
set_option maxRecDepth 100000 in
theorem pad_no (W : World) (g : Nat) (A : Option Addr) (l c2 : Nat) (hc : W.cell? ⟨g, 0, none⟩ = some (.slice A l c2)) (hl : l ≤ 1048576)
    (t : Nat) (ht1 : 1 ≤ t) (ht2 : t ≤ 65536) (hr : 1048576 < l + padN l t) :
    Calls Try.prog 100 #[.pointer (some ⟨g, 0, none⟩), .int .i64 t] W fun e W' => e = .returned (.int .i64 4) ∧ W = W' := by
  have HS := Lib.hid (stsize_any g A l c2 W hc)
  have HR := Lib.hid (room_any g A l c2 W hc hl)
  obtain ⟨k, hk⟩ : ∃ k, k = padN l t := ⟨_, rfl⟩
  rw [← hk] at hr
  have hlt : l % t < t := Nat.mod_lt _ ht1
  obtain ⟨r, hrr⟩ : ∃ r, r = l % t := ⟨_, rfl⟩
  rw [← hrr] at hlt
  have e1 : (l : Int) % (t : Int) = r := by rw [hrr]; exact (Int.natCast_emod _ _).symm
  have e2 : (l : Int).tmod (t : Int) = r := by rw [Int.tmod_eq_emod_of_nonneg (by omega)]; exact e1
  have e3 : ((t : Int) - r) % (t : Int) = k := by
    rw [hk]; unfold padN; rw [← hrr, Int.natCast_emod, Int.natCast_sub (by omega)]
  have e4 : ((t : Int) - r).tmod (t : Int) = k := by rw [Int.tmod_eq_emod_of_nonneg (by omega)]; exact e3
  have hkl : (1048576 : Int) - l < k := by omega
  have hkt : k < t := by rw [hk]; exact padN_lt l t ht1
  clear hc hrr hk hr
  go_enter Try.func100, Try.ntmps100
  go_wp2_with fail
  refine HS.out.mono ?_; rintro e w' ⟨rfl, rfl⟩
  go_wp2_with fail
  refine HR.out.mono ?_; rintro e w' ⟨rfl, rfl⟩
  clear e1 e2 e3 e4
  go_wp2_with fail
  go_ret
  exact ⟨rfl, rfl⟩
theorem pad_zero (n t : Nat) (h : 1 ≤ t) : (n + padN n t) % t = 0 := by
  unfold padN
  have hlt : n % t < t := Nat.mod_lt _ h
  by_cases h0 : n % t = 0
  · rw [h0, Nat.sub_zero, Nat.mod_self, Nat.add_zero, h0]
  · rw [Nat.mod_eq_of_lt (show t - n % t < t by omega)]
    have e : n + (t - n % t) = t * (n / t) + t := by
      have := Nat.div_add_mod n t; omega
    rw [e, Nat.add_mod_right, Nat.mul_mod_right]
theorem pad_not (n t k : Nat) (h : 1 ≤ t) (hk : k < padN n t) : (n + k) % t ≠ 0 := by
  have hlt : n % t < t := Nat.mod_lt _ h
  have hp : padN n t = if n % t = 0 then 0 else t - n % t := by
    unfold padN
    split
    · next h0 => rw [h0, Nat.sub_zero, Nat.mod_self]
    · exact Nat.mod_eq_of_lt (by omega)
  rw [hp] at hk
  split at hk
  · omega
  · next h0 =>
    have e : n + k = t * (n / t) + (n % t + k) := by have := Nat.div_add_mod n t; omega
    rw [e, Nat.mul_add_mod, Nat.mod_eq_of_lt (by omega)]
    omega
/-- n bytes 0 made -/
theorem make_zeros (W : World) (k : Nat) (hk : k ≤ 1048576) : ∃ w3, (Instr.makeSlice 22 (.int .i64 (k : Int)) (.int .i64 (k : Int))).run Try.prog W = .ok (.slice (some ⟨W.heap.size, 0, none⟩) k k) w3 ∧ Below W.heap.size W w3 ∧ Box w3 W.heap.size 5 (cellsOf (List.replicate k 0)) := by
  obtain ⟨i0, hi, hz0, hz1, hz2⟩ := info_parts infoU8
  obtain ⟨w2, hmk, hown, hgr⟩ := run_make_full (P := Try.prog) W 0 22 5 i0 (.int .u8 0) 1 Try.underlying22 hi hz0 hz1 .i64 .i64 k (by rw [hz2]; omega) (by unfold maxLen; omega) (Nat.zero_le _)
  have hbx : Box w2 W.heap.size 5 (cellsOf (List.replicate k 0)) := by
    have h := made_box hown
    rw [show (madeCells (Value.int .u8 0).cells (k * 1)).toList = cellsOf (List.replicate k 0) from made_bytes k] at h
    exact h
  exact ⟨w2, hmk, (Below.refl _ W).grown hgr (Nat.le_refl _) (fun _ h => by cases h), hbx⟩
end Go.Proofs.Ytfcooaafhpoobaa
