/- Walks of layer 2: a full rope; bytes 0 behind a rope. -/
import Derived.Test.YtfcooaafhpoobaaRoph
import Derived.Test.YtfcooaafhpoobaaShelf
namespace Go.Proofs.Ytfcooaafhpoobaa
open Go.RowKit Rp
open Cq (U64 I64 isW)

/-- two parts of which the first has room and both have not -/
theorem raw_full (B : Nat) (W : World) (g : Nat) (rest : List Value) (v : Value) (bs : List Int) (hst : St B 5 W g 98 rest v bs) (hbs : bs.length ≤ 1048576)
    (b : Nat) (A0 A1 : Option Addr) (n0 n1 c0 c1 : Nat) (h0 : W.cell? ⟨b, 0, none⟩ = some (.slice A0 n0 c0)) (h1 : W.cell? ⟨b, 1, none⟩ = some (.slice A1 n1 c1))
    (hr0 : (n0 : Int) ≤ 1048576 - bs.length) (hr1 : (1048576 : Int) - bs.length - n0 < n1) (c : Nat) :
    Calls Try.prog 98 #[.pointer (some ⟨g, 0, none⟩), .slice (some ⟨b, 0, none⟩) 2 c] W fun e W' => e = .returned (.tuple #[]) ∧ W = W' := by
  obtain ⟨A, c2, hv, _, _⟩ := own_form hst.own
  have hc : W.cell? ⟨g, 0, none⟩ = some (.slice A bs.length c2) := by
    have := hst.box.cell 0; rw [hv] at this; simpa using this
  clear hst hv
  generalize bs.length = m at *
  go_enter Try.func98, Try.ntmps98
  go_wp2_with fail
  refine (room_any g A m c2 _ hc hbs).mono ?_; rintro e w' ⟨rfl, rfl⟩
  clear hc
  go_wp2_with fail
  go_loop [4, 6, 17] (fun r _ i => (i = .int .i64 0 ∧ r = .int .i64 (1048576 - m)) ∨ (i = .int .i64 1 ∧ r = .int .i64 (1048576 - m - n0))) (fun _ _ i => (2 - intOf i).toNat)
  case atStart => exact .inl ⟨rfl, rfl⟩
  case round =>
    rcases hrel with ⟨rfl, rfl⟩ | ⟨rfl, rfl⟩
    · go_wp2_with fail
      go_round
      case rel => exact .inr ⟨rfl, rfl⟩
      case measure => simp [intOf]
    · go_wp2_with fail
      exact bodyPost_ret (results_none rfl _ _ _) rfl ⟨rfl, rfl⟩
set_option maxRecDepth 100000 in
theorem text_full (B : Nat) (W : World) (g : Nat) (rest : List Value) (v : Value) (bs : List Int) (hst : St B 5 W g 98 rest v bs) (hbs : bs.length = 1048576)
    (b : Nat) (h0 : W.cell? ⟨b, 0, none⟩ = some (.string ⟨#[]⟩)) (c : Nat) :
    Calls Try.prog 99 #[.pointer (some ⟨g, 0, none⟩), .slice (some ⟨b, 0, none⟩) 1 c] W fun e W' => e = .returned (.int .i64 4) ∧ W = W' := by
  obtain ⟨A, c2, hv, _, _⟩ := own_form hst.own
  have hc : W.cell? ⟨g, 0, none⟩ = some (.slice A bs.length c2) := by
    have := hst.box.cell 0; rw [hv] at this; simpa using this
  have hroom := room_any g A bs.length c2 W hc (by omega)
  rw [hbs, show (1048576 : Int) - ((1048576 : Nat) : Int) = 0 from by decide] at hroom
  have HROOM := Lib.hid hroom
  clear hst hv hbs hc hroom
  go_enter Try.func99, Try.ntmps99
  go_wp2_with fail
  go_loop [6, 16] (fun _ i => i = .int .i64 0 ∨ i = .int .i64 1) (fun _ i => (2 - intOf i).toNat)
  case atStart => exact .inl rfl
  case round =>
    rcases hrel with rfl | rfl
    · go_wp2_with fail
      refine (Go.Proofs.Try.strings_IndexByte _ _ _).mono ?_; rintro e w' ⟨rfl, rfl⟩
      rw [show Lib.indexByte (ByteArray.mk #[]).data.toList (0 : Int).toNat.toUInt8 = -1 from by decide]
      go_wp2_with fail
      go_round
      case rel => exact .inr rfl
      case measure => simp [intOf]
    · go_wp2_with fail
      refine HROOM.out.mono ?_; rintro e w' ⟨rfl, rfl⟩
      go_wp2_with fail
      go_loop [7, 9, 30] (fun r _ i => i = .int .i64 0 ∧ r = .int .i64 0) (fun _ _ _ => 0)
      case atStart => exact ⟨rfl, rfl⟩
      case round =>
        obtain ⟨rfl, rfl⟩ := hrel
        go_wp2_with fail
        go_ret
        exact ⟨rfl, rfl⟩
theorem made_bytes (n : Nat) : (madeCells #[Value.int .u8 0] (n * 1)).toList = cellsOf (List.replicate n 0) := by
  unfold madeCells cellsOf
  rw [List.map_replicate, Nat.mul_one]
  apply List.ext_getElem
  · simp
  · intro i h1 h2
    simp [Nat.mod_one]
set_option maxRecDepth 100000 in
theorem pad_ok (B : Nat) (W : World) (g : Nat) (rest : List Value) (v : Value) (bs : List Int) (hst : St B 5 W g 98 rest v bs) (hB : B ≤ W.heap.size) (k : Nat) (hbs : (bs.length : Int) = 1048576 - k) (hk : 1 ≤ k ∧ k ≤ 19) :
    Calls Try.prog 100 #[.pointer (some ⟨g, 0, none⟩), .int .i64 65536] W fun e W' => e = .returned (.int .i64 0) ∧ Grew B 5 W W' g 98 rest v (bs ++ List.replicate k 0) := by
  obtain ⟨i0, hi, hz0, hz1, hz2⟩ := info_parts infoU8
  obtain ⟨A, c2, hv, _, _⟩ := own_form hst.own
  have hc : W.cell? ⟨g, 0, none⟩ = some (.slice A bs.length c2) := by
    have := hst.box.cell 0; rw [hv] at this; simpa using this
  have hsize := stsize_any g A bs.length c2 W hc
  have hroom := room_any g A bs.length c2 W hc (by omega)
  rw [hbs] at hsize
  rw [show (1048576 : Int) - bs.length = k from by omega] at hroom
  obtain ⟨w2, hmk, hown, hgr⟩ := run_make_full (P := Try.prog) W.drew 0 22 5 i0 (.int .u8 0) 1 Try.underlying22 hi hz0 hz1 .i64 .i64 k (by rw [hz2]; omega) (by unfold maxLen; omega) (Nat.zero_le _)
  have hbx : Box w2 W.heap.size 5 (cellsOf (List.replicate k 0)) := by
    have h := made_box hown
    rw [show (madeCells (Value.int .u8 0).cells (k * 1)).toList = cellsOf (List.replicate k 0) from made_bytes k] at h
    exact h
  have hmk' : (Instr.makeSlice 22 (.int .i64 k) (.int .i64 k)).run Try.prog W.drew = .ok (.slice (some ⟨W.heap.size, 0, none⟩) k k) w2 := hmk
  clear hmk
  have hbel : Below W.heap.size W w2 := ((Below.refl _ W).drew).grown hgr (Nat.le_refl _) (fun _ h => by cases h)
  have hadd : Calls Try.prog 43 #[.pointer (some ⟨g, 0, none⟩), .slice (some ⟨W.heap.size, 0, none⟩) k k] w2 fun e W' => e = .returned (.tuple #[]) ∧ Grew B 5 W W' g 98 rest v (bs ++ List.replicate k 0) := by
    refine (add_any B w2 g 98 rest v bs (hst.below hbel) (by have := hbel.size; omega) (some ⟨W.heap.size, 0, none⟩) k k (List.replicate k 0) (by simp) (Box.reads hbx) (fun h => by cases h) (by omega)).mono ?_
    rintro e W' ⟨h1, h2⟩
    exact ⟨h1, Grew.trans (Chg.thenBelow (Chg.refl _ W) hbel) (fun _ a => .inl a) h2⟩
  have HS := Lib.hid hsize
  have HR := Lib.hid hroom
  have HA := Lib.hid hadd
  clear hst hv hc hsize hroom hown hgr hbx hbel hadd hi hz0 hz1 hz2 hbs
  go_enter Try.func100, Try.ntmps100
  go_wp2_with fail
  refine HS.out.mono ?_; rintro e w' ⟨rfl, rfl⟩
  have e1 : ((1048576 : Int) - k) % 65536 = 65536 - k := by omega
  have e2 : ((1048576 : Int) - k).tmod 65536 = 65536 - k := by rw [Int.tmod_eq_emod_of_nonneg (by omega)]; exact e1
  have e3 : ((65536 : Int) - (65536 - k)) % 65536 = k := by omega
  have E3 := Lib.hid e3
  clear e3
  go_wp2_with fail
  rw [E3.out]
  refine HR.out.mono ?_; rintro e w' ⟨rfl, rfl⟩
  clear e1 e2
  go_wp2_with fail
  go_region_with (go_at_call 43; refine HA.out.mono ?_; rintro e w3 ⟨rfl, hg3⟩)
  have HG := Lib.hid hg3
  clear hg3 hmk'
  go_wp2_with fail
  go_ret
  exact ⟨rfl, HG.out⟩
end Go.Proofs.Ytfcooaafhpoobaa
