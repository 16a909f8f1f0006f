/- Walks of layer 2: parts appended to a rope. -/
import Derived.Test.YtfcooaafhpoobaaRoph
namespace Go.Proofs.Ytfcooaafhpoobaa
open Go.RowKit Rp
open Cq (U64 I64 isW)

theorem catTo_mono (ys : Nat → List Int) (k n : Nat) (h : k ≤ n) : (catTo ys k).length ≤ (catTo ys n).length := by
  induction n with
  | zero => have : k = 0 := by omega
            subst this; exact Nat.le_refl _
  | succ n ih =>
    by_cases e : k = n + 1
    · subst e; exact Nat.le_refl _
    · have := ih (by omega)
      rw [catTo, List.length_append]; omega
theorem catTo_len (ys : Nat → List Int) (k : Nat) : (catTo ys (k + 1)).length = (catTo ys k).length + (ys k).length := by rw [catTo, List.length_append]
set_option maxHeartbeats 1000000 in
set_option maxRecDepth 100000 in
/-- Raw where there is room for all parts -/
theorem rawn_ok (B : Nat) (W : World) (g : Nat) (rest : List Value) (v : Value) (bs : List Int) (hst : St B 5 W g 98 rest v bs) (hB : B ≤ W.heap.size) (hbs : bs.length ≤ 1048576)
    (b off n cap : Nat) (A : Nat → Option Addr) (c : Nat → Nat) (ys : Nat → List Int) (hn : n ≤ 9) (hp : Parts W b off n A c ys) (hbW : b < W.heap.size) (hnm : ¬ Mine g v b)
    (hnp : ∀ i, i < n → ∀ a, A i = some a → 0 < (ys i).length → ¬ Mine g v a.block) (hr : (catTo ys n).length ≤ 1048576 - bs.length) :
    Calls Try.prog 98 #[.pointer (some ⟨g, 0, none⟩), .slice (some ⟨b, off, none⟩) n cap] W fun e W' => e = .returned (.tuple #[]) ∧ Grew B 5 W W' g 98 rest v (bs ++ catTo ys n) := by
  obtain ⟨A0, c2, hv, _, _⟩ := own_form hst.own
  have hc : W.cell? ⟨g, 0, none⟩ = some (.slice A0 bs.length c2) := by
    have := hst.box.cell 0; rw [hv] at this; simpa using this
  have HS := Lib.hid hst
  have HP := Lib.hid hp
  have HNP := Lib.hid hnp
  have HNM := Lib.hid hnm
  have HR : Hid (∀ k, k ≤ n → (catTo ys k).length ≤ 1048576 - bs.length) := fun k hk => Nat.le_trans (catTo_mono ys k n hk) hr
  clear hst hp hnp hnm hr hv
  go_enter Try.func98, Try.ntmps98
  go_wp2_with fail
  refine (room_any g A0 bs.length c2 _ hc hbs).mono ?_; rintro e w' ⟨rfl, rfl⟩
  clear hc
  go_wp2_with fail
  go_loop [4, 6, 17] (fun r _ i => ∃ (k : Nat) (z : Int), k ≤ n ∧ i = .int .i64 k ∧ r = .int .i64 z ∧ z = 1048576 - bs.length - (catTo ys k).length) (fun _ _ i => n - (intOf i).toNat)
  case atStart => exact ⟨0, _, by omega, rfl, rfl, by simp [catTo]⟩
  case round =>
    obtain ⟨k, z, hk, rfl, rfl, hz⟩ := hrel
    by_cases hlt : k < n
    · obtain ⟨p1, _, _, _, _⟩ := HP.out k hlt
      have h1 := HR.out (k + 1) (by omega)
      have hl := catTo_len ys k
      have hle : ((ys k).length : Int) ≤ z := by omega
      have hz0 : 0 ≤ z ∧ z ≤ 1048576 := by omega
      have HZ : Hid (z - (ys k).length = 1048576 - bs.length - (catTo ys (k + 1)).length) := by
        show z - _ = _
        omega
      have hle2 : (ys k).length ≤ 1048576 := by omega
      clear hz h1 hl
      generalize (ys k).length = ly at *
      go_wp2_with fail
      go_round
      case rel => exact ⟨k + 1, _, by omega, by go_num, rfl, HZ.out⟩
      case measure => simp [intOf]; omega
    · clear hz
      obtain rfl : n = k := by omega
      go_wp2_with fail
      go_loopw [8, 32] (fun _ i wr => ∃ k : Nat, k ≤ n ∧ i = .int .i64 k ∧ Grew B 5 W wr g 98 rest v (bs ++ catTo ys k)) (fun _ i _ => n - (intOf i).toNat)
      case atStart => exact ⟨0, by omega, rfl, by simpa [catTo] using Grew.refl HS.out⟩
      case round =>
        obtain ⟨k, hk, rfl, hg⟩ := hrel
        by_cases hlt : k < n
        · obtain ⟨v1, st1, ch1, ow1⟩ := hg
          have hpk := HP.out.chg ch1 hbW HNM.out HNP.out
          obtain ⟨p1, p2, p3, p4, p5⟩ := hpk k hlt
          have hadd := add_any B wr g 98 rest v1 (bs ++ catTo ys k) st1 (by have := ch1.size; omega) (A k) (ys k).length (c k) (ys k) rfl p2 p3 (by
            have h1 := HR.out (k + 1) (by omega)
            have hl := catTo_len ys k
            rw [List.length_append]; omega)
          have HADD := Lib.hid hadd
          have C1 := Lib.hid ch1
          have O1 := Lib.hid ow1
          clear hadd st1 ch1 ow1 hpk p2 p3 p4 p5
          go_wp2_with fail
          refine HADD.out.mono ?_; rintro e w3 ⟨rfl, hg3⟩
          have hfin : Grew B 5 W w3 g 98 rest v (bs ++ catTo ys (k + 1)) := by
            rw [catTo, ← List.append_assoc]
            exact Grew.trans C1.out O1.out hg3
          have HFIN := Lib.hid hfin
          clear hfin hg3 p1
          go_wp2_with fail
          go_roundw
          case rel => exact ⟨k + 1, by omega, by go_num, HFIN.out⟩
          case measure => simp [intOf]; omega
        · obtain rfl : n = k := by omega
          have HE := Lib.hid hg
          clear hg
          go_wp2_with fail
          go_end0
          exact ⟨rfl, HE.out⟩
set_option maxRecDepth 100000 in
/-- Raw where there is no room for all parts -/
theorem rawn_full (B : Nat) (W : World) (g : Nat) (rest : List Value) (v : Value) (bs : List Int) (hst : St B 5 W g 98 rest v bs) (hbs : bs.length ≤ 1048576)
    (b off n cap : Nat) (A : Nat → Option Addr) (c : Nat → Nat) (ys : Nat → List Int) (hn : n ≤ 9) (hp : Parts W b off n A c ys) (hc : ∀ i, c i ≤ 9223372036854775807) (hr : 1048576 - bs.length < (catTo ys n).length) :
    Calls Try.prog 98 #[.pointer (some ⟨g, 0, none⟩), .slice (some ⟨b, off, none⟩) n cap] W fun e W' => e = .returned (.tuple #[]) ∧ W = W' := by
  obtain ⟨A0, c2, hv, _, _⟩ := own_form hst.own
  have hc0 : W.cell? ⟨g, 0, none⟩ = some (.slice A0 bs.length c2) := by
    have := hst.box.cell 0; rw [hv] at this; simpa using this
  have HP := Lib.hid hp
  have HR := Lib.hid hr
  have HC := Lib.hid hc
  clear hst hp hr hv hc
  go_enter Try.func98, Try.ntmps98
  go_wp2_with fail
  refine (room_any g A0 bs.length c2 _ hc0 hbs).mono ?_; rintro e w' ⟨rfl, rfl⟩
  clear hc0
  go_wp2_with fail
  go_loop [4, 6, 17] (fun r _ i => ∃ (k : Nat) (z : Int), k ≤ n ∧ i = .int .i64 k ∧ r = .int .i64 z ∧ z = 1048576 - bs.length - (catTo ys k).length ∧ 0 ≤ z) (fun _ _ i => n - (intOf i).toNat)
  case atStart => exact ⟨0, _, by omega, rfl, rfl, by simp [catTo], by omega⟩
  case round =>
    obtain ⟨k, z, hk, rfl, rfl, hz, hz0⟩ := hrel
    have hlt : k < n := by
      have := HR.out
      by_cases g : k < n
      · exact g
      · obtain rfl : k = n := by omega
        omega
    obtain ⟨p1, _, _, p4, _⟩ := HP.out k hlt
    have hck := HC.out k
    have hl := catTo_len ys k
    have hz1 : z ≤ 1048576 := by omega
    by_cases hle : ((ys k).length : Int) ≤ z
    · have HZ : Hid (z - (ys k).length = 1048576 - bs.length - (catTo ys (k + 1)).length) := by
        show z - _ = _
        omega
      clear hz hl
      generalize (ys k).length = ly at *
      go_wp2_with fail
      go_round
      case rel => exact ⟨k + 1, _, by omega, by go_num, rfl, HZ.out, by omega⟩
      case measure => simp [intOf]; omega
    · clear hz hl
      generalize (ys k).length = ly at *
      go_wp2_with fail
      exact bodyPost_ret (results_none rfl _ _ _) rfl ⟨rfl, rfl⟩
end Go.Proofs.Ytfcooaafhpoobaa
