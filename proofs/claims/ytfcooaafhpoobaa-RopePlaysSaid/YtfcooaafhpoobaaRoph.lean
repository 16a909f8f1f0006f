/- Walks of layer 2: a rope of parts. -/
import Derived.Test.YtfcooaafhpoobaaRopg
namespace Go.Proofs.Ytfcooaafhpoobaa
open Go.RowKit Rp
open Cq (U64 I64 isW)

theorem add_any (B : Nat) (W : World) (sb t : Nat) (rest : List Value) (v : Value) (bs : List Int) (h : St B 5 W sb t rest v bs) (hB : B ≤ W.heap.size)
    (A : Option Addr) (m c : Nat) (ys : List Int) (hm : ys.length = m) (hr : Reads W A ys) (hA : A = none → c = 0 ∧ m = 0) (hlen : bs.length + m ≤ 1048576) :
    Calls Try.prog 43 #[.pointer (some ⟨sb, 0, none⟩), .slice A m c] W fun e W' => e = .returned (.tuple #[]) ∧ Grew B 5 W W' sb t rest v (bs ++ ys) := by
  cases A with
  | none =>
    obtain ⟨rfl, rfl⟩ := hA rfl
    rw [List.eq_nil_of_length_eq_zero hm, List.append_nil]
    exact add_none B W sb t rest v bs h
  | some ad =>
    refine add_some B W sb t rest v bs h hB ad m c ys hm ?_ hlen
    intro i hi
    obtain ⟨g, off, e, _, hc⟩ := hr (by omega)
    injection e with e
    subst e
    by_cases h0 : i = 0
    · subst h0; simpa [Addr.add] using hc 0 (by omega)
    · simpa [Addr.add, h0] using hc i (by omega)
def most : Nat := 1048576
theorem most_is : most = 1048576 := rfl
def catTo (ys : Nat → List Int) : Nat → List Int
  | 0 => []
  | k + 1 => catTo ys k ++ ys k
/-- what a rope of parts holds -/
def heldTo (ys : Nat → List Int) (k : Nat) : List Int := (catTo ys k).take most
theorem heldTo_succ (ys : Nat → List Int) (k : Nat) : heldTo ys (k + 1) = heldTo ys k ++ (ys k).take (min (ys k).length (most - (heldTo ys k).length)) := by
  unfold heldTo
  rw [catTo, List.take_append, List.length_take]
  congr 1
  by_cases h : (catTo ys k).length ≤ most
  · rw [Nat.min_eq_right h]
    by_cases g : (ys k).length ≤ most - (catTo ys k).length
    · rw [Nat.min_eq_left g, List.take_of_length_le g, List.take_of_length_le (Nat.le_refl _)]
    · rw [Nat.min_eq_right (by omega)]
  · rw [Nat.min_eq_left (show most ≤ (catTo ys k).length by omega), Nat.sub_self, Nat.min_zero, show most - (catTo ys k).length = 0 from by omega]
theorem heldTo_le (ys : Nat → List Int) (k : Nat) : (heldTo ys k).length ≤ most := by unfold heldTo; rw [List.length_take]; omega
theorem reads_take {W : World} {A : Option Addr} {ys : List Int} (h : Reads W A ys) (n : Nat) : Reads W A (ys.take n) := by
  intro hp
  rw [List.length_take] at hp
  obtain ⟨g, off, e, hg, hc⟩ := h (by omega)
  refine ⟨g, off, e, hg, fun i hi => ?_⟩
  rw [List.length_take] at hi
  rw [hc i (by omega), List.getD_eq_getElem?_getD, List.getD_eq_getElem?_getD, List.getElem?_take_of_lt (by omega)]
/-- a row of n slices of bytes -/
def Parts (W : World) (b off n : Nat) (A : Nat → Option Addr) (c : Nat → Nat) (ys : Nat → List Int) : Prop :=
  ∀ i, i < n → W.cell? ⟨b, off + i, none⟩ = some (.slice (A i) (ys i).length (c i)) ∧ Reads W (A i) (ys i) ∧ (A i = none → c i = 0 ∧ (ys i).length = 0) ∧ (ys i).length ≤ c i ∧ ∀ a, A i = some a → 0 < (ys i).length → a.block < W.heap.size
theorem Parts.chg {S : Nat → Prop} {W W' : World} {b off n : Nat} {A : Nat → Option Addr} {c : Nat → Nat} {ys : Nat → List Int} (h : Parts W b off n A c ys) (g : Chg S W W') (hb : b < W.heap.size) (hn : ¬ S b)
    (hs : ∀ i, i < n → ∀ a, A i = some a → 0 < (ys i).length → ¬ S a.block) : Parts W' b off n A c ys := by
  intro i hi
  obtain ⟨h1, h2, h3, h4, h5⟩ := h i hi
  exact ⟨by rw [World.cell?_of_block (g.block b hb hn)]; exact h1, h2.chgp g (hs i hi), h3, h4, fun a e ep => Nat.lt_of_lt_of_le (h5 a e ep) g.size⟩
set_option maxHeartbeats 2000000 in
set_option maxRecDepth 100000 in
theorem new_any (b off n cap : Nat) (A : Nat → Option Addr) (c : Nat → Nat) (ys : Nat → List Int) (W : World) (hn : n ≤ 9) (hp : Parts W b off n A c ys) (hbW : b < W.heap.size) (hc : ∀ i, c i ≤ 9223372036854775807) :
    Calls Try.prog 10 #[.slice (some ⟨b, off, none⟩) n cap] W fun e W' => ∃ v, e = .returned (.pointer (some ⟨W.heap.size, 0, none⟩)) ∧ St W.heap.size 5 W' W.heap.size 98 [] v (heldTo ys n) ∧ Below W.heap.size W W' := by
  have hst0 : St W.heap.size 5 (W.alloc (.cells #[.slice none 0 0] 98)) W.heap.size 98 [] (.slice none 0 0) (heldTo ys 0) :=
    ⟨Nat.le_refl _, Box.fresh W 98 [.slice none 0 0], World.ownsRow_nil _ _ _ _, by decide⟩
  have hb0 : Below W.heap.size W (W.alloc (.cells #[.slice none 0 0] 98)) := (Below.refl _ W).alloc (Nat.le_refl _) _
  have hp0 := hp.chg (Chg.ofBelow (S := fun k => W.heap.size ≤ k) hb0 (fun _ _ a => a)) hbW (by omega) (fun i hi a e ep => by have := (hp i hi).2.2.2.2 a e ep; omega)
  have HST0 := Lib.hid hst0
  have HB0 := Lib.hid hb0
  have HP0 := Lib.hid hp0
  have HC := Lib.hid hc
  have HPS : Hid (∀ i, i < n → ∀ a, A i = some a → 0 < (ys i).length → a.block < W.heap.size) := fun i hi => (hp i hi).2.2.2.2
  clear hst0 hb0 hp0 hp hc
  go_enter Try.func10, Try.ntmps10
  go_wp2_with fail
  go_loopw [5, 10] (fun _ i wr => ∃ (k : Nat) (v : Value), k ≤ n ∧ i = .int .i64 k ∧ St W.heap.size 5 wr W.heap.size 98 [] v (heldTo ys k) ∧ Below W.heap.size W wr ∧ Parts wr b off n A c ys) (fun _ i _ => n - (intOf i).toNat)
  case atStart => exact ⟨0, _, by omega, rfl, HST0.out, HB0.out, HP0.out⟩
  case round =>
    clear HST0 HB0 HP0
    obtain ⟨k, v, hk, rfl, hst, hb, hp⟩ := hrel
    by_cases hlt : k < n
    · obtain ⟨p1, p2, p3, p4, p5⟩ := hp k hlt
      have hck := HC.out k
      obtain ⟨A0, c0, hv, _, _⟩ := own_form hst.own
      have hc0 := hst.box.cell 0
      simp only [List.getElem?_cons_zero] at hc0
      rw [hv] at hc0
      have hle := heldTo_le ys k
      rw [most_is] at hle
      have HS := Lib.hid (heldTo_succ ys k)
      have HST := Lib.hid hst
      have HB := Lib.hid hb
      have HP := Lib.hid hp
      have hsz := hb.size
      clear hst hb hp hv
      generalize heldTo ys k = hb at *
      have HP2 := Lib.hid p2
      have HP3 := Lib.hid p3
      clear p2 p3 p5
      generalize hly : (ys k).length = ly at *
      have HLY := Lib.hid hly
      clear hly
      have hadd : ∀ m : Nat, m ≤ ly → hb.length + m ≤ 1048576 → Calls Try.prog 43 #[.pointer (some ⟨W.heap.size, 0, none⟩), .slice (A k) m (c k)] wr.drew fun e W' => e = .returned (.tuple #[]) ∧ Grew W.heap.size 5 wr W' W.heap.size 98 [] v (hb ++ (ys k).take m) := by
        intro m hm1 hm2
        have st2 : St W.heap.size 5 wr.drew W.heap.size 98 [] v hb := HST.out.chg ((Chg.refl (fun _ => False) wr).drew) (fun _ _ a => a)
        refine (add_any W.heap.size wr.drew W.heap.size 98 [] v hb st2 hsz (A k) m (c k) ((ys k).take m) (by rw [List.length_take, HLY.out]; omega) ((reads_take HP2.out m).chg ((Chg.refl (fun _ => False) wr).drew) (fun _ _ a => a)) (fun h => by have := HP3.out h; omega) hm2).mono ?_
        rintro e W' ⟨h1, h2⟩
        exact ⟨h1, Grew.trans ((Chg.refl (Mine W.heap.size v) wr).drew) (fun _ a => .inl a) h2⟩
      have HADD := Lib.hid hadd
      clear hadd
      have hgo : ∀ (m : Nat) (w3 : World), m = min ly (most - hb.length) → Grew W.heap.size 5 wr w3 W.heap.size 98 [] v (hb ++ (ys k).take m) →
          ∃ v', St W.heap.size 5 w3 W.heap.size 98 [] v' (heldTo ys (k + 1)) ∧ Below W.heap.size W w3 ∧ Parts w3 b off n A c ys := by
        rintro m w3 rfl ⟨v', s', ch', _⟩
        have hlow : ∀ j, Mine W.heap.size v j → W.heap.size ≤ j := fun j hj => (HST.out.mine_lt j hj).1
        refine ⟨v', by rw [HS.out]; exact s', HB.out.trans (ch'.below W.heap.size hsz (fun j hj hm => by have := hlow j hm; omega)), HP.out.chg ch' (by omega) (fun hm => by have := hlow _ hm; omega) (fun i hi a e ep hm => by have := HPS.out i hi a e ep; have := hlow _ hm; omega)⟩
      have HGO := Lib.hid hgo
      clear hgo
      by_cases hrm : (ly : Int) ≤ 1048576 - hb.length
      · go_wp2_with fail
        go_region_with (first | (go_at_call 44; refine (room_any W.heap.size A0 hb.length c0 _ (by simpa using hc0) (by omega)).mono ?_; rintro e w' ⟨rfl, rfl⟩) | (go_at_call 43; refine (HADD.out _ (Nat.le_refl _) (by omega)).mono ?_; rintro e w3 ⟨rfl, hg3⟩))
        obtain ⟨v', s1, s2, s3⟩ := HGO.out _ _ (by rw [most_is]; omega) hg3
        have S1 := Lib.hid s1
        have S2 := Lib.hid s2
        have S3 := Lib.hid s3
        clear s1 s2 s3 hg3 hc0
        go_wp2_with fail
        go_roundw
        case rel => exact ⟨k + 1, v', by omega, by go_num, S1.out, S2.out, S3.out⟩
        case measure => simp [intOf]; omega
      · obtain ⟨m, hm⟩ : ∃ m : Nat, m = 1048576 - hb.length := ⟨_, rfl⟩
        have hm1 : (1048576 : Int) - hb.length = m := by omega
        have hm2 : m ≤ ly := by omega
        have hm3 : (m : Int) < ly := by omega
        have HM := Lib.hid hm
        have HM1 := Lib.hid hm1
        clear hrm hm hm1
        have hroom : ∀ wd : World, wd.cell? ⟨W.heap.size, 0, none⟩ = some (.slice A0 hb.length c0) → Calls Try.prog 44 #[.pointer (some ⟨W.heap.size, 0, none⟩)] wd fun e W' => e = .returned (.int .i64 m) ∧ wd = W' := by
          intro wd hwd
          have := room_any W.heap.size A0 hb.length c0 wd hwd hle
          rw [HM1.out] at this
          exact this
        have HROOM := Lib.hid hroom
        have HLE := Lib.hid hle
        clear hroom hle
        go_wp2_with fail
        go_region_with (first | (go_at_call 44; refine (HROOM.out _ (by simpa using hc0)).mono ?_; rintro e w' ⟨rfl, rfl⟩) | (go_at_call 43; refine (HADD.out m hm2 (by have h1 := HM.out; have h2 := HLE.out; omega)).mono ?_; rintro e w3 ⟨rfl, hg3⟩))
        obtain ⟨v', s1, s2, s3⟩ := HGO.out _ _ (by rw [most_is]; have := HM.out; omega) hg3
        have S1 := Lib.hid s1
        have S2 := Lib.hid s2
        have S3 := Lib.hid s3
        clear s1 s2 s3 hg3 hc0
        go_wp2_with fail
        go_roundw
        case rel => exact ⟨k + 1, v', by omega, by go_num, S1.out, S2.out, S3.out⟩
        case measure => simp [intOf]; omega
    · have : k = n := by omega
      subst this
      have HST := Lib.hid hst
      have HB := Lib.hid hb
      clear hst hb hp
      go_wp2_with fail
      go_ret
      exact ⟨_, rfl, HST.out, HB.out⟩
end Go.Proofs.Ytfcooaafhpoobaa
