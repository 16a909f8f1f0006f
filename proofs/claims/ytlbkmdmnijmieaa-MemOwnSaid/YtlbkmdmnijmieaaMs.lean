/- Layer 9 (memory): the chapter's example. -/
import Derived.Test.YtlbkmdmnijmieaaMr
namespace Go.Proofs.Ytlbkmdmnijmieaa
open Go Go.RowKit Rp
open Cq (U64 I64 isW nb mask)

/-- the example's store -/
def exQ : Sto := ⟨16, 2, 258, ⟨by decide, by decide⟩, ⟨by decide, by decide⟩⟩
def exA (A : Option Addr) (c : Nat) (bs : List Int) : Ar := ⟨16, A, 4, c, true, false, -1, bs⟩
theorem ex_may2 (A : Option Addr) (c : Nat) (bs : List Int) : mayB [exA A c bs] 0 16 2 true = true := by rfl
theorem ex_may4 (A : Option Addr) (c : Nat) (bs : List Int) : mayB [exA A c bs] 0 16 4 false = true := by rfl
theorem ex_may41 (A : Option Addr) (c : Nat) (bs : List Int) : mayB [exA A c bs] 1 16 4 false = true := by rfl
theorem ex_no (A : Option Addr) (c : Nat) (bs : List Int) : mayB [exA A c bs] 0 18 4 false = false := by rfl
theorem ex_wr (A : Option Addr) (c : Nat) : wrF [exA A c [0, 0, 0, 0]] exQ.a exQ.v exQ.w.toNat = [exA A c [2, 1, 0, 0]] := by rfl
theorem ex_num0 (A : Option Addr) (c : Nat) : numF [exA A c [0, 0, 0, 0]] 16 4 = 0 := by kernel_rfl
theorem ex_num1 (A : Option Addr) (c : Nat) : numF [exA A c [2, 1, 0, 0]] 16 4 = 258 := by kernel_rfl
theorem ex_st0 (Q : List Sto) : stS 16 4 (lastK Q 0) = (0, 4294967295) := by rfl
theorem ex_st1 : stS 16 4 (lastK [exQ] 1) = (258, 4294901760) := by rfl
theorem ex_ld0 {A : Option Addr} {c : Nat} {W W' : World} {e : Ending} (h : LdV [exA A c [0, 0, 0, 0]] 16 4 4 [exQ] W e W') : e = .returned (.tuple #[.int .u64 258, .bool true]) ∧ Kp W W' := by
  obtain ⟨r, he, hr, hk⟩ := h
  refine ⟨?_, hk⟩
  rw [he]
  rcases hr with ⟨k, hk, hz, _⟩ | hr
  · rcases k with _ | _ | k
    · rw [ex_st0] at hz; exact absurd hz (by decide)
    · rw [ex_st1] at hz; exact absurd hz (by decide)
    · simp at hk
  · rw [show ([exQ] : List Sto).length = 1 from rfl, ex_st1, ex_num0] at hr
    rw [hr]; rfl
theorem ex_ld1 {L : List Ar} {v : Int} (hv : numF L 16 4 = v) (h4 : v = 0 ∨ v = 258) {W W' : World} {e : Ending} (h : LdV L 16 4 4 [] W e W') : e = .returned (.tuple #[.int .u64 v, .bool true]) ∧ Kp W W' := by
  obtain ⟨r, he, hr, hk⟩ := h
  refine ⟨?_, hk⟩
  rw [he]
  rcases hr with ⟨k, hk, hz, _⟩ | hr
  · rcases k with _ | k
    · rw [ex_st0] at hz; exact absurd hz (by decide)
    · simp at hk
  · rw [show ([] : List Sto).length = 0 from rfl, ex_st0, hv] at hr
    rw [hr]
    rcases h4 with rfl | rfl <;> rfl
theorem ex_list {W : World} {g : Nat} {v : Value} {bv : List Value} {B : Nat} {L : List Ar} (h : MS B W g v bv L) (hL : L.map Ar.av = [⟨16, true, false, [0, 0, 0, 0]⟩]) (ho : ∀ a ∈ L, a.ow = -1) : ∃ A c, L = [exA A c [0, 0, 0, 0]] := by
  match L, h, hL, ho with
  | [], _, hL, _ => simp at hL
  | _ :: _ :: _, _, hL, _ => simp at hL
  | [a], h, hL, ho =>
    have h1 := (h.dat a (by simp)).1.1
    have h2 := ho a (by simp)
    obtain ⟨lo, A, n, c, wr, pv, ow, bs⟩ := a
    simp [Ar.av] at hL
    obtain ⟨rfl, rfl, rfl, rfl⟩ := hL
    simp [cellsOf] at h1
    simp at h2
    subst h1 h2
    exact ⟨A, c, rfl⟩
theorem chg_kp {S : Nat → Prop} {W0 W W' : World} (c : Chg S W W') (k : Kp W0 W) (hS : ∀ j, S j → W0.heap.size ≤ j) : Kp W0 W' :=
  k.trans (c.below W0.heap.size k.size (fun j hj hs => by have := hS j hs; omega))
set_option maxRecDepth 100000 in
set_option maxHeartbeats 4000000 in
theorem awake_any (W : World) : Calls Try.prog 17 #[] W fun e W' => e = .returned (.bool true) ∧ Kp W W' := by
  have hmk : ∀ w, (Instr.makeSlice 55 (.int .i64 4) (.int .i64 4)).run Try.prog w = .ok (.slice (some ⟨w.heap.size, 0, none⟩) 4 4) (w.alloc (.cells #[.int .u8 0, .int .u8 0, .int .u8 0, .int .u8 0] 5)) := fun w => by kernel_rfl
  obtain ⟨w1, hw1⟩ : ∃ w1, w1 = (W.alloc (.cells #[.int .u8 0, .int .u8 0, .int .u8 0, .int .u8 0] 5)).alloc (.cells #[.int .u64 16, .slice (some ⟨W.heap.size, 0, none⟩) 4 4, .bool true, .bool false] 61) := ⟨_, rfl⟩
  have HK1 : Hid (Kp W w1) := by rw [hw1]; exact ((Kp.rfl W).new _).new _
  have hd0 : w1.heap[W.heap.size]? = some (.cells #[.int .u8 0, .int .u8 0, .int .u8 0, .int .u8 0] 5 (0, 0)) := by
    rw [hw1]; exact (Below.heap_alloc _ _ _ (by simp)).trans (heap_alloc_new W _)
  have hd1 : w1.heap[W.heap.size + 1]? = some (.cells #[.int .u64 16, .slice (some ⟨W.heap.size, 0, none⟩) 4 4, .bool true, .bool false] 61 (0, 0)) := by
    rw [hw1]; have := heap_alloc_new (W.alloc (.cells #[.int .u8 0, .int .u8 0, .int .u8 0, .int .u8 0] 5)) (.cells #[.int .u64 16, .slice (some ⟨W.heap.size, 0, none⟩) 4 4, .bool true, .bool false] 61); rwa [World.size_alloc] at this
  have HA : Hid (AIn w1 (some ⟨W.heap.size + 1, 0, none⟩) [exA (some ⟨W.heap.size, 0, none⟩) 4 [0, 0, 0, 0]]) := by
    refine ⟨by simp, fun _ => ⟨_, 0, rfl, (Array.getElem?_eq_some_iff.1 hd1).1, fun i a ha k hk => ?_⟩, fun a ha => ?_⟩
    · match i, ha with
      | 0, ha =>
        simp at ha
        subst ha
        rw [cell_of_row w1 _ _ _ _ _ hd1]
        match k, hk with
        | 0, _ => rfl
        | 1, _ => rfl
        | 2, _ => rfl
        | 3, _ => rfl
    · simp at ha
      subst ha
      refine ⟨rfl, fun _ => ⟨_, 0, rfl, (Array.getElem?_eq_some_iff.1 hd0).1, fun i hi => ?_⟩, ?_, (fun e => by cases e), (show (4 : Nat) ≤ 64 by decide), (show U64 16 from ⟨by decide, by decide⟩)⟩
      · rw [cell_of_row w1 _ _ _ _ _ hd0]
        match i, hi with
        | 0, _ => rfl
        | 1, _ => rfl
        | 2, _ => rfl
        | 3, _ => rfl
      · intro b hb
        simp [exA] at hb
        subst hb
        decide
  clear hd0 hd1
  go_enter Try.func17, Try.ntmps17
  go_wp2_with fail
  rw [← hw1]
  refine (new_any _ 1 _ w1 HA.out).mono ?_
  rintro e w2 ⟨g, v, L, rfl, hM, hav, how, hk2⟩
  obtain ⟨A, c, rfl⟩ := ex_list hM hav how
  have HM2 := Lib.hid hM
  have HK2 := Lib.hid (HK1.out.next hk2)
  have HB : Hid (W.heap.size ≤ w1.heap.size) := HK1.out.size
  clear hw1 hmk hM hav how hk2
  go_wp2_with fail
  refine (store_any HM2.out 0 (by omega) (.slice none 0 0) rfl exQ [] (World.ownsRow_nil _ _ _ _) (by simp) (ex_may2 A c _)).mono ?_
  rintro e w3 ⟨rfl, b3, hM3, hq3, hc3⟩
  have HM3 := Lib.hid hM3
  have HQ3 := Lib.hid (QB.of_own hq3)
  have HK3 := Lib.hid (chg_kp hc3 HK2.out (fun j hj => by
    rcases hj with rfl | hj
    · exact Nat.le_trans HB.out HM2.out.low
    · simp [Value.ownBlock] at hj))
  clear hM3 hq3 hc3
  go_wp2_with fail
  refine (load_any HM3.out 0 (by omega) b3 rfl [exQ] HQ3.out (by simp) 16 4 ⟨by decide, by decide⟩ (ex_may4 A c _)).mono ?_
  intro e w4 h4
  obtain ⟨rfl, hk4⟩ := ex_ld0 h4
  have HM4 := Lib.hid (HM3.out.kp hk4)
  have HQ4 := Lib.hid (HQ3.out.kp hk4)
  have HK4 := Lib.hid (HK3.out.next hk4)
  clear h4 hk4
  go_wp2_with fail
  refine (load_any HM4.out 1 (by omega) (.slice none 0 0) rfl [] (QB.nil _ _) (by simp) 16 4 ⟨by decide, by decide⟩ (ex_may41 A c _)).mono ?_
  intro e w5 h5
  obtain ⟨rfl, hk5⟩ := ex_ld1 (ex_num0 A c) (.inl rfl) h5
  have HM5 := Lib.hid (HM4.out.kp hk5)
  have HQ5 := Lib.hid (HQ4.out.kp hk5)
  have HK5 := Lib.hid (HK4.out.next hk5)
  clear h5 hk5
  go_wp2_with fail
  refine (drain_any HM5.out 0 (by omega) b3 rfl exQ [] ⟨rfl, by decide⟩ HQ5.out).mono ?_
  rintro e w6 ⟨rfl, b6, hM6, hq6, hc6⟩
  rw [ex_wr] at hM6
  have HM6 := Lib.hid hM6
  have HK6 := Lib.hid (chg_kp hc6 HK5.out (fun j hj => by
    have := (HM5.out.lt (k := j) (by rcases hj with hj | hj; exact .inr (.inr hj); exact .inl hj)).1
    have := HB.out
    omega))
  clear hM6 hq6 hc6
  go_wp2_with fail
  refine (load_any HM6.out 1 (by omega) (.slice none 0 0) rfl [] (QB.nil _ _) (by simp) 16 4 ⟨by decide, by decide⟩ (ex_may41 A c _)).mono ?_
  intro e w7 h7
  obtain ⟨rfl, hk7⟩ := ex_ld1 (ex_num1 A c) (.inr rfl) h7
  have HM7 := Lib.hid (HM6.out.kp hk7)
  have HK7 := Lib.hid (HK6.out.next hk7)
  clear h7 hk7
  go_wp2_with fail
  refine (load_no HM7.out 0 18 4 ⟨by decide, by decide⟩ (ex_no A c _)).mono ?_
  rintro e w8 ⟨rfl, hk8⟩
  have HK8 := Lib.hid (HK7.out.next hk8)
  clear hk8
  go_wp2_with fail
  go_ret
  exact ⟨rfl, HK8.out⟩
end Go.Proofs.Ytlbkmdmnijmieaa
