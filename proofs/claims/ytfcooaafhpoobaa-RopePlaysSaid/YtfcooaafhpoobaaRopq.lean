/- A rope of one part; an element of a slice of questions, loaded. -/
import Derived.Test.YtfcooaafhpoobaaRopz
import Derived.Test.YtfcooaafhpoobaaRoph
namespace Go.Proofs.Ytfcooaafhpoobaa
open Go.RowKit Rp
open Cq (U64 I64 isW)

theorem reads_below {W wd : World} {g : Nat} {A : Option Addr} {bs : List Int} (h : Reads W A bs) (hb : Below g W wd) (hg : W.heap.size ≤ g) : Reads wd A bs := by
  intro hp
  obtain ⟨b, off, rfl, hl, hc⟩ := h hp
  refine ⟨b, off, rfl, Nat.lt_of_lt_of_le hl hb.size, fun i hi => ?_⟩
  rw [World.cell?_of_block (hb.block b (by omega))]; exact hc i hi
theorem new_one (W wd : World) (A : Option Addr) (bs : List Int) (c : Nat) (hb : Below W.heap.size W wd) (hbx : Box wd W.heap.size 22 [.slice A bs.length c]) (hr : Reads W A bs)
    (hA : A = none → c = 0 ∧ bs.length = 0) (hAb : ∀ a, A = some a → 0 < bs.length → a.block < W.heap.size) (hnc : bs.length ≤ c) (hc : c ≤ 9223372036854775807) (hl : bs.length ≤ 1048576) :
    Calls Try.prog 10 #[.slice (some ⟨W.heap.size, 0, none⟩) 1 1] wd
      fun e W' => ∃ rb v, e = .returned (.pointer (some ⟨rb, 0, none⟩)) ∧ W.heap.size ≤ rb ∧ St W.heap.size 5 W' rb 98 [] v bs ∧ Below W.heap.size W W' := by
  have hparts : Parts wd W.heap.size 0 1 (fun _ => A) (fun _ => c) (fun _ => bs) := by
    intro i hi
    obtain rfl : i = 0 := by omega
    refine ⟨?_, reads_below hr hb (Nat.le_refl _), hA, hnc, fun a e ep => ?_⟩
    · have := hbx.cell 0; simpa using this
    · have := hAb a e ep; have := hbx.lt; omega
  have hlen : heldTo (fun _ => bs) 1 = bs := by
    unfold heldTo
    simp only [catTo, List.nil_append]
    exact List.take_of_length_le hl
  refine (new_any W.heap.size 0 1 1 (fun _ => A) (fun _ => c) (fun _ => bs) wd (by omega) hparts hbx.lt (fun _ => hc)).mono ?_
  rintro e W' ⟨v, rfl, hst, hb2⟩
  rw [hlen] at hst
  have hlt := hbx.lt
  refine ⟨wd.heap.size, v, rfl, by omega, ⟨by omega, hst.box, ?_, hst.ne⟩, hb.trans (hb2.mono (by omega))⟩
  refine ⟨hst.own.1, ?_⟩
  rcases hst.own.2 with h | ⟨k, cap, cur, h1, h2, h3⟩
  · exact .inl h
  · exact .inr ⟨k, cap, cur, h1, by omega, h3⟩
end Go.Proofs.Ytfcooaafhpoobaa
