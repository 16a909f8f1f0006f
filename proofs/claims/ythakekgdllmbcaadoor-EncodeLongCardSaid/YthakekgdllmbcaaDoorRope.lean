/- Walks of layer 2: numbers put in place. -/
import Derived.Test.YthakekgdllmbcaaDoorRopd
import Derived.Laws.BytesString
namespace Go.Proofs.YthakekgdllmbcaaDoor
open Go.RowKit Rp

open Cq (U64 I64 isW)

def setB (bs : List Int) (a w : Nat) (v : Int) : List Int := bs.take a ++ (low w v ++ bs.drop (a + w))
theorem setB_length (bs : List Int) (a w : Nat) (v : Int) (h : a + w ≤ bs.length) : (setB bs a w v).length = bs.length := by
  unfold setB; rw [List.length_append, List.length_append, List.length_take, List.length_drop, low_length]; omega
theorem cellsOf_take (bs : List Int) (n : Nat) : cellsOf (bs.take n) = (cellsOf bs).take n := by unfold cellsOf; rw [List.map_take]
theorem cellsOf_drop (bs : List Int) (n : Nat) : cellsOf (bs.drop n) = (cellsOf bs).drop n := by unfold cellsOf; rw [List.map_drop]
/-- bytes as a string -/
def strOf (bs : List Int) : ByteArray := bs.foldl (fun r n => r.push (UInt8.ofNat n.toNat)) ByteArray.empty
theorem conv_reads {W : World} {A : Option Addr} {bs : List Int} (hr : Reads W A bs) (hA : A = none → bs = []) (c : Nat) :
    (convert 29 9 (.slice A bs.length c)).run Tryd.prog W = .ok (.string (strOf bs)) W := by
  rw [run_convert_bytes_string W 29 9 5 A bs.length c Tryd.underlying29 Tryd.underlying5 Tryd.underlying9]
  cases A with
  | none => rw [hA rfl]; rfl
  | some a =>
    refine run_bytesToString W a bs.length c bs ?_
    have hl := run_loadCells_list (P := Tryd.prog) W a (cellsOf bs) (by
      intro j u hu
      have hj : j < bs.length := by have := (List.getElem?_eq_some_iff.1 hu).1; simpa [cellsOf] using this
      rw [cellsOf_get bs j hj] at hu
      obtain ⟨g, off, e, _, hc⟩ := hr (by omega)
      injection e with e
      subst e
      rw [← hu]
      by_cases h0 : j = 0
      · subst h0; simpa [Addr.add] using hc 0 hj
      · simpa [Addr.add, h0] using hc j hj)
    rw [cellsOf_length] at hl
    exact hl
theorem Box.reads {W : World} {g : Nat} {bs : List Int} (h : Box W g 5 (cellsOf bs)) : Reads W (some ⟨g, 0, none⟩) bs := by
  intro _
  refine ⟨g, 0, rfl, h.lt, fun i hi => ?_⟩
  have := h.cell i
  rw [cellsOf_get bs i hi] at this
  simpa using this
theorem new_none (W : World) : Calls Tryd.prog 14 #[.slice none 0 0] W fun e W' => e = .returned (.pointer (some ⟨W.heap.size, 0, none⟩)) ∧ St W.heap.size 5 W' W.heap.size 59 [] (.slice none 0 0) [] ∧ Below W.heap.size W W' := by
  have HF : Hid (St W.heap.size 5 (W.alloc (.cells #[.slice none 0 0] 59)) W.heap.size 59 [] (.slice none 0 0) [] ∧ Below W.heap.size W (W.alloc (.cells #[.slice none 0 0] 59))) :=
    ⟨⟨Nat.le_refl _, Box.fresh W 59 [.slice none 0 0], World.ownsRow_nil _ _ _ _, by decide⟩, (Below.refl _ W).alloc (Nat.le_refl _) _⟩
  go_enter Tryd.func14, Tryd.ntmps14
  go_wp2_with fail
  go_loop [5, 10] (fun _ i => i = .int .i64 0) (fun _ _ => 0)
  case atStart => rfl
  case round =>
    subst hrel
    go_wp2_with fail
    go_ret
    exact ⟨rfl, HF.out⟩
end Go.Proofs.YthakekgdllmbcaaDoor
