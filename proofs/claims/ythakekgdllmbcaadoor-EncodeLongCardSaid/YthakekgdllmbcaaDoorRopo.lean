/- Walks of layer 2: the eight bytes of a number. -/
import Derived.Test.YthakekgdllmbcaaDoorRopa
import Derived.Laws.Rows
import Derived.Laws.Tables
import Derived.Laws.CopyOwn
namespace Go.Proofs.YthakekgdllmbcaaDoor
open Go.RowKit Rp

open Cq (U64 I64 isW)

/-- byte i of a word -/
def by8 (v : Int) (i : Nat) : Int := v / 2 ^ (8 * i) % 256
def octTo (v : Int) (k : Nat) : List Value := [
  .int .u8 (if 0 < k then by8 v 0 else 0), .int .u8 (if 1 < k then by8 v 1 else 0), .int .u8 (if 2 < k then by8 v 2 else 0), .int .u8 (if 3 < k then by8 v 3 else 0),
  .int .u8 (if 4 < k then by8 v 4 else 0), .int .u8 (if 5 < k then by8 v 5 else 0), .int .u8 (if 6 < k then by8 v 6 else 0), .int .u8 (if 7 < k then by8 v 7 else 0)]
def oct (v : Int) : List Value := [.int .u8 (by8 v 0), .int .u8 (by8 v 1), .int .u8 (by8 v 2), .int .u8 (by8 v 3), .int .u8 (by8 v 4), .int .u8 (by8 v 5), .int .u8 (by8 v 6), .int .u8 (by8 v 7)]
theorem octTo_end (v : Int) : octTo v 8 = oct v := rfl
theorem octTo_put (v : Int) (k : Nat) (h : k < 8) : (octTo v k).set k (.int .u8 (by8 v k)) = octTo v (k + 1) := by
  have hk : k = 0 ∨ k = 1 ∨ k = 2 ∨ k = 3 ∨ k = 4 ∨ k = 5 ∨ k = 6 ∨ k = 7 := by omega
  rcases hk with rfl | rfl | rfl | rfl | rfl | rfl | rfl | rfl <;> simp [octTo, List.set]
theorem octTo_at (v : Int) (k i : Nat) (h : i < 8) : ∃ x, (octTo v k)[i]? = some (.int .u8 x) := by
  have hk : i = 0 ∨ i = 1 ∨ i = 2 ∨ i = 3 ∨ i = 4 ∨ i = 5 ∨ i = 6 ∨ i = 7 := by omega
  rcases hk with rfl | rfl | rfl | rfl | rfl | rfl | rfl | rfl <;> exact ⟨_, rfl⟩
theorem octets_any (v : Int) (hv : U64 v) (W : World) : Calls Tryd.prog 55 #[.int .u64 v] W fun e W' => e = .returned (.agg (oct v).toArray) ∧ Below W.heap.size W W' := by
  have hv0 := hv.1
  go_enter Tryd.func55, Tryd.ntmps55
  go_wp2_with fail
  have hb0 : Below W.heap.size W ((W.alloc (.cells #[.int .u8 0, .int .u8 0, .int .u8 0, .int .u8 0, .int .u8 0, .int .u8 0, .int .u8 0, .int .u8 0] 86)).alloc (.cells #[.int .u8 0, .int .u8 0, .int .u8 0, .int .u8 0, .int .u8 0, .int .u8 0, .int .u8 0, .int .u8 0] 86)) :=
    ((Below.refl _ _).alloc (Nat.le_refl _) _).alloc (by simp) _
  have hx1 : Box ((W.alloc (.cells #[.int .u8 0, .int .u8 0, .int .u8 0, .int .u8 0, .int .u8 0, .int .u8 0, .int .u8 0, .int .u8 0] 86)).alloc (.cells #[.int .u8 0, .int .u8 0, .int .u8 0, .int .u8 0, .int .u8 0, .int .u8 0, .int .u8 0, .int .u8 0] 86)) W.heap.size 86 (octTo v 0) :=
    (Box.fresh W 86 (octTo v 0)).kept (Below.heap_alloc _ _ _ (by simp))
  have hx2 : Box ((W.alloc (.cells #[.int .u8 0, .int .u8 0, .int .u8 0, .int .u8 0, .int .u8 0, .int .u8 0, .int .u8 0, .int .u8 0] 86)).alloc (.cells #[.int .u8 0, .int .u8 0, .int .u8 0, .int .u8 0, .int .u8 0, .int .u8 0, .int .u8 0, .int .u8 0] 86)) (W.heap.size + 1) 86 (octTo v 0) := by
    have := Box.fresh (W.alloc (.cells #[.int .u8 0, .int .u8 0, .int .u8 0, .int .u8 0, .int .u8 0, .int .u8 0, .int .u8 0, .int .u8 0] 86)) 86 (octTo v 0)
    rw [World.size_alloc] at this
    exact this
  have HB0 := Lib.hid hb0
  have HX1 := Lib.hid hx1
  have HX2 := Lib.hid hx2
  clear hb0 hx1 hx2
  go_loopw [4, 5] (fun _ i wr => ∃ k : Nat, k ≤ 8 ∧ i = .int .i64 k ∧ Box wr W.heap.size 86 (octTo v 0) ∧ Box wr (W.heap.size + 1) 86 (octTo v k) ∧ Below W.heap.size W wr) (fun _ i _ => 8 - (intOf i).toNat)
  case atStart => exact ⟨0, by omega, rfl, HX1.out, HX2.out, HB0.out⟩
  case round =>
    clear HX1 HX2 HB0
    obtain ⟨k, hk, rfl, h1, h2, hb⟩ := hrel
    by_cases hlt : k < 8
    · obtain ⟨x, hx⟩ := octTo_at v k k hlt
      have hcell : wr.cell? ⟨W.heap.size + 1, k, none⟩ = some (.int .u8 x) := by rw [h2.cell k, hx]
      have hfr := h2.frozen k
      have h2' := h2.put k (.int .u8 (by8 v k))
      rw [octTo_put v k hlt] at h2'
      have h1' : Box (wr.setCell ⟨W.heap.size + 1, k, none⟩ (.int .u8 (by8 v k))) W.heap.size 86 (octTo v 0) := h1.kept (Below.heap_setCell _ _ _ _ (by simp))
      have hb' : Below W.heap.size W (wr.setCell ⟨W.heap.size + 1, k, none⟩ (.int .u8 (by8 v k))) := hb.setCell (by simp) _
      have H1 := Lib.hid h1'
      have H2 := Lib.hid h2'
      have HB := Lib.hid hb'
      clear h1 h2 h1' h2' hb hb' hx
      go_wp2_with fail
      go_roundw
      case rel => exact ⟨k + 1, by omega, by go_num, H1.out, H2.out, HB.out⟩
      case measure => simp [intOf]; omega
    · have : k = 8 := by omega
      subst this
      rw [octTo_end] at h2
      have hr : Box (wr.setRow W.heap.size (oct v).toArray) W.heap.size 86 (oct v) := setRow_heap _ _ _ _ _ _ h1
      have hb' : Below W.heap.size W (wr.setRow W.heap.size (oct v).toArray) := below_setRow hb (Nat.le_refl _) _
      have HB := Lib.hid hb'
      have HR := Lib.hid hr
      have H1 := Lib.hid h1
      have H2 := Lib.hid h2
      clear h1 h2 hb hb' hr
      go_wp2_with (refine wpList_load_row rfl 86 _ rfl (W.heap.size + 1) rfl 86 (oct v).toArray (0, 0) _ H2.out Tryd.underlying86 rfl (by kernel_rfl) ?_; refine wpList_store_row rfl 86 _ _ rfl W.heap.size (oct v).toArray rfl rfl 86 (octTo v 0).toArray H1.out (by kernel_rfl) rfl (by kernel_rfl) ?_)
      go_wp2_with fail
      exact bodyPost_ret (results_cell_row rfl _ _ W.heap.size 86 (oct v).toArray (0, 0) _ rfl HR.out Tryd.underlying86 rfl (by kernel_rfl)) rfl ⟨rfl, HB.out⟩
end Go.Proofs.YthakekgdllmbcaaDoor
