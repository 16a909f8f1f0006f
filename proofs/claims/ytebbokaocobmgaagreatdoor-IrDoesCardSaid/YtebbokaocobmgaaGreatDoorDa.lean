/- Walks of layer 13: the functions of two words, of the code and of the document's own answers. -/
import Derived.Test.YtebbokaocobmgaaGreatDoorFm
import Derived.Below
import Derived.Deep.RegionWith
namespace Go.Proofs.YtebbokaocobmgaaGreatDoor
open Go Go.RowKit
open Cq (U64 I64 isW nb zx sx neg mhi mlo shi)

abbrev Kp (W W' : World) : Prop := Below W.heap.size W W'
theorem Kp.rfl (W : World) : Kp W W := Below.refl _ W
theorem Kp.next {W W1 W2 : World} (h : Kp W W1) (k : Kp W1 W2) : Kp W W2 := h.trans (k.mono h.size)
theorem Kp.new {W W1 : World} (h : Kp W W1) (o : Obj) : Kp W (W1.alloc o) := h.alloc h.size o
theorem Kp.draw {W W1 : World} (h : Kp W W1) : Kp W W1.drew := h.drew
def str (l : List UInt8) : Value := .string ⟨l.toArray⟩
def ftab : List (List UInt8) := [[], [97, 100, 100], [115, 117, 98], [97, 110, 100], [111, 114], [120, 111, 114], [109, 117, 108], [109, 117, 108, 117], [109, 117, 108, 115], [100, 105, 118, 117], [100, 105, 118, 115], [115, 104, 108], [115, 104, 114], [115, 97, 114], [101, 113], [108, 116, 117], [108, 116, 115]]
def ftabObj : Obj := .cells (ftab.map str).toArray 9
theorem ftab_cell (W : World) (n : Nat) (h : n < 17) : (W.alloc ftabObj).cell? ⟨W.heap.size, n, none⟩ = some (str (ftab.getD n [])) := by
  rw [World.cell?, heap_alloc_new]
  have : n < ftab.length := h
  simp [ftabObj, List.getElem?_eq_getElem this]
set_option maxRecDepth 100000 in
theorem functions_any (W : World) : Calls Tryz.prog 9 #[] W fun e W' => e = .returned (.slice (some ⟨W.heap.size, 0, none⟩) 17 17) ∧ W' = W.alloc ftabObj := by
  go_enter Tryz.func9, Tryz.ntmps9
  go_wp2_with fail
  go_ret
  exact ⟨by simp, by kernel_rfl⟩
def oneB (c : Bool) : Int := if c then 1 else 0
theorem one_any (c : Bool) (W : World) : Calls Tryz.prog 7 #[.bool c] W fun e W' => e = .returned (.int .u64 (oneB c)) ∧ W' = W := by
  cases c <;> (go_enter Tryz.func7, Tryz.ntmps7; go_wp2_with fail; go_ret; exact ⟨rfl, rfl⟩)
theorem rone_any (c : Bool) (W : World) : Calls Tryz.prog 14 #[.bool c] W fun e W' => e = .returned (.int .u64 (oneB c)) ∧ W' = W := by
  cases c <;> (go_enter Tryz.func14, Tryz.ntmps14; go_wp2_with fail; go_ret; exact ⟨rfl, rfl⟩)
def ngB (a : Int) : Bool := decide (9223372036854775808 ≤ a)
theorem rng_any (a : Int) (W : World) : Calls Tryz.prog 13 #[.int .u64 a] W fun e W' => e = .returned (.bool (ngB a)) ∧ W' = W := by
  unfold ngB
  go_enter Tryz.func13, Tryz.ntmps13
  go_wp2_with fail
  go_ret
  exact ⟨rfl, rfl⟩
def szB (a : Int) : Int := if ngB a then IntKind.u64.wrap (0 - a) else a
theorem rsz_any (a : Int) (W : World) : Calls Tryz.prog 12 #[.int .u64 a] W fun e W' => e = .returned (.int .u64 (szB a)) ∧ W' = W := by
  unfold szB
  cases h : ngB a
  · have H := Lib.hid h
    clear h
    go_enter Tryz.func12, Tryz.ntmps12
    go_wp2_with fail
    refine (rng_any _ _).mono ?_; rintro e w' ⟨rfl, rfl⟩
    rw [H.out]
    go_wp2_with fail
    go_ret
    exact ⟨rfl, rfl⟩
  · have H := Lib.hid h
    clear h
    go_enter Tryz.func12, Tryz.ntmps12
    go_wp2_with fail
    refine (rng_any _ _).mono ?_; rintro e w' ⟨rfl, rfl⟩
    rw [H.out]
    go_wp2_with fail
    go_ret
    exact ⟨by simp, rfl⟩
end Go.Proofs.YtebbokaocobmgaaGreatDoor
