/- Walks of layer 5: the words of operations, and whether one of them stands in a text. -/
import Derived.Test.YtdpbalongdcjbaaDoorIa
namespace Go.Proofs.YtdpbalongdcjbaaDoor
open Go Go.RowKit

/-- the words of the operations, from 1 on -/
def tab : List (List UInt8) := [[], [97, 100, 100], [111, 114], [97, 100, 99], [115, 98, 98], [97, 110, 100], [115, 117, 98], [120, 111, 114], [99, 109, 112], [116, 101, 115, 116], [109, 111, 118], [109, 111, 118, 122, 120], [109, 111, 118, 115, 120], [108, 101, 97], [112, 117, 115, 104], [112, 111, 112], [105, 110, 99], [100, 101, 99], [110, 111, 116], [110, 101, 103], [109, 117, 108], [115, 109, 117, 108], [100, 105, 118], [115, 100, 105, 118], [105, 109, 117, 108], [105, 109, 117, 108, 105], [114, 111, 108], [114, 111, 114], [115, 104, 108], [115, 104, 114], [115, 97, 114], [120, 99, 104, 103], [99, 97, 115], [120, 97, 100, 100], [99, 109, 111, 118], [115, 101, 116], [106, 99, 99], [106, 109, 112], [99, 97, 108, 108], [114, 101, 116], [119, 105, 100, 101], [115, 105, 103, 110], [109, 111, 118, 115], [115, 116, 111, 115], [102, 101, 110, 99, 101], [110, 111, 112], [115, 121, 115], [117, 100]]
/-- a text's cell -/
def str (l : List UInt8) : Value := .string ⟨l.toArray⟩
/-- the words as they lie in memory -/
def tabObj : Obj := .cells (tab.map str).toArray 9
theorem tab_cell (W : World) (n : Nat) (h : n < 48) : (W.alloc tabObj).cell? ⟨W.heap.size, n, none⟩ = some (str (tab.getD n [])) := by
  rw [World.cell?, heap_alloc_new]
  have : n < tab.length := h
  simp [tabObj, List.getElem?_eq_getElem this]

set_option maxRecDepth 100000 in
theorem words_any (W : World) : Calls Tryd.prog 38 #[] W fun e W' => e = .returned (.slice (some ⟨W.heap.size, 0, none⟩) 48 48) ∧ W' = W.alloc tabObj := by
  go_enter Tryd.func38, Tryd.ntmps38
  go_wp2_with fail
  go_ret
  exact ⟨by simp, by kernel_rfl⟩

/-- does the word w stand at k, between blanks? -/
def tokAt (w s : List UInt8) (k : Nat) : Bool := (s.drop k).take w.length == w && (k == 0 || s.getD (k - 1) 0 == 32) && (k + w.length == s.length || s.getD (k + w.length) 0 == 32)
/-- is w one of a text's words? -/
def tok (w s : List UInt8) : Bool := (List.range (s.length + 1 - w.length)).any (tokAt w s)
/-- is an operation one of a text's words? -/
def isW (op : Int) (s : List UInt8) : Bool := if op < 1 ∨ 47 < op then false else tok (tab.getD op.toNat []) s

set_option maxRecDepth 100000 in
theorem is_out (W : World) (op : Int) (ho : op < 1 ∨ 47 < op) (s : List UInt8) (r1 r2 r3 r4 r5 r6 r7 r8 r9 r10 r11 r12 r13 r14 r15 r16 r17 r18 r19 : Value) :
    Calls Tryd.prog 26 #[.agg #[.int .i64 op, r1, r2, r3, r4, r5, r6, r7, r8, r9, r10, r11, r12, r13, r14, r15, r16, r17, r18, r19], str s] W fun e W' => e = .returned (.bool (isW op s)) ∧ Kp W W' := by
  unfold str isW
  rw [if_pos ho]
  by_cases h1 : op < 1
  · go_enter Tryd.func26, Tryd.ntmps26
    go_wp2_with fail
    go_ret
    exact ⟨rfl, (Kp.rfl W).new _⟩
  · have h2 : 47 < op := by omega
    go_enter Tryd.func26, Tryd.ntmps26
    go_wp2_with fail
    go_ret
    exact ⟨rfl, (Kp.rfl W).new _⟩

end Go.Proofs.YtdpbalongdcjbaaDoor
