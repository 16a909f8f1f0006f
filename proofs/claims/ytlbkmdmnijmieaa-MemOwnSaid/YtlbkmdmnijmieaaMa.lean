/- Layer 9 (memory): what lies in memory for it; small walks. -/
import Derived.Test.YtlbkmdmnijmieaaBitw
import Derived.Test.YtlbkmdmnijmieaaRopm
import Derived.Laws.Rows
import Derived.Deep.RegionHeld3
namespace Go.Proofs.Ytlbkmdmnijmieaa
open Go Go.RowKit Rp
open Cq (U64 I64 isW nb mask)

/-- what was there before is as it was -/
abbrev Kp (W W' : World) : Prop := Below W.heap.size W W'
theorem Kp.rfl (W : World) : Kp W W := Below.refl _ W
theorem Kp.next {W W1 W2 : World} (h : Kp W W1) (k : Kp W1 W2) : Kp W W2 := h.trans (k.mono h.size)
theorem Kp.new {W W1 : World} (h : Kp W W1) (o : Obj) : Kp W (W1.alloc o) := h.alloc h.size o
theorem Kp.draw {W W1 : World} (h : Kp W W1) : Kp W W1.drew := h.drew
theorem Kp.draws {W W1 : World} (h : Kp W W1) (n : Nat) : Kp W (W1.drewN n) := ⟨h.os, h.tape, h.output, h.size, h.block⟩
theorem Kp.put {W w : World} (h : Kp W w) {p : Addr} (hp : W.heap.size ≤ p.block) (v : Value) : Kp W (w.setCell p v) := h.setCell hp v
theorem Kp.row {W w : World} (h : Kp W w) (g : Nat) (cs : Array Value) (hg : W.heap.size ≤ g) : Kp W (w.setRow g cs) :=
  ⟨h.os, h.tape, h.output, by simpa [World.setRow] using h.size, fun k hk => by
    have hne : ¬ g = k := by omega
    rw [← h.block k hk]; simp [World.setRow, Array.getElem?_modify, hne]⟩
theorem kcell {w1 w2 : World} {o : Obj} (h : Kp (w1.alloc o) w2) {b i : Nat} {v : Value} (hl : b < w1.heap.size) (hb : w1.cell? ⟨b, i, none⟩ = some v) : w2.cell? ⟨b, i, none⟩ = some v := by
  rw [h.cell (p := ⟨b, i, none⟩) (by simp; omega), World.cell?_alloc_past o b i hl, hb]
theorem kcell_new {w1 w2 : World} {cs : Array Value} {t : Nat} (h : Kp (w1.alloc (.cells cs t)) w2) (i : Nat) : w2.cell? ⟨w1.heap.size, i, none⟩ = cs[i]? := by
  rw [h.cell (p := ⟨w1.heap.size, i, none⟩) (by simp), World.cell?_alloc_new]
theorem ksize {w1 w2 : World} {o : Obj} (h : Kp (w1.alloc o) w2) : w1.heap.size < w2.heap.size := by have := h.size; simp at this; omega
theorem wpList_load_any {P : Program} {ops : Array Oper} {rest : List Oper} {o : Oper} {a : Act} {w : World} {Q : Exit → Act → World → Prop} (hw : Region.wanted o (yielded ops a.tmps) = true)
    (ty : TypeId) (x : Operand) (ho : o.op = .load ty x) (p : Addr) (hx : a.eval x = .pointer (some p)) (cs : Array Value) (hl : (loadVar ty p).run P w = .ok (.agg cs) w)
    (h : wpList P ops Q rest (a.put o.dst (.agg cs)) w) : wpList P ops Q (o :: rest) a w :=
  wpList_step fun K hK => by
    rw [if_pos hw]
    unfold Oper.wp execOp
    simp only [ho, hx, Instr.loadAt, Instr.sureAddr, Sem.run_bind, Sem.run_pure, Result.andThen_ok, hl]
    exact hK _ _ h
theorem results_cell_tmp {P : Program} {fn : Func} {p q : Tmp} {ty : TypeId} (h : fn.results = #[.cell p ty, .tmp q]) (tmps : Array Value) (w : World) (g : Nat) (t : TypeId) (cs : Array Value) (fr : Nat × Nat) (d : TypeDesc) (v : Value)
    (hp : tmps.getD p undef = .pointer (some ⟨g, 0, none⟩)) (hq : tmps.getD q undef = v) (hg : w.heap[g]? = some (.cells cs t fr))
    (hu : P.underlying ty = some d) (hd : (match d with | .struct _ | .array _ _ => true | _ => false) = true) (hi : (P.info? ty).map (·.size) = some cs.size) :
    (results fn tmps).run P w = .ok (.tuple #[.agg cs, v]) w := by
  have hp' : tmps[p]?.getD undef = .pointer (some ⟨g, 0, none⟩) := by simpa using hp
  have hq' : tmps[q]?.getD undef = v := by simpa using hq
  simp [results, h, hp', hq', asAddr, run_loadVar_row w g t ty cs fr d hg hu hd hi]

/-- does an area hold an address? -/
def hasB (lo : Int) (n : Nat) (x : Int) : Bool := decide (IntKind.u64.wrap (x - lo) < (n : Int))
theorem has_any (lo x : Int) (A : Option Addr) (n c : Nat) (wr pv : Bool) (hn : n ≤ 9223372036854775807) (W : World) :
    Calls Try.prog 61 #[.agg #[.int .u64 lo, .slice A n c, .bool wr, .bool pv], .int .u64 x] W fun e W' =>
      e = .returned (.bool (hasB lo n x)) ∧ W' = W.alloc (.cells #[.int .u64 lo, .slice A n c, .bool wr, .bool pv] 61) := by
  go_enter Try.func61, Try.ntmps61
  go_wp2_with fail
  go_ret
  exact ⟨rfl, rfl⟩
theorem place_any (lo x : Int) (b off k : Nat) (n c : Nat) (wr pv : Bool) (hk : IntKind.u64.wrap (x - lo) = (k : Int)) (hkn : k < n) (W : World) :
    Calls Try.prog 49 #[.agg #[.int .u64 lo, .slice (some ⟨b, off, none⟩) n c, .bool wr, .bool pv], .int .u64 x] W fun e W' =>
      e = .returned (.pointer (some ⟨b, off + k, none⟩)) ∧ W' = W.alloc (.cells #[.int .u64 lo, .slice (some ⟨b, off, none⟩) n c, .bool wr, .bool pv] 61) := by
  go_enter Try.func49, Try.ntmps49
  go_wp2_with fail
  go_ret
  exact ⟨rfl, rfl⟩
def knB (t : Int) : Bool := decide (0 ≤ t) && decide (t < 8)
theorem knows_nil (t : Int) (W : World) : Calls Try.prog 46 #[.pointer none, .int .i64 t] W fun e W' => e = .returned (.bool false) ∧ W = W' := by
  go_enter Try.func46, Try.ntmps46
  go_wp2_with fail
  go_ret
  exact ⟨rfl, rfl⟩
theorem knows_any (t : Int) (g : Nat) (W : World) : Calls Try.prog 46 #[.pointer (some ⟨g, 0, none⟩), .int .i64 t] W fun e W' => e = .returned (.bool (knB t)) ∧ W = W' := by
  unfold knB
  by_cases h : 0 ≤ t
  · by_cases h2 : t < 8
    · go_enter Try.func46, Try.ntmps46
      go_wp2_with fail
      go_ret
      exact ⟨by simp [h, h2], rfl⟩
    · have h2' := Int.not_lt.mp h2
      go_enter Try.func46, Try.ntmps46
      go_wp2_with fail
      go_ret
      exact ⟨by simp [h, h2], rfl⟩
  · have h' := Int.not_le.mp h
    have hd : decide (0 ≤ t) = false := decide_eq_false h
    rw [hd]
    go_enter Try.func46, Try.ntmps46
    go_wp2_with fail
    go_ret
    exact ⟨by simp, rfl⟩
end Go.Proofs.Ytlbkmdmnijmieaa
