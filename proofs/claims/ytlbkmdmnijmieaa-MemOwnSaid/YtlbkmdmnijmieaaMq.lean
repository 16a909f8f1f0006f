/- Layer 9 (memory): Load, of the code. -/
import Derived.Test.YtlbkmdmnijmieaaMp
namespace Go.Proofs.Ytlbkmdmnijmieaa
open Go Go.RowKit Go.Shelf Rp
open Cq (U64 I64 isW nb mask)
attribute [local go_sem] Oper.semAt_some

theorem results_2cells {P : Program} {fn : Func} {p q : Tmp} {ty ty' : TypeId} (h : fn.results = #[.cell p ty, .cell q ty']) (tmps : Array Value) (w : World) (g g' : Nat) (v v' : Value)
    (hp : tmps.getD p undef = .pointer (some ⟨g, 0, none⟩)) (hq : tmps.getD q undef = .pointer (some ⟨g', 0, none⟩)) (hl : (loadVar ty ⟨g, 0, none⟩).run P w = .ok v w) (hl' : (loadVar ty' ⟨g', 0, none⟩).run P w = .ok v' w) :
    (results fn tmps).run P w = .ok (.tuple #[v, v']) w := by
  have hp' : tmps[p]?.getD undef = .pointer (some ⟨g, 0, none⟩) := by simpa using hp
  have hq' : tmps[q]?.getD undef = .pointer (some ⟨g', 0, none⟩) := by simpa using hq
  simp [results, h, hp', hq', asAddr, hl, hl']
theorem load_u64 (w : World) (a : Addr) (v : Value) (h : w.cell? a = some v) : (loadVar 30 a).run Try.prog w = .ok v w := by
  simp [loadVar, isAgg, run_underlying Try.underlying30, load, go_sem, Sem.run, h]
theorem load_bool (w : World) (a : Addr) (v : Value) (h : w.cell? a = some v) : (loadVar 4 a).run Try.prog w = .ok v w := by
  simp [loadVar, isAgg, run_underlying Try.underlying4, load, go_sem, Sem.run, h]
theorem load_no {B g : Nat} {v : Value} {bv : List Value} {L : List Ar} {W : World} (h : MS B W g v bv L) (t x w : Int) (hx : U64 x) (hm : mayB L t x w false = false) :
    Calls Try.prog 20 #[.pointer (some ⟨g, 0, none⟩), .int .i64 t, .int .u64 x, .int .i64 w] W fun e W' => e = .returned (.tuple #[.int .u64 0, .bool false]) ∧ Kp W W' := by
  obtain ⟨ga, c, hr⟩ := h.rd
  obtain ⟨w1, hw1⟩ : ∃ w1, w1 = ((W.alloc (.cells #[.int .u64 x] 30)).alloc (.cells #[.int .u64 0] 30)).alloc (.cells #[.bool false] 4) := ⟨_, rfl⟩
  have hk1 : Kp W w1 := by rw [hw1]; exact (((Kp.rfl W).new _).new _).new _
  have H := Lib.hid (may_any g ga c L t x w false w1 (hr.kp hk1) hx)
  rw [hm] at H
  have hs : w1.heap.size = W.heap.size + 3 := by rw [hw1]; simp
  have hb8 : w1.heap[W.heap.size + 1]? = some (.cells #[.int .u64 0] 30 (0, 0)) := by
    rw [hw1]; refine (Below.heap_alloc _ _ _ (by simp)).trans ?_
    have := heap_alloc_new (W.alloc (.cells #[.int .u64 x] 30)) (.cells #[.int .u64 0] 30); rwa [World.size_alloc] at this
  have hb9 : w1.heap[W.heap.size + 2]? = some (.cells #[.bool false] 4 (0, 0)) := by
    rw [hw1]
    have := heap_alloc_new ((W.alloc (.cells #[.int .u64 x] 30)).alloc (.cells #[.int .u64 0] 30)) (.cells #[.bool false] 4); rwa [World.size_alloc, World.size_alloc] at this
  clear hm hr h hx
  go_enter Try.func20, Try.ntmps20
  go_wp2_with fail
  rw [← hw1]
  refine H.out.mono ?_; rintro e w2 ⟨rfl, hk⟩
  have b8 := (hk.block (W.heap.size + 1) (by omega)).trans hb8
  have b9 := (hk.block (W.heap.size + 2) (by omega)).trans hb9
  have c8 := cell_of_row w2 (W.heap.size + 1) 0 _ _ _ b8
  have c9 := cell_of_row w2 (W.heap.size + 2) 0 _ _ _ b9
  have f8 : w2.frozen? ⟨W.heap.size + 1, 0, none⟩ = false := by simp [World.frozen?, b8]
  have f9 : w2.frozen? ⟨W.heap.size + 2, 0, none⟩ = false := by simp [World.frozen?, b9]
  simp at c8 c9
  clear hw1
  have HK := Lib.hid (hk1.next hk)
  clear hk1 hk hb8 hb9 b8 b9
  go_wp2_with fail
  refine bodyPost_ret (results_2cells rfl _ _ (W.heap.size + 1) (W.heap.size + 2) (.int .u64 0) (.bool false) rfl rfl (load_u64 _ _ _ (by go_simp)) (load_bool _ _ _ (by go_simp))) rfl ?_
  exact ⟨rfl, (HK.out.put (p := ⟨W.heap.size + 1, 0, none⟩) (by simp) _).put (p := ⟨W.heap.size + 2, 0, none⟩) (by simp) _⟩
end Go.Proofs.Ytlbkmdmnijmieaa
