import Derived.Test.YtdfddpfbjaknoaaGreatSa
import Derived.Lib.MinMax
import Derived.Deep.RegionHeld3
import Derived.Deep.DeepCutAuto
import Derived.Deep.RegionLaw
namespace Go.Proofs.YtdfddpfbjaknoaaGreat
open Go Go.Proofs Go.RowKit
/-- Accesses in memory: number j of access i. -/
structure In4 (W : World) (A : Option Addr) (n : Nat) (f : Nat → Nat → Int) : Prop where
  at' : (A = none ∧ n = 0) ∨ ∃ b off, A = some ⟨b, off, none⟩ ∧ b < W.heap.size ∧ ∀ i, i < n → ∀ j, j < 4 → W.cell? ⟨b, off + i * 4 + j, none⟩ = some (.int .i64 (f i j))
theorem In4.low {W W' : World} {A : Option Addr} {n : Nat} {f : Nat → Nat → Int} (h : In4 W A n f) (k : Below W.heap.size W W') : In4 W' A n f :=
  ⟨by
    rcases h.at' with h1 | ⟨b, off, h1, h2, h3⟩
    · exact .inl h1
    · exact .inr ⟨b, off, h1, Nat.lt_of_lt_of_le h2 k.size, fun i hi j hj => (k.cell (p := ⟨b, off + i * 4 + j, none⟩) h2).trans (h3 i hi j hj)⟩⟩
/-- The least offset, as Over reckons it. -/
def lowO (f : Nat → Nat → Int) : Nat → Int
  | 0 => f 0 2
  | k + 1 => min (lowO f k) (f k 2)
def highO (f : Nat → Nat → Int) : Nat → Int
  | 0 => f 0 2 + f 0 3
  | k + 1 => max (highO f k) (f k 2 + f k 3)
/-- Numbers that do not overflow. -/
def Mild (f : Nat → Nat → Int) (n : Nat) : Prop := ∀ i, i < n → -2097152 ≤ f i 2 ∧ f i 2 ≤ 2097152 ∧ 0 ≤ f i 3 ∧ f i 3 ≤ 15
theorem load4 {P : Program} (w : World) (b o : Nat) (ty : TypeId) (x0 x1 x2 x3 : Int) (d : TypeDesc) (h0 : w.cell? ⟨b, o, none⟩ = some (.int .i64 x0)) (h1 : w.cell? ⟨b, o + 1, none⟩ = some (.int .i64 x1)) (h2 : w.cell? ⟨b, o + 2, none⟩ = some (.int .i64 x2)) (h3 : w.cell? ⟨b, o + 3, none⟩ = some (.int .i64 x3))
    (hu : P.underlying ty = some d) (hd : (match d with | .struct _ | .array _ _ => true | _ => false) = true) (hi : (P.info? ty).map (·.size) = some 4) :
    (loadVar ty ⟨b, o, none⟩).run P w = .ok (.agg #[.int .i64 x0, .int .i64 x1, .int .i64 x2, .int .i64 x3]) w := by
  have hl : (loadCells ⟨b, o, none⟩ 4).run P w = .ok #[.int .i64 x0, .int .i64 x1, .int .i64 x2, .int .i64 x3] w :=
    run_loadCells_list (P := P) w ⟨b, o, none⟩ [.int .i64 x0, .int .i64 x1, .int .i64 x2, .int .i64 x3] (fun j v hv => by
      have hadd : (⟨b, o, none⟩ : Addr).add j = ⟨b, o + j, none⟩ := by unfold Addr.add; split <;> simp_all
      rw [hadd]
      match j, hv with
      | 0, hv => simp at hv; subst hv; exact h0
      | 1, hv => simp at hv; subst hv; exact h1
      | 2, hv => simp at hv; subst hv; exact h2
      | 3, hv => simp at hv; subst hv; exact h3)
  cases hq : P.info? ty with
  | none => simp [hq] at hi
  | some i =>
    have hs : i.size = 4 := by simpa [hq] using hi
    have hagg : (isAgg ty).run P w = .ok true w := by
      unfold isAgg
      rw [Sem.run_bind, run_underlying hu w]
      cases d <;> simp_all
    simp [loadVar, Sem.run_bind, hagg, sizeOf, typeInfo, hq, hs, hl]
theorem new_at (w : World) (o : Obj) (k : Nat) (h : w.heap.size = k) : (w.alloc o).heap[k]? = some o := by subst h; exact heap_alloc_new w o
theorem unfrozen {w : World} {g o : Nat} {cs : Array Value} {t : TypeId} (h : w.heap[g]? = some (.cells cs t (0, 0))) : w.frozen? ⟨g, o, none⟩ = false := by
  simp [World.frozen?, h]
theorem s4_low {W w : World} {b off : Nat} {x0 x1 x2 x3 : Value} (h : W.cell? ⟨b, off, none⟩ = some x0 ∧ W.cell? ⟨b, off + 1, none⟩ = some x1 ∧ W.cell? ⟨b, off + 2, none⟩ = some x2 ∧ W.cell? ⟨b, off + 3, none⟩ = some x3) (k : Below W.heap.size W w) (hb : b < W.heap.size) :
    w.cell? ⟨b, off, none⟩ = some x0 ∧ w.cell? ⟨b, off + 1, none⟩ = some x1 ∧ w.cell? ⟨b, off + 2, none⟩ = some x2 ∧ w.cell? ⟨b, off + 3, none⟩ = some x3 :=
  ⟨(k.cell (p := ⟨b, off, none⟩) hb).trans h.1, (k.cell (p := ⟨b, off + 1, none⟩) hb).trans h.2.1, (k.cell (p := ⟨b, off + 2, none⟩) hb).trans h.2.2.1, (k.cell (p := ⟨b, off + 3, none⟩) hb).trans h.2.2.2⟩
theorem s4_set {w : World} {b g o off : Nat} {x0 x1 x2 x3 v : Value} (h : w.cell? ⟨b, off, none⟩ = some x0 ∧ w.cell? ⟨b, off + 1, none⟩ = some x1 ∧ w.cell? ⟨b, off + 2, none⟩ = some x2 ∧ w.cell? ⟨b, off + 3, none⟩ = some x3) (hb : b ≠ g) :
    (w.setCell ⟨g, o, none⟩ v).cell? ⟨b, off, none⟩ = some x0 ∧ (w.setCell ⟨g, o, none⟩ v).cell? ⟨b, off + 1, none⟩ = some x1 ∧ (w.setCell ⟨g, o, none⟩ v).cell? ⟨b, off + 2, none⟩ = some x2 ∧ (w.setCell ⟨g, o, none⟩ v).cell? ⟨b, off + 3, none⟩ = some x3 := by
  have hn : ∀ j, (⟨g, o, none⟩ : Addr) ≠ ⟨b, j, none⟩ := fun j e => hb (by simpa using (congrArg Addr.block e).symm)
  refine ⟨?_, ?_, ?_, ?_⟩ <;> rw [World.cell?_setCell_other _ _ _ _ (hn _)]
  · exact h.1
  · exact h.2.1
  · exact h.2.2.1
  · exact h.2.2.2
theorem pair_set {w : World} {g : Nat} {a b : Value} (x y : Value) {t : TypeId} (h : w.heap[g]? = some (.cells #[a, b] t (0, 0))) : ((w.setCell ⟨g, 0, none⟩ x).setCell ⟨g, 1, none⟩ y).heap[g]? = some (.cells #[x, y] t (0, 0)) :=
  heap_setCell_same _ g 1 _ t y (heap_setCell_same w g 0 _ t x h)
theorem results_cell {fn : Func} {P : Program} {w : World} {t u : Tmp} {ty : TypeId} {p : Addr} {v x : Value} {tmps : Array Value} (h : fn.results = #[.cell t ty, .tmp u]) (ht : tmps.getD t undef = .pointer (some p)) (hv : (loadVar ty p).run P w = .ok v w) (hx : tmps.getD u undef = x) :
    (results fn tmps).run P w = .ok (.tuple #[v, x]) w := by
  have ht' : tmps[t]?.getD undef = .pointer (some p) := by simpa using ht
  have hx' : tmps[u]?.getD undef = x := by simpa using hx
  simp [results, h, ht', hx', asAddr, hv]
theorem wpList_load_any {P : Program} {ops : Array Oper} {rest : List Oper} {o : Oper} {a : Act} {w : World} {Q : Exit → Act → World → Prop} (hw : Region.wanted o (yielded ops a.tmps) = true)
    (ty : TypeId) (x : Operand) (ho : o.op = .load ty x) (p : Addr) (hx : a.eval x = .pointer (some p)) (cs : Array Value) (hl : (loadVar ty p).run P w = .ok (.agg cs) w)
    (h : wpList P ops Q rest (a.put o.dst (.agg cs)) w) : wpList P ops Q (o :: rest) a w :=
  wpList_step fun K hK => by
    rw [if_pos hw]
    unfold Oper.wp execOp
    simp only [ho, hx, Instr.loadAt, Instr.sureAddr, Sem.run_bind, Sem.run_pure, Result.andThen_ok, hl]
    exact hK _ _ h
theorem fin_pair {W w : World} {s : Nat} {a b : Value} {o : Obj} {t : TypeId} (x y : Value) (h1 : w.heap[s]? = some (.cells #[a, b] t (0, 0))) (h2 : w.heap[W.heap.size]? = some o) (h3 : Below W.heap.size W w) (hs : W.heap.size < s) :
    ((w.setCell ⟨s, 0, none⟩ x).setCell ⟨s, 1, none⟩ y).heap[s]? = some (.cells #[x, y] t (0, 0)) ∧ ((w.setCell ⟨s, 0, none⟩ x).setCell ⟨s, 1, none⟩ y).heap[W.heap.size]? = some o ∧ Below W.heap.size W ((w.setCell ⟨s, 0, none⟩ x).setCell ⟨s, 1, none⟩ y) :=
  ⟨pair_set x y h1, ((heap_setCell_other _ ⟨s, 1, none⟩ _ y (Nat.ne_of_lt hs)).trans (heap_setCell_other w ⟨s, 0, none⟩ _ x (Nat.ne_of_lt hs))).trans h2, (h3.setCell (p := ⟨s, 0, none⟩) (Nat.le_of_lt hs) x).setCell (p := ⟨s, 1, none⟩) (Nat.le_of_lt hs) y⟩
/-- An operation that yields its value in every world that meets the region's condition is taken first. -/
theorem held_take {P : Program} {ops : Array Oper} {md : Region.Mode} {Q : Exit → Act → World → Prop} {S : World → Prop} {i : Nat} {oi : Oper} {d : Option Tmp} {v : Value} {fuel : Nat} {listed : Array Bool} {a : Act} {w : World} (hi : ops[i]? = some oi) (hd : oi.dst = d)
    (hs : Region.noSelect ops = true) (hf : Region.free md ops listed i = true) (hr : (Region.ready md ops listed).contains i = true)
    (hQ : ∀ c a w, Q (.panic c) (a.put d v) w → Q (.panic c) a w) (hy : YieldsIf P ops S oi v a) (hS : S w)
    (h : wpAnyH P md ops Q S fuel (listed.setIfInBounds i true) (a.put d v) w) : wpAnyH P md ops Q S (fuel + 1) listed a w := by
  subst hd
  exact wpAnyH_take hi hs hf hr hQ hy hS h
set_option maxRecDepth 100000 in
set_option maxHeartbeats 2000000 in
theorem over_none (A : Option Addr) (c : Nat) (W : World) : Calls Tryz.prog 4 #[.slice A 0 c] W fun e W' => e = .returned (.tuple #[.agg #[.int .i64 0, .int .i64 0], .bool false]) ∧ Below W.heap.size W W' := by
  go_enter Tryz.func4, Tryz.ntmps4
  go_wp2_with fail
  refine bodyPost_ret (results_cell rfl rfl (run_loadVar_row _ _ 27 27 _ (0, 0) _ (heap_alloc_new W _) Tryz.underlying27 rfl (by kernel_rfl)) rfl) rfl ?_
  exact ⟨rfl, (Below.refl _ _).alloc (Nat.le_refl _) _⟩
theorem lowO_succ (f : Nat → Nat → Int) (k : Nat) : lowO f (k + 1) = min (lowO f k) (f k 2) := rfl
theorem highO_succ (f : Nat → Nat → Int) (k : Nat) : highO f (k + 1) = max (highO f k) (f k 2 + f k 3) := rfl
theorem meas_up {n k : Nat} (h : k < n) : n - (intOf (.int .i64 ((k : Int) + 1))).toNat < n - (intOf (.int .i64 (k : Int))).toNat := by
  simp [intOf]
  omega
end Go.Proofs.YtdfddpfbjaknoaaGreat
