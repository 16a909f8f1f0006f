import Derived.Test.YtbhhfbenajcinaaNc
import Derived.Laws.CopyOwn
import Derived.Laws.Tables
import Derived.Deep.DeepCutAuto
namespace Go.Proofs.Ytbhhfbenajcinaa
open Go Go.SX Go.Proofs Go.RowKit
theorem own_shape {W : World} {B e size n : Nat} {v : Value} {xs : List Value} (h : W.ownsRow B e size v n xs) : ∃ A c, v = .slice A n c := by
  rcases h.2 with ⟨rfl, rfl⟩ | ⟨k, cap, cur, rfl, _⟩
  · exact ⟨none, 0, rfl⟩
  · exact ⟨_, cap, rfl⟩
theorem own_low {W W' : World} {B e size n : Nat} {v : Value} {xs : List Value} (h : W.ownsRow B e size v n xs) (k : Below W.heap.size W W') : W'.ownsRow B e size v n xs := by
  refine ⟨h.1, ?_⟩
  rcases h.2 with hv | ⟨g, cap, cur, hv, hB, hg, hrest⟩
  · exact .inl hv
  · exact .inr ⟨g, cap, cur, hv, hB, by rw [k.block g (Array.getElem?_eq_some_iff.1 hg).1, hg], hrest⟩
theorem new_at (w : World) (o : Obj) (k : Nat) (h : w.heap.size = k) : (w.alloc o).heap[k]? = some o := by subst h; exact heap_alloc_new w o
/-- Instructions, as an argument: their cells. -/
structure In20 (W : World) (A : Option Addr) (n : Nat) (vs : List Value) : Prop where
  len : vs.length = n * 20
  has : ∀ i u, vs[i]? = some u → (ssI.getD (i % 20) .any).has u
  at' : (A = none ∧ n = 0) ∨ ∃ b off, A = some ⟨b, off, none⟩ ∧ b < W.heap.size ∧ ∀ i u, vs[i]? = some u → W.cell? ⟨b, off + i, none⟩ = some u
theorem In20.low {W W' : World} {A : Option Addr} {n : Nat} {vs : List Value} (h : In20 W A n vs) (k : Below W.heap.size W W') : In20 W' A n vs :=
  ⟨h.len, h.has, by
    rcases h.at' with h1 | ⟨b, off, h1, h2, h3⟩
    · exact .inl h1
    · exact .inr ⟨b, off, h1, Nat.lt_of_lt_of_le h2 k.size, fun i u hu => (k.cell (p := ⟨b, off + i, none⟩) h2).trans (h3 i u hu)⟩⟩
theorem all2_of {ss : List So} {vs : List Value} (hl : ss.length = vs.length) (h : ∀ i u, vs[i]? = some u → (ss.getD i .any).has u) : All2 So.has ss vs := by
  induction ss generalizing vs with
  | nil => cases vs with | nil => trivial | cons _ _ => simp at hl
  | cons s ss ih =>
    cases vs with
    | nil => simp at hl
    | cons v vs =>
      refine ⟨by have := h 0 v (by simp); simpa using this, ih (by simpa using hl) fun i u hu => ?_⟩
      have := h (i + 1) u (by simpa using hu)
      simpa using this
theorem In20.elem {W : World} {A : Option Addr} {n : Nat} {vs : List Value} (h : In20 W A n vs) {k : Nat} (hk : k < n) : All2 So.has ssI ((vs.drop (k * 20)).take 20) ∧ ((vs.drop (k * 20)).take 20).length = 20 := by
  have hl := h.len
  have hlen : ((vs.drop (k * 20)).take 20).length = 20 := by
    rw [List.length_take, List.length_drop]
    omega
  refine ⟨all2_of (by rw [hlen]; kernel_rfl) fun i u hu => ?_, hlen⟩
  rw [List.getElem?_take] at hu
  split at hu
  · rename_i hi
    rw [List.getElem?_drop] at hu
    have := h.has _ u hu
    rwa [show (k * 20 + i) % 20 = i by omega] at this
  · simp at hu
theorem load20 {P : Program} (w : World) (b o : Nat) (ty : TypeId) (cs : List Value) (d : TypeDesc) (h : ∀ j v, cs[j]? = some v → w.cell? ⟨b, o + j, none⟩ = some v) (hu : P.underlying ty = some d) (hd : (match d with | .struct _ | .array _ _ => true | _ => false) = true) (hi : (P.info? ty).map (·.size) = some cs.length) :
    (loadVar ty ⟨b, o, none⟩).run P w = .ok (.agg cs.toArray) w := by
  have hl : (loadCells ⟨b, o, none⟩ cs.length).run P w = .ok cs.toArray w :=
    run_loadCells_list (P := P) w ⟨b, o, none⟩ cs (fun j v hv => by
      have hadd : (⟨b, o, none⟩ : Addr).add j = ⟨b, o + j, none⟩ := by unfold Addr.add; split <;> simp_all
      rw [hadd]
      exact h j v hv)
  cases hq : P.info? ty with
  | none => simp [hq] at hi
  | some i =>
    have hs : i.size = cs.length := by simpa [hq] using hi
    have hagg : (isAgg ty).run P w = .ok true w := by
      unfold isAgg
      rw [Sem.run_bind, run_underlying hu w]
      cases d <;> simp_all
    simp [loadVar, Sem.run_bind, hagg, sizeOf, typeInfo, hq, hs, hl]
theorem wpList_load_any {P : Program} {ops : Array Oper} {rest : List Oper} {o : Oper} {a : Act} {w : World} {Q : Exit → Act → World → Prop} (hw : Region.wanted o (yielded ops a.tmps) = true)
    (ty : TypeId) (x : Operand) (ho : o.op = .load ty x) (p : Addr) (hx : a.eval x = .pointer (some p)) (cs : Array Value) (hl : (loadVar ty p).run P w = .ok (.agg cs) w)
    (h : wpList P ops Q rest (a.put o.dst (.agg cs)) w) : wpList P ops Q (o :: rest) a w :=
  wpList_step fun K hK => by
    rw [if_pos hw]
    unfold Oper.wp execOp
    simp only [ho, hx, Instr.loadAt, Instr.sureAddr, Sem.run_bind, Sem.run_pure, Result.andThen_ok, hl]
    exact hK _ _ h
def OR12 (vs : List Value) (W : World) (k : Nat) (v : Value) (W' : World) : Prop := W'.ownsRow W.heap.size 33 20 v k (vs.take (k * 20)) ∧ Below W.heap.size W W'
def OV12 (A : Option Addr) (n c : Nat) (vs : List Value) (W : World) (e : Ending) (W' : World) : Prop :=
  ∃ o m, m = min n 12 ∧ e = .returned (.tuple #[.slice A m c, o]) ∧ OR12 vs W m o W'
theorem info33 : (Try.prog.info? 33).map (fun i => (i.zero, i.size, i.bytes)) = some (some (.agg #[.int .i64 0, .int .i64 0, .int .i64 0, .int .i64 0, .int .i64 0, .int .i64 0, .int .i64 0, .int .i64 0, .int .i64 0, .int .i64 0, .int .i64 0, .int .i64 0, .int .i64 0, .int .i64 0, .int .i64 0, .int .i64 0, .int .i64 0, .bool false, .bool false, .int .i64 0]), 20, 152) := by kernel_rfl
theorem parts33 : ∃ i z, Try.prog.info? 33 = some i ∧ i.zero = some z ∧ i.size = 20 ∧ i.bytes = 152 ∧ z.cells.size = 20 := by
  have h := info33
  cases hq : Try.prog.info? 33 with
  | none => rw [hq] at h; simp at h
  | some i =>
    rw [hq] at h
    simp only [Option.map_some, Option.some.injEq, Prod.mk.injEq] at h
    exact ⟨i, _, rfl, h.1, h.2.1, h.2.2, rfl⟩
theorem ssI_eq : ssI = [.int .i64, .int .i64, .int .i64, .int .i64, .int .i64, .int .i64, .int .i64, .int .i64, .int .i64, .int .i64, .int .i64, .int .i64, .int .i64, .int .i64, .int .i64, .int .i64, .int .i64, .bool, .bool, .int .i64] := by kernel_rfl
theorem shape20 {fl : List Value} (h : All2 So.has ssI fl) : ∃ (x0 : Int) (x1 : Int) (x2 : Int) (x3 : Int) (x4 : Int) (x5 : Int) (x6 : Int) (x7 : Int) (x8 : Int) (x9 : Int) (x10 : Int) (x11 : Int) (x12 : Int) (x13 : Int) (x14 : Int) (x15 : Int) (x16 : Int) (x17 : Bool) (x18 : Bool) (x19 : Int), fl = [.int .i64 x0, .int .i64 x1, .int .i64 x2, .int .i64 x3, .int .i64 x4, .int .i64 x5, .int .i64 x6, .int .i64 x7, .int .i64 x8, .int .i64 x9, .int .i64 x10, .int .i64 x11, .int .i64 x12, .int .i64 x13, .int .i64 x14, .int .i64 x15, .int .i64 x16, .bool x17, .bool x18, .int .i64 x19] := by
  rw [ssI_eq] at h
  have hl := h.length
  match fl, hl, h with
  | [v0, v1, v2, v3, v4, v5, v6, v7, v8, v9, v10, v11, v12, v13, v14, v15, v16, v17, v18, v19], _, h =>
    obtain ⟨⟨x0, e0, _⟩, ⟨x1, e1, _⟩, ⟨x2, e2, _⟩, ⟨x3, e3, _⟩, ⟨x4, e4, _⟩, ⟨x5, e5, _⟩, ⟨x6, e6, _⟩, ⟨x7, e7, _⟩, ⟨x8, e8, _⟩, ⟨x9, e9, _⟩, ⟨x10, e10, _⟩, ⟨x11, e11, _⟩, ⟨x12, e12, _⟩, ⟨x13, e13, _⟩, ⟨x14, e14, _⟩, ⟨x15, e15, _⟩, ⟨x16, e16, _⟩, ⟨x17, e17⟩, ⟨x18, e18⟩, ⟨x19, e19, _⟩, _⟩ := h
    exact ⟨x0, x1, x2, x3, x4, x5, x6, x7, x8, x9, x10, x11, x12, x13, x14, x15, x16, x17, x18, x19, by rw [e0, e1, e2, e3, e4, e5, e6, e7, e8, e9, e10, e11, e12, e13, e14, e15, e16, e17, e18, e19]⟩
theorem low_grown {B : Nat} {w0 w w' : World} {row : Option Nat} (h : Below B w0 w) (g : w.grownBy w' row) (hB : B ≤ w.heap.size) (hr : ∀ k, row = some k → B ≤ k) : Below B w0 w' :=
  ⟨g.os.trans h.os, g.tape.trans h.tape, g.output.trans h.output, Nat.le_trans h.size g.size, fun k hk => by
    rw [g.block k (Nat.lt_of_lt_of_le hk hB) (fun e => by have := hr k e.symm; omega)]
    exact h.block k hk⟩
theorem row_low {W : World} {B e size n : Nat} {v : Value} {xs : List Value} (h : W.ownsRow B e size v n xs) {k : Nat} (hk : v.ownBlock = some k) : B ≤ k := by
  rcases h.2 with ⟨rfl, _⟩ | ⟨g, cap, cur, rfl, hB, hg, _⟩
  · simp [Value.ownBlock] at hk
  · simp [Value.ownBlock] at hk
    subst hk
    exact hB
theorem take_next (vs : List Value) (k : Nat) : vs.take ((k + 1) * 20) = vs.take (k * 20) ++ (vs.drop (k * 20)).take 20 := by
  rw [show (k + 1) * 20 = k * 20 + 20 by omega, List.take_add]
end Go.Proofs.Ytbhhfbenajcinaa
