/- Layer 21: the words that the law of several words puts together, and the law up to the code's All. -/
import Derived.Test.YtclhmilecdjbiaaDoorQyf
import Derived.Test.YtclhmilecdjbiaaDoorCXta
import Derived.WalkKit
import Derived.Laws.Rows
import Derived.Laws.Cells
import Derived.Lib.Hide
import Derived.Deep.AppendLies
import Derived.Deep.DeepCutAuto
import Derived.Deep.CutBlock
namespace Go.Proofs.YtclhmilecdjbiaaDoor
open Go Go.Proofs Go.RowKit Go.CX Go.SX Go.CX.A64
/-- A whole struct is read where its cells lie. -/
theorem loadL {P : Program} {w : World} {b o : Nat} {ty : TypeId} {fl : List Value} {d : TypeDesc} (h : ∀ j v, fl[j]? = some v → w.cell? ⟨b, o + j, none⟩ = some v)
    (hu : P.underlying ty = some d) (hd : (match d with | .struct _ | .array _ _ => true | _ => false) = true) (hi : (P.info? ty).map (·.size) = some fl.length) :
    (loadVar ty ⟨b, o, none⟩).run P w = .ok (.agg fl.toArray) w := by
  have hl : (loadCells ⟨b, o, none⟩ fl.length).run P w = .ok fl.toArray w :=
    run_loadCells_list (P := P) w ⟨b, o, none⟩ fl (fun j v hv => by
      have hadd : (⟨b, o, none⟩ : Addr).add j = ⟨b, o + j, none⟩ := by unfold Addr.add; split <;> simp_all
      rw [hadd]
      exact h j v hv)
  cases hq : P.info? ty with
  | none => simp [hq] at hi
  | some i =>
    have hs : i.size = fl.length := by simpa [hq] using hi
    have hagg : (isAgg ty).run P w = .ok true w := by
      unfold isAgg
      rw [Sem.run_bind, run_underlying hu w]
      cases d <;> simp_all
    simp [loadVar, Sem.run_bind, hagg, sizeOf, typeInfo, hq, hs, hl]
theorem load_any11 {P : Program} {ops : Array Oper} {rest : List Oper} {o : Oper} {a : Act} {w : World} {Q : Exit → Act → World → Prop} (hw : Region.wanted o (yielded ops a.tmps) = true)
    (ty : TypeId) (x : Operand) (ho : o.op = .load ty x) (p : Addr) (hx : a.eval x = .pointer (some p)) (cs : Array Value) (hl : (loadVar ty p).run P w = .ok (.agg cs) w)
    (h : wpList P ops Q rest (a.put o.dst (.agg cs)) w) : wpList P ops Q (o :: rest) a w :=
  wpList_step fun K hK => by
    rw [if_pos hw]
    unfold Oper.wp execOp
    simp only [ho, hx, Instr.loadAt, Instr.sureAddr, Sem.run_bind, Sem.run_pure, Result.andThen_ok, hl]
    exact hK _ _ h
theorem low_grown {B : Nat} {w0 w w' : World} {row : Option Nat} (h : Below B w0 w) (g : w.grownBy w' row) (hB : B ≤ w.heap.size) (hr : ∀ k, row = some k → B ≤ k) : Below B w0 w' :=
  ⟨g.os.trans h.os, g.tape.trans h.tape, g.output.trans h.output, Nat.le_trans h.size g.size, fun k hk => by
    rw [g.block k (Nat.lt_of_lt_of_le hk hB) (fun e => by have := hr k e.symm; omega)]
    exact h.block k hk⟩
theorem row_low {W : World} {B e size n : Nat} {v : Value} {xs : List Value} (h : W.ownsRow B e size v n xs) {k : Nat} (hk : v.ownBlock = some k) : B ≤ k := by
  rcases h.2 with ⟨rfl, _⟩ | ⟨g, cap, cur, rfl, hB, hg, _⟩
  · simp [Value.ownBlock] at hk
  · simp [Value.ownBlock] at hk
    subst hk
    exact hB
theorem row_shape {W : World} {B e size n : Nat} {v : Value} {xs : List Value} (h : W.ownsRow B e size v n xs) : ∃ A c, v = .slice A n c := by
  rcases h.2 with ⟨rfl, rfl⟩ | ⟨k, cap, cur, rfl, _⟩
  · exact ⟨none, 0, rfl⟩
  · exact ⟨_, cap, rfl⟩
theorem row_keep {W W' : World} {B e size n : Nat} {v : Value} {xs : List Value} (h : W.ownsRow B e size v n xs) (b : Below W.heap.size W W') : W'.ownsRow B e size v n xs := by
  refine ⟨h.1, ?_⟩
  rcases h.2 with hv | ⟨k, cap, cur, hv, hB, hk, hrest⟩
  · exact .inl hv
  · exact .inr ⟨k, cap, cur, hv, hB, by rw [b.block k (Array.getElem?_eq_some_iff.1 hk).1, hk], hrest⟩
theorem news_at {w : World} {k : Nat} {o : Obj} (h : w.heap.size = k) : (w.alloc o).heap[k]? = some o := by subst h; exact heap_alloc_new w o
theorem infoW : (Tryd.prog.info? 27).map (fun i => (i.zero, i.size, i.bytes)) = some (some (.int .u32 0), 1, 4) := by kernel_rfl
theorem partsW : ∃ i z, Tryd.prog.info? 27 = some i ∧ i.zero = some z ∧ i.size = 1 ∧ i.bytes = 4 ∧ z.cells.size = 1 := by
  have h := infoW
  cases hq : Tryd.prog.info? 27 with
  | none => rw [hq] at h; simp at h
  | some i =>
    rw [hq] at h
    simp only [Option.map_some, Option.some.injEq, Prod.mk.injEq] at h
    exact ⟨i, _, rfl, h.1, h.2.1, h.2.2, rfl⟩
/-- Words as values. -/
def u32s (us : List Int) : List Value := us.map (.int .u32)
theorem u32s_len (us : List Int) : (u32s us).length = us.length := List.length_map ..
/-- The words that are put together, in a row of the call's own. -/
structure Own (W wr : World) (v : Value) (us : List Int) : Prop where
  row : wr.ownsRow W.heap.size 27 1 v us.length (u32s us)
  rng : ∀ x ∈ us, 0 ≤ x ∧ x ≤ 4294967295
  low : Below W.heap.size W wr
theorem Own.keep {W wr w' : World} {v : Value} {us : List Int} (h : Own W wr v us) (b : Below wr.heap.size wr w') : Own W w' v us := ⟨row_keep h.row b, h.rng, h.low.trans (b.mono h.low.size)⟩
theorem Own.add {W wr w1 w2 : World} {v v' : Value} {us : List Int} {x : Int} (h : Own W wr v us) (b : Below wr.heap.size wr w1) (hx : 0 ≤ x ∧ x ≤ 4294967295) (ho : w2.ownsRow W.heap.size 27 1 v' (us.length + 1) (u32s us ++ [.int .u32 x])) (hg : w1.grownBy w2 v.ownBlock) :
    Own W w2 v' (us ++ [x]) := by
  have h1 := h.keep b
  refine ⟨?_, ?_, low_grown h1.low hg h1.low.size fun k e => row_low h.row e⟩
  · rw [List.length_append]
    show w2.ownsRow _ _ 1 v' (us.length + 1) ((us ++ [x]).map _)
    rw [List.map_append]
    exact ho
  · intro y hy
    rcases List.mem_append.1 hy with hy | hy
    · exact h.rng y hy
    · rw [List.mem_singleton] at hy; rw [hy]; exact hx
/-- Instructions that came in. -/
structure InI (W : World) (A : Option Addr) (n : Nat) (fl : Nat → List Value) : Prop where
  has : ∀ k, k < n → All2 So.has ssE (fl k)
  at' : n = 0 ∨ ∃ b off, A = some ⟨b, off, none⟩ ∧ b < W.heap.size ∧ ∀ k, k < n → ∀ j v, (fl k)[j]? = some v → W.cell? ⟨b, off + k * 11 + j, none⟩ = some v
/-- Words that came in. -/
structure InW (W : World) (A : Option Addr) (n : Nat) (us : Nat → Int) : Prop where
  rng : ∀ k, k < n → 0 ≤ us k ∧ us k ≤ 4294967295
  at' : n = 0 ∨ ∃ b off, A = some ⟨b, off, none⟩ ∧ b < W.heap.size ∧ ∀ k, k < n → W.cell? ⟨b, off + k, none⟩ = some (.int .u32 (us k))
end Go.Proofs.YtclhmilecdjbiaaDoor
/- Layer 21: the rest of the law of several words, from its call of All on, is carried out. -/
namespace Go.Proofs.YtclhmilecdjbiaaDoor
open Go Go.Proofs Go.RowKit Go.CX Go.SX Go.CX.A64
def tl : Code → Code
  | .seq _ b => b
  | c => c
noncomputable def tail14 : Code := tl (tl (tl (tl (Tryd.f8.body.getD .skip))))
/-- What a Decode answers: its cells. -/
noncomputable def decS (V : Nat) : List Value := if mB V = true then readS V else zeroL
theorem decS_has (V : Nat) : All2 So.has ssE (decS V) := by
  unfold decS
  split
  · exact readS_has V
  · exact zeroL_has
noncomputable def phT4 (f : Nat) (fl : List Value) : List Value := match f with
  | 31 => decS (vint (fl.getD 0 undef)).toNat
  | 32 => [.bool (mB (vint (fl.getD 0 undef)).toNat)]
  | _ => []
def syT4 : List (Nat × List So) := [(31, ssE), (32, [.bool])]
theorem fitT4 : ∀ f j args, (symS syT4 f j).has ((phT4 f args).getD j undef) := by
  intro f j args
  by_cases h31 : f = 31
  · subst h31
    exact all2_get (decS_has _) j
  by_cases h32 : f = 32
  · subst h32
    cases j with
    | zero => exact ⟨_, rfl⟩
    | succ j => exact trivial
  · have hn : lookA f syT4 = none := by
      have b : ∀ {k : Nat}, f ≠ k → Nat.beq k f = false := fun h => nbeq_no fun e => h e.symm
      simp only [syT4, lookA, b h31, b h32, Bool.false_eq_true, if_false]
    unfold symS
    rw [hn]; exact trivial
noncomputable def cxT4 : Cx := ⟨Tryd.prog, [.one, .int .i64, .any], [], [⟨0, 1, 2, [.int .u32]⟩], syT4⟩
def decE (x : E) : List E := (List.range 11).map fun j => .app 31 j (toL [x])
theorem decE_den {ρ : Nat → Value} {V : Nat} {x : E} (hx : x.den ρ phT4 = .int .u32 (V : Int)) : (decE x).map (·.den ρ phT4) = decS V := by
  have one : ∀ j, (E.app 31 j (toL [x])).den ρ phT4 = (decS V).getD j undef := by
    intro j
    show (phT4 31 (E.dens ρ phT4 (toL [x]))).getD j undef = _
    rw [toL_dens]
    show (decS (vint (x.den ρ phT4)).toNat).getD j undef = _
    rw [hx]
    show (decS (V : Int).toNat).getD j undef = _
    rw [Int.toNat_natCast]
  have key : (decE x).map (·.den ρ phT4) = (List.range 11).map fun j => (decS V).getD j undef := by
    unfold decE
    rw [List.map_map]
    exact List.map_congr_left fun j _ => one j
  rw [key]
  obtain ⟨o, w, a, b, c, d, v, e, f, g, hh, he⟩ := cells11 (decS_has V)
  rw [he]; rfl
theorem match_denT {ρ : Nat → Value} {V : Nat} {x : E} (hx : x.den ρ phT4 = .int .u32 (V : Int)) : (matchE x).den ρ phT4 = .bool (mB V) := by
  show (phT4 32 (E.dens ρ phT4 (toL [x]))).getD 0 undef = _
  rw [toL_dens]
  show Value.bool (mB (vint (x.den ρ phT4)).toNat) = _
  rw [hx]
  show Value.bool (mB (V : Int).toNat) = _
  rw [Int.toNat_natCast]
/-- Both Decodes: by symbols. -/
noncomputable def bothX (f : FuncId) : ExtT := fun g args _ n _ => if Nat.beq g f then (match args with
  | [.one ⟨false, [.e x]⟩] => if cxT4.so x == .int .u32 then some (.ok ⟨.tup [⟨true, (decE x).map .e⟩, ⟨false, [.e (matchE x)]⟩], [], n⟩) else none
  | _ => none) else none
noncomputable def extT4 : ExtT := orX (orX (bothX 21) (bothX 22)) (trueX 24)
/-- The k-th word. -/
def elW (k : Nat) : E := .el (.var 2) (.int .i64 (Int.ofNat k)) 1 0 (.int .u32)
/-- The first k are words of instructions; the next one is not, if there is one. -/
noncomputable def factsT4 (n k : Nat) : Facts := ((List.range k).map fun j => ((matchE (elW j), true) : E × Bool)) ++ (if Nat.blt k n then [(matchE (elW k), false)] else []) ++ addF cxT4 (.cmp .eql (.var 1) (.int .i64 (Int.ofNat n))) true []
noncomputable def runT4 (n k : Nat) : Bool := tailC cxT4 (runD cxT4 extT4 0 3000) 118 tail14 ⟨[(5, .one ⟨false, [.vsl 0 n]⟩)], [], 0⟩ (retK cxT4 4) 60 (factsT4 n k)
theorem rdec21_any {V : Nat} (hV : V < 4294967296) (w : World) (hT : TabsA w) : Calls Tryd.prog 22 #[.int .u32 (V : Int)] w fun e w' => e = .returned (.tuple #[.agg (if mB V = true then readS V else zeroL).toArray, .bool (mB V)]) ∧ Below w.heap.size w w' := by
  cases hq : mB V
  · exact rdecode_no hV (mB_no hq) w hT
  · obtain ⟨op, m, hw⟩ := mB_yes hq
    exact rdecode_yes hw w hT
theorem bothX_ok {f : FuncId} (hin : Enters Tryd.prog f) (hc : ∀ V : Nat, V < 4294967296 → ∀ w : World, TabsA w → Calls Tryd.prog f #[.int .u32 (V : Int)] w fun e w' => e = .returned (.tuple #[.agg (decS V).toArray, .bool (mB V)]) ∧ Below w.heap.size w w')
    {ws : Base} (hT : TabsA ws.toWorld) : ExtOk ws cxT4 phT4 (bothX f) := by
  intro g svs B n fs d h ρ β w xs N F hf hW hnn ha
  unfold bothX at h
  split at h
  · rename_i he
    have he := Nat.eq_of_beq_eq_true he
    subst he
    split at h
    · rename_i x
      split at h
      · rename_i hso
        simp only [Option.some.injEq, CX.OR.ok.injEq] at h
        subst h
        obtain ⟨m, hm, m0, m1⟩ := so_num F (so_eq hso)
        obtain ⟨V, rfl⟩ := Int.eq_ofNat_of_zero_le (show 0 ≤ m from m0)
        have m1 : (V : Int) ≤ 4294967295 := m1
        match xs, ha with
        | [u], ha =>
          have hu : u = x.den ρ phT4 := ha.1
          rw [hm] at hu
          subst hu
          refine ⟨hin _ _, Calls.mono (hc V (by omega) w (hT.same hW.base.1)) ?_⟩
          rintro e w' ⟨rfl, hb⟩
          exact ⟨_, β, rfl, Ext.refl _, Newer.refl _ _ _, hW.grow hb, [_, _], rfl, ⟨decS V, rfl, es_is (decE_den hm)⟩, (match_denT hm).symm, trivial⟩
      · exact absurd h (by simp)
    · exact absurd h (by simp)
  · exact absurd h (by simp)
theorem extT4_ok {w : World} (h : TabsA w) : ExtOk ⟨w, cxT4.vw⟩ cxT4 phT4 extT4 :=
  orX_ok (orX_ok (bothX_ok (enters Tryd.func21 (c := Tryd.f21.body.getD .skip) (by kernel_rfl) (by kernel_rfl)) (fun V hV w hT => adecode_any hV w hT) h)
    (bothX_ok (enters Tryd.func22 (c := Tryd.f22.body.getD .skip) (by kernel_rfl) (by kernel_rfl)) (fun V hV w hT => rdec21_any hV w hT) h))
    (trueX_ok (enters Tryd.func24 (c := Tryd.f24.body.getD .skip) (by kernel_rfl) (by kernel_rfl)) fun w' hb => awake21_any w' (h.same hb))
end Go.Proofs.YtclhmilecdjbiaaDoor
