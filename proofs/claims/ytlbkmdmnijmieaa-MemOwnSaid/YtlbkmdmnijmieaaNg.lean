/- Layer 9 (memory), the law's side: a slice of areas, a call by value, as the reading has them. -/
import Derived.Test.YtlbkmdmnijmieaaLpriv
import Derived.ProofKit
import Derived.OpenShut
import Derived.Deep.Fields
import Derived.Deep.Slices
import Derived.Lib.SmallJoins
namespace Go.Proofs.Ytlbkmdmnijmieaa
open Go Go.RowKit Rp Go.ChangeShapes Go.WideShapes Go.ChangeAt Go.Deep Go.Joins
open Cq (U64 I64 isW)

theorem fld_of {H : Type} {P : Program} {enc : TypeId × Value → H} {W : World} {base fuel : Nat} {sp : Nat → Bool} {held : Bool} {t : TypeId} {fs : Array Field} {cs : List Value} {x : DataW H × List MemPlace} (hu : P.underlying t = some (.struct fs)) (hone : oneCellFields P fs = true)
    (h : DataW.trod enc P W base sp held fuel t cs = some x) : ∃ n, ∀ (j : Nat) (f : Field) (v : Value), fs[j]? = some f → cs[j]? = some v → ∃ y, DataW.trod enc P W base sp held n f.type [v] = some y := by
  obtain ⟨xs, n', _, _, _, hxl, hf⟩ := DataW.trod_struct hu h
  refine ⟨n', fun j f v hj hv => ?_⟩
  obtain ⟨ho, hk⟩ := hone_of hone j f hj
  have h3 := hf j f hj
  rw [ho, hk] at h3
  have hd : j < cs.length := (List.getElem?_eq_some_iff.1 hv).1
  have h4 : (cs.drop j).take 1 = [v] := by
    rw [List.drop_eq_getElem_cons hd]
    have := (List.getElem?_eq_some_iff.1 hv).2
    rw [this]; rfl
  rw [h4] at h3
  have hj' : j < fs.size := (Array.getElem?_eq_some_iff.1 hj).1
  have hx7 : j < xs.length := by rw [hxl]; exact hj'
  exact ⟨xs[j], by rw [h3, List.getElem?_eq_getElem hx7]⟩
theorem list_of {α : Type} {P : Nat → α → Prop} (n : Nat) (h : ∀ i, i < n → ∃ a, P i a) : ∃ I : List α, I.length = n ∧ ∀ (i : Nat) (a : α), I[i]? = some a → P i a := by
  induction n with
  | zero => exact ⟨[], rfl, fun i a e => by simp at e⟩
  | succ n ih =>
    obtain ⟨I, hl, hI⟩ := ih fun i hi => h i (by omega)
    obtain ⟨a, ha⟩ := h n (by omega)
    refine ⟨I ++ [a], by simp [hl], fun i b e => ?_⟩
    by_cases hi : i < n
    · rw [List.getElem?_append_left (by omega)] at e; exact hI i b e
    · rw [List.getElem?_append_right (by omega)] at e
      have : i - I.length = 0 := by
        have := (List.getElem?_eq_some_iff.1 e).1
        simp at this
        omega
      rw [this] at e
      simp at e
      subst e
      obtain rfl : i = n := by omega
      exact ha
theorem areaUnder : ∃ f0 f1 f2 f3 f4, Try.prog.underlying 57 = some (.struct #[f0, f1, f2, f3, f4]) ∧ f0.type = 30 ∧ f1.type = 55 ∧ f2.type = 4 ∧ f3.type = 4 ∧ f4.type = 3 ∧
    oneCellFields Try.prog #[f0, f1, f2, f3, f4] = true :=
  ⟨_, _, _, _, _, Try.underlying57, rfl, rfl, rfl, rfl, rfl, by kernel_rfl⟩
theorem row_reads {W : World} {x : Addr} {z : List Int} {cap : Nat} (hz : z.length = cap) (hcell : ∀ i, i < z.length → W.cell? (x.add i) = some (.int .u8 (z.getD i 0))) (m : Nat) (hm : m ≤ cap) : Reads W (some x) (z.take m) := by
  intro hp
  rw [List.length_take] at hp
  obtain ⟨b, off, spot⟩ := x
  have h0 := hcell 0 (by omega)
  have hspot : spot = none := by simpa [Addr.add] using World.cell?_spot h0
  subst hspot
  refine ⟨b, off, rfl, ?_, fun i hi => ?_⟩
  · have := block_lt_of_cell h0
    simpa [Addr.add] using this
  · rw [List.length_take] at hi
    have h := hcell i (by omega)
    have e : (z.take m).getD i 0 = z.getD i 0 := by rw [List.getD_eq_getElem?_getD, List.getD_eq_getElem?_getD, List.getElem?_take_of_lt (by omega)]
    rw [e]
    by_cases g : i = 0
    · subst g; simpa [Addr.add] using h
    · simpa [Addr.add, g] using h
theorem row_bytes {z : List Int} (hw : ∀ n ∈ z, (Lit.int .u8 n).wf = true) (m : Nat) : Bytes8 (z.take m) := by
  intro y hy
  have h := hw y (List.mem_of_mem_take hy)
  simp [Lit.wf, IntKind.min, IntKind.max, IntKind.bits, IntKind.signed] at h
  omega
def AreaOk (W : World) (a : Ar) : Prop := a.bs.length = a.n ∧ Reads W a.A a.bs ∧ Bytes8 a.bs ∧ (a.A = none → a.c = 0 ∧ a.n = 0) ∧ a.n ≤ a.c ∧ a.c ≤ maxLen ∧ U64 a.lo
set_option maxRecDepth 100000 in
theorem open_areas {H : Type} {enc : TypeId × Value → H} {W : World} {base fuel : Nat} {cs : List Value} {x : DataW H × List MemPlace}
    (h : DataW.trod enc Try.prog W base (fun _ => true) true fuel 22 cs = some x) :
    ∃ a len cap I, cs = [.slice a len cap] ∧ len ≤ cap ∧ cap ≤ maxLen ∧ List.length I = len ∧ RIn W a I := by
  obtain ⟨f0, f1, f2, f3, f4, hu, t0, t1, t2, t3, t4, hone⟩ := areaUnder
  have hc5 : Try.prog.cellsOf 57 = 5 := by kernel_rfl
  have hcb : Try.prog.cellsOf 5 = 1 := by kernel_rfl
  rcases open_slice Try.underlying22 h with ⟨rfl, _⟩ | ⟨a, len, cap, m, n, D, Pl, rfl, hb, hl, hm, hmm, _, hi⟩
  · exact ⟨none, 0, 0, [], rfl, Nat.le_refl _, Nat.zero_le _, rfl, fun hp => absurd hp (by simp), fun a ha => by simp at ha⟩
  · have hall : ∀ i, i < len → ∃ b : Ar, (∀ k, k < 5 → W.cell? (a.add (i * 5 + k)) = b.row[k]?) ∧ AreaOk W b := fun i him => by
      obtain ⟨cs', h1, h2⟩ := hi i (by rw [hmm]; simp only [if_true]; omega)
      rw [hc5] at h1
      obtain ⟨_, hlen, hcell⟩ := World.cells?_some h1
      match cs', hlen with
      | [v0, v1, v2, v3, v4], _ =>
        obtain ⟨n', fld⟩ := fld_of hu hone h2
        obtain ⟨y0, r0⟩ := fld 0 f0 v0 rfl rfl
        obtain ⟨y1, r1⟩ := fld 1 f1 v1 rfl rfl
        obtain ⟨y2, r2⟩ := fld 2 f2 v2 rfl rfl
        obtain ⟨y3, r3⟩ := fld 3 f3 v3 rfl rfl
        obtain ⟨y4, r4⟩ := fld 4 f4 v4 rfl rfl
        rw [t0] at r0
        rw [t1] at r1
        rw [t2] at r2
        rw [t3] at r3
        rw [t4] at r4
        obtain ⟨lo, e0, _, wlo⟩ := DataW.trod_int Try.underlying30 r0
        obtain ⟨wr, e2, _⟩ := DataW.trod_bool Try.underlying4 r2
        obtain ⟨pv, e3, _⟩ := DataW.trod_bool Try.underlying4 r3
        obtain ⟨ow, e4, _, _⟩ := DataW.trod_int Try.underlying3 r4
        simp only [List.cons.injEq, and_true] at e0 e2 e3 e4
        subst e0 e2 e3 e4
        have g0 := hcell 0 (by omega)
        have g1 := hcell 1 (by omega)
        have g2 := hcell 2 (by omega)
        have g3 := hcell 3 (by omega)
        have g4 := hcell 4 (by omega)
        rw [Go.Deep.add_add] at g0 g1 g2 g3 g4
        obtain ⟨AB, lB, cB, ys, e1, hB1, hB2, hyl, hyb, hrd, hnil⟩ : ∃ AB lB cB ys, v1 = .slice AB lB cB ∧ lB ≤ cB ∧ cB ≤ maxLen ∧ List.length ys = lB ∧ Bytes8 ys ∧ Reads W AB ys ∧ (AB = none → cB = 0 ∧ lB = 0) := by
          rcases open_ints Try.underlying55 Try.underlying5 hcb r1 with ⟨hcs, _⟩ | ⟨x, l, c, zs, hcs, _, hl4, hm4, hz4, _, hcell4, hwz4⟩
          · simp only [List.cons.injEq, and_true] at hcs
            exact ⟨none, 0, 0, [], hcs, Nat.le_refl _, Nat.zero_le _, rfl, (fun x hx => by simp at hx), (fun hp => absurd hp (by simp)), fun _ => ⟨rfl, rfl⟩⟩
          · simp only [List.cons.injEq, and_true] at hcs
            have hzc : zs.length = c := by simpa using hz4
            exact ⟨some x, l, c, zs.take l, hcs, hl4, hm4, by rw [List.length_take]; omega, row_bytes hwz4 l, row_reads hzc hcell4 l (by omega), fun h => by cases h⟩
        subst e1
        refine ⟨⟨lo, AB, lB, cB, wr, pv, ow, ys⟩, fun k hk => ?_, hyl, hrd, hyb, hnil, hB1, hB2, Cq.u64_of_wf wlo⟩
        match k, hk with
        | 0, _ => exact g0
        | 1, _ => exact g1
        | 2, _ => exact g2
        | 3, _ => exact g3
        | 4, _ => exact g4
    obtain ⟨I, hIl, hI⟩ := list_of len hall
    refine ⟨some a, len, cap, I, rfl, hl, hm, hIl, fun hp => ?_, fun b hb => ?_⟩
    · obtain ⟨b0, hb0⟩ : ∃ b, I[0]? = some b := ⟨_, List.getElem?_eq_getElem hp⟩
      have h0 := (hI 0 b0 hb0).1 0 (by omega)
      obtain ⟨gb, off, spot⟩ := a
      have hspot : spot = none := by simpa [Addr.add] using World.cell?_spot (show W.cell? _ = some (.int .u64 b0.lo) from h0)
      subst hspot
      have hblk := block_lt_of_cell (show W.cell? _ = some (.int .u64 b0.lo) from h0)
      refine ⟨gb, off, rfl, by simpa [Addr.add] using hblk, fun i b hb k hk => ?_⟩
      have h := (hI i b hb).1 k hk
      by_cases g : i * 5 + k = 0
      · rw [g] at h
        have e1 : i * 5 = 0 := by omega
        have e2 : k = 0 := by omega
        subst e2
        rw [e1]
        simpa [Addr.add] using h
      · have e : (⟨gb, off, none⟩ : Addr).add (i * 5 + k) = ⟨gb, off + i * 5 + k, none⟩ := by
          unfold Addr.add
          rw [if_neg g, Nat.add_assoc]
        rw [← e]; exact h
    · obtain ⟨i, hi', rfl⟩ := List.getElem_of_mem hb
      exact (hI i _ (List.getElem?_eq_getElem hi')).2
theorem opUnder : ∃ f0 f1 f2 f3 f4 f5 f6, Try.prog.underlying 32 = some (.struct #[f0, f1, f2, f3, f4, f5, f6]) ∧ f0.type = 3 ∧ f1.type = 3 ∧ f2.type = 4 ∧ f3.type = 3 ∧ f4.type = 30 ∧ f5.type = 3 ∧ f6.type = 30 ∧
    oneCellFields Try.prog #[f0, f1, f2, f3, f4, f5, f6] = true :=
  ⟨_, _, _, _, _, _, _, Try.underlying32, rfl, rfl, rfl, rfl, rfl, rfl, rfl, by kernel_rfl⟩
theorem array7 {α : Type} {cs : Array α} (h : cs.size = 7) : ∃ c0 c1 c2 c3 c4 c5 c6, cs = #[c0, c1, c2, c3, c4, c5, c6] := by
  obtain ⟨l⟩ := cs
  match l, h with
  | [c0, c1, c2, c3, c4, c5, c6], _ => exact ⟨c0, c1, c2, c3, c4, c5, c6, rfl⟩
set_option maxRecDepth 100000 in
/-- seven cells, as a call's -/
theorem op_cells {H : Type} {enc : TypeId × Value → H} {W : World} {base fuel : Nat} {sp : Nat → Bool} {held : Bool} {c0 c1 c2 c3 c4 c5 c6 : Value} {x : DataW H × List MemPlace}
    (h : DataW.trod enc Try.prog W base sp held fuel 32 [c0, c1, c2, c3, c4, c5, c6] = some x) :
    ∃ (kd T : Int) (nr : Bool) (ix at' w v : Int), c0 = .int .i64 kd ∧ c1 = .int .i64 T ∧ c2 = .bool nr ∧ c3 = .int .i64 ix ∧ c4 = .int .u64 at' ∧ c5 = .int .i64 w ∧ c6 = .int .u64 v ∧ I64 kd ∧ I64 T ∧ I64 ix ∧ U64 at' ∧ I64 w ∧ U64 v := by
  obtain ⟨f0, f1, f2, f3, f4, f5, f6, hu, t0, t1, t2, t3, t4, t5, t6, hone⟩ := opUnder
  obtain ⟨n', fld⟩ := fld_of hu hone h
  obtain ⟨y0, r0⟩ := fld 0 f0 c0 rfl rfl
  obtain ⟨y1, r1⟩ := fld 1 f1 c1 rfl rfl
  obtain ⟨y2, r2⟩ := fld 2 f2 c2 rfl rfl
  obtain ⟨y3, r3⟩ := fld 3 f3 c3 rfl rfl
  obtain ⟨y4, r4⟩ := fld 4 f4 c4 rfl rfl
  obtain ⟨y5, r5⟩ := fld 5 f5 c5 rfl rfl
  obtain ⟨y6, r6⟩ := fld 6 f6 c6 rfl rfl
  rw [t0] at r0
  rw [t1] at r1
  rw [t2] at r2
  rw [t3] at r3
  rw [t4] at r4
  rw [t5] at r5
  rw [t6] at r6
  obtain ⟨kd, e0, _, w0⟩ := DataW.trod_int Try.underlying3 r0
  obtain ⟨T, e1, _, w1⟩ := DataW.trod_int Try.underlying3 r1
  obtain ⟨nr, e2, _⟩ := DataW.trod_bool Try.underlying4 r2
  obtain ⟨ix, e3, _, w3⟩ := DataW.trod_int Try.underlying3 r3
  obtain ⟨at', e4, _, w4⟩ := DataW.trod_int Try.underlying30 r4
  obtain ⟨w, e5, _, w5⟩ := DataW.trod_int Try.underlying3 r5
  obtain ⟨v, e6, _, w6⟩ := DataW.trod_int Try.underlying30 r6
  simp only [List.cons.injEq, and_true] at e0 e1 e2 e3 e4 e5 e6
  exact ⟨kd, T, nr, ix, at', w, v, e0, e1, e2, e3, e4, e5, e6, Cq.i64_of_wf w0, Cq.i64_of_wf w1, Cq.i64_of_wf w3, Cq.u64_of_wf w4, Cq.i64_of_wf w5, Cq.u64_of_wf w6⟩
set_option maxRecDepth 100000 in
theorem open_op {H : Type} {enc : TypeId × Value → H} {W : World} {r : Reach} {b0 base : Nat} {sp : Nat → Bool} {held : Bool} {v : Value} {d : DataW H} {p : List MemPlace}
    (hv : Value.okWide Try.prog W r b0 32 v) (h : DataW.Trod enc Try.prog W base sp held 32 v d p) :
    ∃ (kd T : Int) (nr : Bool) (ix at' w x : Int), v = .agg #[.int .i64 kd, .int .i64 T, .bool nr, .int .i64 ix, .int .u64 at', .int .i64 w, .int .u64 x] ∧ I64 kd ∧ I64 T ∧ I64 ix ∧ U64 at' ∧ I64 w ∧ U64 x := by
  obtain ⟨f0, f1, f2, f3, f4, f5, f6, hu, _⟩ := opUnder
  have hC : Try.prog.cellsOf 32 = 7 := by kernel_rfl
  obtain ⟨cs, rfl, hsz⟩ := okWide_struct hu hv
  obtain ⟨c0, c1, c2, c3, c4, c5, c6, rfl⟩ := array7 (hsz.trans hC)
  obtain ⟨fuel, hf⟩ := h
  obtain ⟨kd, T, nr, ix, at', w, x, rfl, rfl, rfl, rfl, rfl, rfl, rfl, hh⟩ := op_cells (show DataW.trod enc Try.prog W base sp held fuel 32 [c0, c1, c2, c3, c4, c5, c6] = _ by simpa [Value.cells] using hf)
  exact ⟨kd, T, nr, ix, at', w, x, rfl, hh⟩
end Go.Proofs.Ytlbkmdmnijmieaa
