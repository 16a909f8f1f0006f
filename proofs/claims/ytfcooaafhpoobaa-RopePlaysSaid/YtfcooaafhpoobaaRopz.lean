/- A slice of questions, opened: its cells. -/
import Derived.Test.YtfcooaafhpoobaaRopy
import Derived.Deep.Strs
import Derived.Deep.Slices
namespace Go.Proofs.Ytfcooaafhpoobaa
open Go.RowKit Rp Go.ChangeShapes Go.WideShapes Go.Deep

/-- the cells of a slice of questions -/
def Asks (W : World) (a : Option Addr) (len : Nat) : Prop :=
  ∀ i, i < len → ∃ (p : Addr) (k w n : Int), a = some p ∧ p.block < W.heap.size ∧ (Lit.int .i64 k).wf = true ∧ (Lit.int .i64 w).wf = true ∧ (Lit.int .i64 n).wf = true ∧
    W.cell? (p.add (i * 3)) = some (.int .i64 k) ∧ W.cell? (p.add (i * 3 + 1)) = some (.int .i64 w) ∧ W.cell? (p.add (i * 3 + 2)) = some (.int .i64 n)
theorem askUnder : ∃ f0 f1 f2, Try.prog.underlying 44 = some (.struct #[f0, f1, f2]) ∧ f0.type = 3 ∧ f1.type = 3 ∧ f2.type = 3 ∧ f0.offset = 0 ∧ f1.offset = 1 ∧ f2.offset = 2 :=
  ⟨_, _, _, Try.underlying44, rfl, rfl, rfl, rfl, rfl, rfl⟩
theorem cell_blk {W : World} {p : Addr} {v : Value} (h : W.cell? p = some v) : p.block < W.heap.size := by
  obtain ⟨g, o, e⟩ := p
  exact block_lt_of_cell h
set_option maxRecDepth 100000 in
theorem open_asks {H : Type} {enc : TypeId × Value → H} {W : World} {base fuel : Nat} {cs : List Value} {x : DataW H × List MemPlace}
    (h : DataW.trod enc Try.prog W base (fun _ => true) true fuel 35 cs = some x) :
    ∃ a len cap, cs = [.slice a len cap] ∧ len ≤ cap ∧ cap ≤ maxLen ∧ (a = none → len = 0 ∧ cap = 0) ∧ Asks W a len := by
  obtain ⟨f0, f1, f2, hu, t0, t1, t2, o0, o1, o2⟩ := askUnder
  have hc1 : Try.prog.cellsOf 3 = 1 := by kernel_rfl
  have hc3 : Try.prog.cellsOf 44 = 3 := by kernel_rfl
  rcases open_slice Try.underlying35 h with ⟨rfl, _⟩ | ⟨a, len, cap, m, n, D, Pl, rfl, hb, hl, hm, hmm, _, hi⟩
  · exact ⟨none, 0, 0, rfl, Nat.le_refl _, Nat.zero_le _, fun _ => ⟨rfl, rfl⟩, fun i hi => absurd hi (by omega)⟩
  · refine ⟨some a, len, cap, rfl, hl, hm, (fun h => by cases h), fun i him => ?_⟩
    obtain ⟨cs', h1, h2⟩ := hi i (by rw [hmm]; simp only [if_true]; omega)
    rw [hc3] at h1
    obtain ⟨_, hlen, hcell⟩ := World.cells?_some h1
    obtain ⟨y0, y1, y2, n', _, _, r0, r1, r2⟩ := trod_struct3 hu h2
    match cs', hlen with
    | [c0, c1, c2], _ =>
      rw [t0, hc1, o0] at r0
      rw [t1, hc1, o1] at r1
      rw [t2, hc1, o2] at r2
      obtain ⟨k, e0, _, w0⟩ := DataW.trod_int Try.underlying3 (by simpa using r0)
      obtain ⟨w, e1, _, w1⟩ := DataW.trod_int Try.underlying3 (by simpa using r1)
      obtain ⟨q, e2, _, w2⟩ := DataW.trod_int Try.underlying3 (by simpa using r2)
      simp only [List.cons.injEq, and_true] at e0 e1 e2
      subst e0 e1 e2
      have g0 := hcell 0 (by omega)
      have g1 := hcell 1 (by omega)
      have g2 := hcell 2 (by omega)
      rw [Go.Deep.add_add] at g0 g1 g2
      have hbk := cell_blk g0
      have e : (a.add (i * 3 + 0)).block = a.block := by unfold Addr.add; split <;> rfl
      rw [e] at hbk
      exact ⟨a, k, w, q, rfl, hbk, w0, w1, w2, g0, g1, g2⟩
end Go.Proofs.Ytfcooaafhpoobaa
