/- Layer 9 (memory), the law's side: a slice of calls, as the reading has it. -/
import Derived.Test.YtlbkmdmnijmieaaNj
import Derived.ProofKit
import Derived.OpenShut
import Derived.Deep.Fields
import Derived.Deep.Slices
namespace Go.Proofs.Ytlbkmdmnijmieaa
open Go Go.RowKit Rp Go.ChangeShapes Go.WideShapes Go.ChangeAt Go.Deep
open Cq (U64 I64 isW)

set_option maxRecDepth 100000 in
theorem open_calls {H : Type} {enc : TypeId × Value → H} {W : World} {base fuel : Nat} {cs : List Value} {x : DataW H × List MemPlace}
    (h : DataW.trod enc Try.prog W base (fun _ => true) true fuel 23 cs = some x) :
    ∃ a len cap, cs = [.slice a len cap] ∧ len ≤ cap ∧ cap ≤ maxLen ∧ OpsIn W a len := by
  have hc7 : Try.prog.cellsOf 32 = 7 := by kernel_rfl
  rcases open_slice Try.underlying23 h with ⟨rfl, _⟩ | ⟨a, len, cap, m, n, D, Pl, rfl, hb, hl, hm, hmm, _, hi⟩
  · exact ⟨none, 0, 0, rfl, Nat.le_refl _, Nat.zero_le _, fun hp => absurd hp (by simp)⟩
  · have hall : ∀ i, i < len → ∃ o : Opq, ∀ k, k < 7 → W.cell? (a.add (i * 7 + k)) = o.row[k]? := fun i him => by
      obtain ⟨cs', h1, h2⟩ := hi i (by rw [hmm]; simp only [if_true]; omega)
      rw [hc7] at h1
      obtain ⟨_, hlen, hcell⟩ := World.cells?_some h1
      match cs', hlen with
      | [v0, v1, v2, v3, v4, v5, v6], _ =>
        obtain ⟨kd, T, nr, ix, at', w, v, rfl, rfl, rfl, rfl, rfl, rfl, rfl, _, _, hix, hat, _, hv⟩ := op_cells h2
        have g0 := hcell 0 (by omega)
        have g1 := hcell 1 (by omega)
        have g2 := hcell 2 (by omega)
        have g3 := hcell 3 (by omega)
        have g4 := hcell 4 (by omega)
        have g5 := hcell 5 (by omega)
        have g6 := hcell 6 (by omega)
        rw [Go.Deep.add_add] at g0 g1 g2 g3 g4 g5 g6
        refine ⟨⟨kd, T, nr, ix, ⟨at', w, v, hat, hv⟩, hix⟩, fun k hk => ?_⟩
        match k, hk with
        | 0, _ => exact g0
        | 1, _ => exact g1
        | 2, _ => exact g2
        | 3, _ => exact g3
        | 4, _ => exact g4
        | 5, _ => exact g5
        | 6, _ => exact g6
    refine ⟨some a, len, cap, rfl, hl, hm, fun hp => ?_⟩
    obtain ⟨o0, h0'⟩ := hall 0 hp
    have h0 := h0' 0 (by omega)
    obtain ⟨gb, off, spot⟩ := a
    have hspot : spot = none := by simpa [Addr.add] using World.cell?_spot (show W.cell? _ = some (.int .i64 o0.kd) from h0)
    subst hspot
    have hblk := block_lt_of_cell (show W.cell? _ = some (.int .i64 o0.kd) from h0)
    refine ⟨gb, off, rfl, by simpa [Addr.add] using hblk, fun i hi' => ?_⟩
    obtain ⟨o, ho⟩ := hall i hi'
    refine ⟨o, fun k hk => ?_⟩
    have h := ho k hk
    by_cases g : i * 7 + k = 0
    · rw [g] at h
      have e1 : i * 7 = 0 := by omega
      have e2 : k = 0 := by omega
      subst e2
      rw [e1]
      simpa [Addr.add] using h
    · have e : (⟨gb, off, none⟩ : Addr).add (i * 7 + k) = ⟨gb, off + i * 7 + k, none⟩ := by
        unfold Addr.add
        rw [if_neg g, Nat.add_assoc]
      rw [← e]; exact h
end Go.Proofs.Ytlbkmdmnijmieaa
