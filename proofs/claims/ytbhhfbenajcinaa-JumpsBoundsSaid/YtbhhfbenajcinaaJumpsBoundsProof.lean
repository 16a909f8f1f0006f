/- Proved: the program's Bound and the document's answer alike, for any instructions; no condition. -/
import Derived.Test.YtbhhfbenajcinaaRows
import Derived.Test.YtbhhfbenajcinaaNg
import Derived.Test.YtbhhfbenajcinaaSXfr
import Derived.WalkKit
import Derived.ProofKit
import Derived.OpenShut
import Derived.ShutString
import Derived.ChangeOld
import Derived.Below
import Derived.Deep.Fields
import Derived.Deep.Slices
import Derived.Lib.SmallJoins
namespace Go.Proofs.Ytbhhfbenajcinaa.jumpsBounds
open Go.ChangeShapes Go.WideShapes Go.ChangeAt Go.RowKit Go.Joins Go.SX Go.Deep
set_option linter.unusedVariables false

theorem own : ownKnob Try.prog.godebug = none := by kernel_rfl
theorem laidOut : laidOutB Try.prog = true := by kernel_rfl
theorem flat0 : flatSo Try.prog 12 25 = some ssI := by kernel_rfl
theorem cells25 : Try.prog.cellsOf 25 = 20 := by kernel_rfl
theorem add_at (b off i j : Nat) : ((⟨b, off, none⟩ : Addr).add (i * 20)).add j = ⟨b, off + (i * 20 + j), none⟩ := by
  rw [Go.Deep.add_add]
  unfold Addr.add
  split
  · rename_i h
    rw [h, Nat.add_zero]
  · rfl
theorem open20 {H : Type} {enc : TypeId × Value → H} {W : World} {base b0 fuel : Nat} {v : Value} {x : DataW H × List MemPlace} (hok : Value.okWide Try.prog W .any b0 39 v)
    (h : DataW.trod enc Try.prog W base (fun _ => true) true fuel 39 v.cells.toList = some x) : ∃ A n c vs, v = .slice A n c ∧ n ≤ c ∧ (A = none → c = 0) ∧ In20 W A n vs := by
  obtain ⟨A, n, c, rfl⟩ := okWide_slice Try.underlying39 hok
  have hcs : (Value.slice A n c).cells.toList = [.slice A n c] := rfl
  rw [hcs] at h
  rcases open_slice Try.underlying39 h with ⟨he, _⟩ | ⟨a, len, cap, m, k, D, Pl, he, hb, hl, hm, hmm, _, hi⟩
  · simp only [List.cons.injEq, Value.slice.injEq, and_true] at he
    obtain ⟨rfl, rfl, rfl⟩ := he
    exact ⟨none, 0, 0, [], rfl, Nat.le_refl _, fun _ => rfl, ⟨rfl, fun i u hu => by simp at hu, .inl ⟨rfl, rfl⟩⟩⟩
  · simp only [List.cons.injEq, Value.slice.injEq, and_true] at he
    obtain ⟨rfl, rfl, rfl⟩ := he
    have hok' : Cell.ok Try.prog W .any b0 39 (.slice (some a) n c) := by
      unfold Value.okWide at hok
      rw [Try.underlying39] at hok
      unfold Cell.okWide at hok
      rw [Try.underlying39] at hok
      exact hok
    unfold Cell.ok at hok'
    rw [Try.underlying39] at hok'
    obtain ⟨_, _, _, hsp, row, cells, hshape, _⟩ := hok'
    obtain ⟨b, off, spot⟩ := a
    simp only at hsp
    subst hsp
    have hbl : b < W.heap.size := by
      unfold World.shape? at hshape
      cases hq : W.heap[b]? with
      | none => simp only [hq] at hshape; simp at hshape
      | some o => exact (Array.getElem?_eq_some_iff.1 hq).1
    have key : ∀ t, t < n * 20 → ∃ u, W.cell? ⟨b, off + t, none⟩ = some u ∧ (ssI.getD (t % 20) .any).has u := by
      intro t ht
      obtain ⟨cs', h1, h2⟩ := hi (t / 20) (by rw [hmm]; simp only [if_true]; omega)
      rw [cells25] at h1
      obtain ⟨_, hlen, hcell⟩ := World.cells?_some h1
      have hall := flat_has 12 k 25 ssI cs' _ flat0 h2
      have hg := all2_get hall (t % 20)
      have hc := hcell (t % 20) (by omega)
      rw [add_at, show t / 20 * 20 + t % 20 = t by omega, List.getElem?_eq_getElem (by omega)] at hc
      rw [show cs'.getD (t % 20) undef = cs'[t % 20]'(by omega) from by rw [List.getD_eq_getElem?_getD, List.getElem?_eq_getElem (by omega)]; rfl] at hg
      exact ⟨_, hc, hg⟩
    refine ⟨_, n, c, (List.range (n * 20)).map fun t => (W.cell? ⟨b, off + t, none⟩).getD undef, rfl, hl, fun e => by simp at e, ⟨by simp, fun i u hu => ?_, .inr ⟨b, off, rfl, hbl, fun i u hu => ?_⟩⟩⟩
    · have hi' : i < n * 20 := by have := (List.getElem?_eq_some_iff.1 hu).1; simpa using this
      obtain ⟨w, hw1, hw2⟩ := key i hi'
      rw [List.getElem?_map, List.getElem?_range hi'] at hu
      simp only [Option.map_some, Option.some.injEq, hw1, Option.getD_some] at hu
      rw [← hu]
      exact hw2
    · have hi' : i < n * 20 := by have := (List.getElem?_eq_some_iff.1 hu).1; simpa using this
      obtain ⟨w, hw1, hw2⟩ := key i hi'
      rw [List.getElem?_map, List.getElem?_range hi'] at hu
      simp only [Option.map_some, Option.some.injEq, hw1, Option.getD_some] at hu
      rw [← hu]
      exact hw1

set_option maxRecDepth 100000 in
theorem lifted (os : Os) (started : os.Started) (H : Type) (enc : TypeId × Value → H) :
    ReturnsInHanded {} Try.checked os 4 .any (Rows.jumpsBoundsSpec.pre6 enc Try.prog Try.f4 Rows.jumpsBoundsRow.domain false) (Rows.jumpsBoundsSpec.post enc Try.prog Try.f4 false true false false) := by
  refine returnsInHanded_of_change (C := Try.checked) own started (by kernel_rfl) Try.func4
    (ChangeSpec.witness6 (enc := enc) (C := Try.checked) false ⟨#[], #[.slice none 0 0], []⟩ 8 (by kernel_rfl) (by kernel_rfl) (by kernel_rfl) (by kernel_rfl)) ?_
  intro W base args ds gs before hval0 hW hcnd _
  have hval : ∀ (j : Nat) t v, Try.f4.params[j]? = some t → args[j]? = some v → Value.okWide Try.prog W .any base t v := hval0
  have hW' := hW
  obtain ⟨p, q, hA0, hV, rfl, hfz, hnd⟩ := hW
  have hA : DataW.TrodAll enc Try.prog W 0 (fun _ => true) true Try.f4.params.toList args.toList ds p := hA0
  rw [Try.params4] at hA hval
  obtain ⟨v0, vs0, d0, ds0, p0, q0, hargs, rfl, rfl, h0, r0⟩ := trodAll_cons hA
  obtain ⟨rfl, rfl, rfl⟩ := trodAll_nil r0
  obtain rfl : args = #[v0] := by cases args; simp_all
  obtain ⟨rfl, rfl⟩ := trodVars_none hV
  have k0 := h0
  have lt0 : ∀ x ∈ p0, x.block < W.heap.size := by obtain ⟨m, hm⟩ := k0; exact DataW.trod_lt m _ _ _ hm
  obtain ⟨n0, hn0⟩ := h0
  obtain ⟨A, n, c, vs, rfl, hnc, hcA, hin⟩ := open20 (hval 0 39 v0 rfl rfl) hn0
  clear hA0 hval0
  refine (law4 A n c vs W hin hnc hcA).mono fun e W' ⟨he, bel⟩ => ?_
  subst he
  exact ⟨_, rfl, _, _, _, [], _, [], hW', trodAll_mk1 (shut_bool Try.underlying4 _), (trodAll_cons_mk (Below.trod laidOut (by kernel_rfl) (of_decide_eq_true (by kernel_rfl)) k0 bel lt0) trodAll_mk0), rfl, bel.frame _, fun h => by cases h⟩

theorem over : Rows.jumpsBoundsRow.holds Try.pinned (OpenSpec.ofChange Rows.jumpsBoundsSpec) :=
  OpenClaim.holds_of_wide 4 Try.f4 rfl rfl rfl rfl rfl rfl rfl ⟨rfl, rfl, rfl, rfl, rfl⟩ rfl rfl rfl rfl rfl (by kernel_rfl) Try.func4 (by kernel_rfl)
    (of_decide_eq_true (by kernel_rfl)) (by unfold Func.isWrapper; first | (rw [if_pos (by decide +kernel)]; kernel_rfl) | (rw [if_neg (by decide +kernel)]; exact ⟨rfl, rfl⟩))
    (fun os started H enc _ => lifted os started H enc)

theorem proved : Rows.JumpsBoundsSaid := over
#print axioms proved
end Go.Proofs.Ytbhhfbenajcinaa.jumpsBounds
