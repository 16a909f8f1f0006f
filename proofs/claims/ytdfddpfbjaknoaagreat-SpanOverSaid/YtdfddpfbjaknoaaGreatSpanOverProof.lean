/- Proved: for every slice of accesses and every words sp, lo, size, calquelaw16.SpanOver(l, sp, lo, size) returns true and changes nothing that was there. No condition. -/
import Derived.Test.YtdfddpfbjaknoaaGreatRows
import Derived.Test.YtdfddpfbjaknoaaGreatSd
import Derived.Test.YtdfddpfbjaknoaaGreatSe
import Derived.Test.YtdfddpfbjaknoaaGreatSXfq
import Derived.WalkKit
import Derived.ProofKit
import Derived.OpenShut
import Derived.ShutString
import Derived.ChangeOld
import Derived.Below
import Derived.Deep.Fields
import Derived.Deep.Slices
import Derived.Lib.SmallJoins
namespace Go.Proofs.YtdfddpfbjaknoaaGreat.spanOver
open Go.ChangeShapes Go.WideShapes Go.ChangeAt Go.RowKit Go.Joins Go.SX Go.Deep
set_option linter.unusedVariables false

theorem own : ownKnob Tryz.prog.godebug = none := by kernel_rfl
theorem laidOut : laidOutB Tryz.prog = true := by kernel_rfl
def ss4 : List So := [.int .i64, .int .i64, .int .i64, .int .i64]
theorem flat0 : flatSo Tryz.prog 12 25 = some ss4 := by kernel_rfl
theorem cells25 : Tryz.prog.cellsOf 25 = 4 := by kernel_rfl
theorem add_at (b off i j : Nat) : ((⟨b, off, none⟩ : Addr).add (i * 4)).add j = ⟨b, off + (i * 4 + j), none⟩ := by
  rw [Go.Deep.add_add]
  unfold Addr.add
  split
  · rename_i h
    rw [h, Nat.add_zero]
  · rfl
def numAt (W : World) (p : Addr) : Int := match W.cell? p with
  | some (.int _ x) => x
  | _ => 0
set_option maxRecDepth 100000 in
theorem open4 {H : Type} {enc : TypeId × Value → H} {W : World} {base b0 fuel : Nat} {v : Value} {x : DataW H × List MemPlace} (hok : Value.okWide Tryz.prog W .any b0 22 v)
    (h : DataW.trod enc Tryz.prog W base (fun _ => true) true fuel 22 v.cells.toList = some x) : ∃ A n c f, v = .slice A n c ∧ n ≤ c ∧ In4 W A n f := by
  obtain ⟨A, n, c, rfl⟩ := okWide_slice Tryz.underlying22 hok
  have hcs : (Value.slice A n c).cells.toList = [.slice A n c] := rfl
  rw [hcs] at h
  rcases open_slice Tryz.underlying22 h with ⟨he, _⟩ | ⟨a, len, cap, m, k, D, Pl, he, hb, hl, hm, hmm, _, hi⟩
  · simp only [List.cons.injEq, Value.slice.injEq, and_true] at he
    obtain ⟨rfl, rfl, rfl⟩ := he
    exact ⟨none, 0, 0, fun _ _ => 0, rfl, Nat.le_refl _, ⟨.inl ⟨rfl, rfl⟩⟩⟩
  · simp only [List.cons.injEq, Value.slice.injEq, and_true] at he
    obtain ⟨rfl, rfl, rfl⟩ := he
    have hok' : Cell.ok Tryz.prog W .any b0 22 (.slice (some a) n c) := by
      unfold Value.okWide at hok
      rw [Tryz.underlying22] at hok
      unfold Cell.okWide at hok
      rw [Tryz.underlying22] at hok
      exact hok
    unfold Cell.ok at hok'
    rw [Tryz.underlying22] at hok'
    obtain ⟨_, _, _, hsp, row, cells, hshape, _⟩ := hok'
    obtain ⟨b, off, spot⟩ := a
    simp only at hsp
    subst hsp
    have hbl : b < W.heap.size := by
      unfold World.shape? at hshape
      cases hq : W.heap[b]? with
      | none => simp only [hq] at hshape; simp at hshape
      | some o => exact (Array.getElem?_eq_some_iff.1 hq).1
    refine ⟨_, n, c, fun i j => numAt W ⟨b, off + i * 4 + j, none⟩, rfl, hl, ⟨.inr ⟨b, off, rfl, hbl, fun i hi' j hj => ?_⟩⟩⟩
    obtain ⟨cs', h1, h2⟩ := hi i (by rw [hmm]; simp only [if_true]; omega)
    rw [cells25] at h1
    obtain ⟨_, hlen, hcell⟩ := World.cells?_some h1
    have hall := flat_has 12 k 25 ss4 cs' _ flat0 h2
    have hg := all2_get hall j
    have hc := hcell j (by omega)
    rw [add_at, ← Nat.add_assoc, List.getElem?_eq_getElem (by omega)] at hc
    rw [show cs'.getD j undef = cs'[j]'(by omega) from by rw [List.getD_eq_getElem?_getD, List.getElem?_eq_getElem (by omega)]; rfl] at hg
    have hs : ss4.getD j .any = .int .i64 := by
      match j, hj with
      | 0, _ => rfl
      | 1, _ => rfl
      | 2, _ => rfl
      | 3, _ => rfl
    rw [hs] at hg
    obtain ⟨y, hy, _⟩ := hg
    rw [hy] at hc
    show W.cell? _ = some (.int .i64 (numAt W _))
    unfold numAt
    rw [hc]
theorem u64_of_wf {n : Int} (h : (Lit.int .u64 n).wf = true) : 0 ≤ n ∧ n ≤ 18446744073709551615 := by
  obtain ⟨m, hm, h1, h2⟩ := wf_int h
  cases hm
  exact ⟨h1, h2⟩

set_option maxRecDepth 100000 in
theorem lifted (os : Os) (started : os.Started) (H : Type) (enc : TypeId × Value → H) :
    ReturnsInHanded {} Tryz.checked os 3 .any (Rows.spanOverSpec.pre6 enc Tryz.prog Tryz.f3 Rows.spanOverRow.domain false) (Rows.spanOverSpec.post enc Tryz.prog Tryz.f3 false true false false) := by
  refine returnsInHanded_of_change (C := Tryz.checked) own started (by kernel_rfl) Tryz.func3
    (ChangeSpec.witness6 (enc := enc) (C := Tryz.checked) false ⟨#[], #[.slice none 0 0, .int .u64 0, .int .u64 0, .int .u64 0], []⟩ 8 (by kernel_rfl) (by kernel_rfl) (by kernel_rfl) (by kernel_rfl)) ?_
  intro W base args ds gs before hval0 hW hcnd _
  have hval : ∀ (j : Nat) t v, Tryz.f3.params[j]? = some t → args[j]? = some v → Value.okWide Tryz.prog W .any base t v := hval0
  have hW' := hW
  obtain ⟨p, q, hA0, hV, rfl, hfz, hnd⟩ := hW
  have hA : DataW.TrodAll enc Tryz.prog W 0 (fun _ => true) true Tryz.f3.params.toList args.toList ds p := hA0
  rw [Tryz.params3] at hA hval
  obtain ⟨v0, vs0, d0, ds0, p0, q0, hargs, rfl, rfl, h0, r0⟩ := trodAll_cons hA
  obtain ⟨v1, vs1, d1, ds1, p1, q1, rfl, rfl, rfl, h1, r1⟩ := trodAll_cons r0
  obtain ⟨v2, vs2, d2, ds2, p2, q2, rfl, rfl, rfl, h2, r2⟩ := trodAll_cons r1
  obtain ⟨v3, vs3, d3, ds3, p3, q3, rfl, rfl, rfl, h3, r3⟩ := trodAll_cons r2
  obtain ⟨rfl, rfl, rfl⟩ := trodAll_nil r3
  obtain rfl : args = #[v0, v1, v2, v3] := by cases args; simp_all
  obtain ⟨rfl, rfl⟩ := trodVars_none hV
  have k0 := h0
  have lt0 : ∀ x ∈ p0, x.block < W.heap.size := by obtain ⟨m, hm⟩ := k0; exact DataW.trod_lt m _ _ _ hm
  obtain ⟨n0, hn0⟩ := h0
  obtain ⟨A, n, c, f, rfl, hnc, hin⟩ := open4 (hval 0 22 v0 rfl rfl) hn0
  obtain ⟨a1, rfl, rfl, rfl, w1⟩ := open_int Tryz.underlying23 (hval 1 23 v1 rfl rfl) h1
  obtain ⟨a2, rfl, rfl, rfl, w2⟩ := open_int Tryz.underlying23 (hval 2 23 v2 rfl rfl) h2
  obtain ⟨a3, rfl, rfl, rfl, w3⟩ := open_int Tryz.underlying23 (hval 3 23 v3 rfl rfl) h3
  clear hA0 hval0
  refine (law3 awake7 A n c f W a1 a2 a3 hin hnc (u64_of_wf w3).1 (u64_of_wf w3).2).mono fun e W' ⟨he, bel⟩ => ?_
  subst he
  exact ⟨_, rfl, _, _, _, [], _, [], hW', trodAll_mk1 (shut_bool Tryz.underlying4 _), (trodAll_cons_mk (Below.trod laidOut (by kernel_rfl) (of_decide_eq_true (by kernel_rfl)) k0 bel lt0) (trodAll_cons_mk (shut_int Tryz.underlying23 w1) (trodAll_cons_mk (shut_int Tryz.underlying23 w2) (trodAll_cons_mk (shut_int Tryz.underlying23 w3) trodAll_mk0)))), rfl, bel.frame _, fun h => by cases h⟩

theorem over : Rows.spanOverRow.holds Tryz.pinned (OpenSpec.ofChange Rows.spanOverSpec) :=
  OpenClaim.holds_of_wide 3 Tryz.f3 rfl rfl rfl rfl rfl rfl rfl ⟨rfl, rfl, rfl, rfl, rfl⟩ rfl rfl rfl rfl rfl (by kernel_rfl) Tryz.func3 (by kernel_rfl)
    (of_decide_eq_true (by kernel_rfl)) (by unfold Func.isWrapper; first | (rw [if_pos (by decide +kernel)]; kernel_rfl) | (rw [if_neg (by decide +kernel)]; exact ⟨rfl, rfl⟩))
    (fun os started H enc _ => lifted os started H enc)

theorem proved : Rows.SpanOverSaid := over
#print axioms proved
end Go.Proofs.YtdfddpfbjaknoaaGreat.spanOver
