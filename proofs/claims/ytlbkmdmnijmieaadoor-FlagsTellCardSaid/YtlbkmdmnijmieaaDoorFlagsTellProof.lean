/- Proved: for every thunk and every number cc, calquelaw08.FlagsTell(t, cc) returns true and changes nothing that was there; condition: the variable calque/xflag.flagBits holds what the program's text lays in it, which the card ties to that text. -/
import Derived.Test.YtlbkmdmnijmieaaDoorRows
import Derived.Test.YtlbkmdmnijmieaaDoorCards
import Derived.Test.YtlbkmdmnijmieaaDoorTie
import Derived.Test.YtlbkmdmnijmieaaDoorTd
import Derived.WalkKit
import Derived.ProofKit
import Derived.LaidMore
import Derived.OpenShut
import Derived.ShutString
import Derived.ChangeOld
import Derived.Below
import Derived.Stop.Joined
import Derived.SevenTiedAt
import Derived.Lib.SmallJoins
namespace Go.Proofs.YtlbkmdmnijmieaaDoor.flagsTell
open Go.ChangeShapes Go.WideShapes Go.ChangeAt Go.WideMaps Go.WideElems Go.RowKit Go.Joins
set_option linter.unusedVariables false

theorem own : ownKnob Tryd.prog.godebug = none := by kernel_rfl
theorem laidOut : laidOutB Tryd.prog = true := by kernel_rfl
theorem cells3 : Tryd.prog.cellsOf 24 = 3 := by kernel_rfl
abbrev laidL {H : Type} : List (String × DataW H) := [("calque/xflag.flagBits", Rows.laid_calque_xflag_flagBits)]
theorem gBits : Tryd.prog.globalNamed "calque/xflag.flagBits" = some 0 := by kernel_rfl
theorem tBits : (Tryd.prog.globals[0]?).map (·.type) = some 34 := by kernel_rfl
theorem door_met (os : Os) (args : Array Value) : laidMetH Tryd.prog laidL ((World.doorLaid Tryd.prog 400 os).forCall (fun _ _ => 0) ⟨#[], args, []⟩).memory :=
  laidMetH_of_parts3 (fuel := 8) (laidMet_of_run' 8 (by kernel_rfl) (by kernel_rfl)) (by kernel_rfl) (by kernel_rfl)

theorem drop_take_one {l : List Value} {i : Nat} {v : Value} (h : (l.drop i).take 1 = [v]) : l[i]? = some v := by
  have := congrArg (·[0]?) h
  simpa [List.getElem?_take, List.getElem?_drop] using this

theorem of_laid {W : World} (h : laidMetH Tryd.prog laidL W) : 0 < W.heap.size ∧ W.cell? ⟨0, 0, none⟩ = some (.int .u64 1) ∧ W.cell? ⟨0, 1, none⟩ = some (.int .u64 4) ∧ W.cell? ⟨0, 2, none⟩ = some (.int .u64 64) ∧ W.cell? ⟨0, 3, none⟩ = some (.int .u64 128) ∧ W.cell? ⟨0, 4, none⟩ = some (.int .u64 2048) := by
  rw [MakeChecks.laidMetH_plain _ _ _ (by kernel_rfl)] at h
  obtain ⟨ps, ⟨g1, t1, cs1, f1, p1, q1, hg1, ht1, hv1, hd1, _, _⟩, _, _⟩ := h
  obtain rfl := Option.some.inj (gBits.symm.trans hg1)
  obtain rfl := Option.some.inj (tBits.symm.trans ht1)
  obtain ⟨xs, m1, rfl, hx1, hlen, hn3, hel⟩ := DataW.trod_array Tryd.underlying34 hd1
  have c3 : Tryd.prog.cellsOf 22 = 1 := by kernel_rfl
  match xs, hn3, hx1, hel with
  | [x0, x1, x2, x3, x4], _, hx1, hel =>
    obtain ⟨n0, e0, f0, _⟩ := DataW.trod_int Tryd.underlying22 (show DataW.trod _ Tryd.prog W 0 _ false m1 22 _ = some x0 from hel 0 (by decide))
    rw [c3] at e0
    obtain ⟨n1, e1, f1, _⟩ := DataW.trod_int Tryd.underlying22 (show DataW.trod _ Tryd.prog W 0 _ false m1 22 _ = some x1 from hel 1 (by decide))
    rw [c3] at e1
    obtain ⟨n2, e2, f2, _⟩ := DataW.trod_int Tryd.underlying22 (show DataW.trod _ Tryd.prog W 0 _ false m1 22 _ = some x2 from hel 2 (by decide))
    rw [c3] at e2
    obtain ⟨n3, e3, f3, _⟩ := DataW.trod_int Tryd.underlying22 (show DataW.trod _ Tryd.prog W 0 _ false m1 22 _ = some x3 from hel 3 (by decide))
    rw [c3] at e3
    obtain ⟨n4, e4, f4, _⟩ := DataW.trod_int Tryd.underlying22 (show DataW.trod _ Tryd.prog W 0 _ false m1 22 _ = some x4 from hel 4 (by decide))
    rw [c3] at e4
    simp only [List.map_cons, List.map_nil, Rows.laid_calque_xflag_flagBits, Prod.mk.injEq, DataW.agg.injEq, List.cons.injEq, f0, f1, f2, f3, f4, DataW.lit.injEq, Lit.int.injEq, true_and] at hx1
    obtain ⟨⟨h0, h1, h2, h3, h4, _⟩, _⟩ := hx1
    subst h0 h1 h2 h3 h4
    have c0 := (World.var?_cell hg1 hv1 0).trans ((Array.getElem?_toList ..).symm.trans (drop_take_one e0))
    have c1 := (World.var?_cell hg1 hv1 1).trans ((Array.getElem?_toList ..).symm.trans (drop_take_one e1))
    have c2 := (World.var?_cell hg1 hv1 2).trans ((Array.getElem?_toList ..).symm.trans (drop_take_one e2))
    have c3x := (World.var?_cell hg1 hv1 3).trans ((Array.getElem?_toList ..).symm.trans (drop_take_one e3))
    have c4 := (World.var?_cell hg1 hv1 4).trans ((Array.getElem?_toList ..).symm.trans (drop_take_one e4))
    refine ⟨?_, c0, c1, c2, c3x, c4⟩
    by_cases hz : 0 < W.heap.size
    · exact hz
    · have : W.heap[0]? = none := Array.getElem?_eq_none (by omega)
      simp [World.cell?, this] at c0

set_option maxRecDepth 100000 in
theorem lifted (os : Os) (started : os.Started) (H : Type) (enc : TypeId × Value → H) :
    ReturnsInHanded {} Tryd.checked os 3 .any (fun w args => (Rows.flagsTellSpec.pre enc Tryd.prog Tryd.f3 [] false w args ∧ laidMetH Tryd.prog laidL w) ∧ sizedMet enc Tryd.prog Tryd.f3 (OpenSpec.ofChange Rows.flagsTellSpec) false w args)
      (Rows.flagsTellSpec.post enc Tryd.prog Tryd.f3 false true false false) := by
  refine returnsInHanded_of_change_and (C := Tryd.checked) (X := fun w _ => laidMetH Tryd.prog laidL w) (fun _ _ _ hh h => h.of_heap hh) own started (by kernel_rfl) Tryd.func3
    (ChangeSpec.witness_shaped (enc := enc) (C := Tryd.checked) (os := os) (X := fun w _ => laidMetH Tryd.prog laidL w) false (World.doorLaid Tryd.prog 400 os) #[.agg #[.bool false, .bool false, .int .u64 0], .int .i64 0] 8 rfl (World.shaped_of_RefB (by kernel_rfl) (by kernel_rfl)) (by kernel_rfl) (by kernel_rfl) (by kernel_rfl) (door_met os _)) ?_
  intro W base args ds gs before hval0 hW _ _ hL _
  have hval : ∀ (j : Nat) t v, Tryd.f3.params[j]? = some t → args[j]? = some v → Value.okWide Tryd.prog W .any base t v := hval0
  have hW' := hW
  obtain ⟨p, q, hA0, hV, rfl, hfz, hnd⟩ := hW
  have hA : DataW.TrodAll enc Tryd.prog W 0 (fun _ => true) true Tryd.f3.params.toList args.toList ds p := hA0
  rw [Tryd.params3] at hA hval
  obtain ⟨v2, vs2, d2, ds2, p2, q2, hargs, rfl, rfl, h2, r2⟩ := trodAll_cons hA
  obtain ⟨v3, vs3, d3, ds3, p3, q3, rfl, rfl, rfl, h3, r3⟩ := trodAll_cons r2
  obtain ⟨rfl, rfl, rfl⟩ := trodAll_nil r3
  obtain rfl : args = #[v2, v3] := by cases args; simp_all
  obtain ⟨rfl, rfl⟩ := trodVars_none hV
  have k2 := h2
  have lt2 : ∀ x ∈ p2, x.block < W.heap.size := by obtain ⟨m, hm⟩ := k2; exact DataW.trod_lt m _ _ _ hm
  obtain ⟨x0, x1, x2, y0, y1, y2, m, rfl, _, _, hy0, hy1, hy2⟩ := open_agg3 Tryd.underlying24 (by kernel_rfl) cells3 (hval 0 24 v2 rfl rfl) h2
  obtain ⟨a2_0, f0, _⟩ := DataW.trod_bool Tryd.underlying4 hy0
  simp at f0; subst f0
  obtain ⟨a2_1, f1, _⟩ := DataW.trod_bool Tryd.underlying4 hy1
  simp at f1; subst f1
  obtain ⟨a2_2, f2, _, w2_2⟩ := DataW.trod_int Tryd.underlying22 hy2
  simp at f2; subst f2
  obtain ⟨a3, rfl, rfl, rfl, w3⟩ := open_int Tryd.underlying3 (hval 1 3 v3 rfl rfl) h3
  obtain ⟨hz, g0, g1, g2, g3, g4⟩ := of_laid hL
  clear hA0 hval0
  refine (law_tell a2_0 a2_1 a2_2 a3 (Cq.u64_of_wf w2_2) W hz g0 g1 g2 g3 g4).mono fun e W' ⟨he, bel⟩ => ?_
  subst he
  exact ⟨_, rfl, _, _, _, [], _, [], hW', trodAll_mk1 (shut_bool Tryd.underlying4 _), (trodAll_cons_mk (Below.trod laidOut (by kernel_rfl) (of_decide_eq_true (by kernel_rfl)) k2 bel lt2) (trodAll_cons_mk (shut_int Tryd.underlying3 w3) trodAll_mk0)), rfl, bel.frame _, fun h => by cases h⟩

theorem over : Rows.FlagsTellSaid :=
  OpenClaim.holds_of_wide 3 Tryd.f3 rfl rfl rfl rfl rfl rfl rfl ⟨rfl, rfl, rfl, rfl, rfl⟩ rfl rfl rfl rfl rfl (by kernel_rfl) Tryd.func3 (by kernel_rfl)
    (of_decide_eq_true (by kernel_rfl)) (by unfold Func.isWrapper; first | (rw [if_pos (by decide +kernel)]; kernel_rfl) | (rw [if_neg (by decide +kernel)]; exact ⟨rfl, rfl⟩))
    (fun os started H enc _ => lifted os started H enc)

theorem proved : Rows.FlagsTellCardSaid :=
  Claim7.holds_tied_plain_at .later [] [.data] true (true, "dad08c5dd9a4f788d3860e49b62a523f322e6dfe732d011c50333874aed55df6") false
    over (fun _ h => by cases h) (by kernel_rfl) (fun _ h => by cases h) flagsTell_row_tie rfl ⟨rfl, rfl⟩ (by kernel_rfl) rfl
    (fun f fn hf hfn => by
      obtain rfl : f = 3 := Option.some.inj ((show Tryd.prog.funcNamed "calque/calquelaw08.FlagsTell" = some 3 by kernel_rfl).symm.trans hf) |>.symm
      obtain rfl : fn = Tryd.f3 := (Option.some.inj (Tryd.func3.symm.trans hfn)).symm
      exact ⟨by kernel_rfl, fun j t ht => by
        rw [Tryd.params3] at ht
        have hm : t ∈ [24, 3] := by simpa using Array.mem_of_getElem? ht
        have hall : ([24, 3].all fun u => !Tryd.prog.wantsStandIn u) = true := by kernel_rfl
        exact (show Tryd.prog.wantsStandIn t = false by simpa using List.all_eq_true.1 hall t hm)⟩)
    (by kernel_rfl)
#print axioms proved
end Go.Proofs.YtlbkmdmnijmieaaDoor.flagsTell
