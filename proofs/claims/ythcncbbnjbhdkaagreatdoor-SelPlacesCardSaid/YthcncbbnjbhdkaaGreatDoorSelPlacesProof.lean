/- Proved: the value of a step that works alone is the same whichever registers it is worked in; for every step, every three words and every two choices of registers -/
import Derived.Test.YthcncbbnjbhdkaaGreatDoorRows
import Derived.Test.YthcncbbnjbhdkaaGreatDoorCards
import Derived.Test.YthcncbbnjbhdkaaGreatDoorTie
import Derived.Test.YthcncbbnjbhdkaaGreatDoorSp
import Derived.Test.YthcncbbnjbhdkaaGreatDoorSXfq
import Derived.Deep.Fields
import Derived.Deep.Slices
import Derived.WalkKit
import Derived.ProofKit
import Derived.LaidMore
import Derived.OpenShut
import Derived.ShutString
import Derived.ChangeOld
import Derived.Below
import Derived.Lib.SmallJoins
import Derived.Stop.Joined
import Derived.Stop.LaidErr
import Derived.SevenTiedAt
import Derived.Lib.LaidTab
namespace Go.WideShapes
theorem okWide_array {P : Program} {w : World} {r : Reach} {base : Nat} {t : TypeId} {v : Value} {n : Nat} {e : TypeId} (ht : P.underlying t = some (.array n e)) (h : Value.okWide P w r base t v) : ∃ cs, v = .agg cs ∧ cs.size = P.cellsOf t := by
  simp only [Value.okWide, ht] at h
  obtain ⟨cs, h1, h2, _⟩ := h
  exact ⟨cs, h1, h2⟩
end Go.WideShapes
namespace Go.Proofs.YthcncbbnjbhdkaaGreatDoor.selPlaces
open Go.ChangeShapes Go.WideShapes Go.ChangeAt Go.WideMaps Go.WideElems Go.RowKit Go.Joins
set_option linter.unusedVariables false

theorem own : ownKnob Tryz.prog.godebug = none := by kernel_rfl
theorem laidOut : laidOutB Tryz.prog = true := by kernel_rfl
theorem u64_bd {n : Int} (h : (Lit.int .u64 n).wf = true) : 0 ≤ n ∧ n ≤ 18446744073709551615 := by
  simp [Lit.wf, IntKind.min, IntKind.max, IntKind.bits, IntKind.signed] at h; omega
theorem u32_bd {n : Int} (h : (Lit.int .u32 n).wf = true) : 0 ≤ n ∧ n ≤ 4294967295 := by
  simp [Lit.wf, IntKind.min, IntKind.max, IntKind.bits, IntKind.signed] at h; omega
theorem i64_bd {n : Int} (h : (Lit.int .i64 n).wf = true) : -9223372036854775808 ≤ n ∧ n ≤ 9223372036854775807 := by
  simp [Lit.wf, IntKind.min, IntKind.max, IntKind.bits, IntKind.signed] at h; omega
def ss0 : List SX.So := [.int .i64, .int .i64, .int .i64, .int .i64, .int .i64, .int .i64, .int .u64, .bool, .int .i64]
theorem flat0 : SX.flatSo Tryz.prog 12 46 = some ss0 := by kernel_rfl
def ss1 : List SX.So := [.int .u64, .int .u64, .int .u64]
theorem flat1 : SX.flatSo Tryz.prog 12 79 = some ss1 := by kernel_rfl
def ss2 : List SX.So := [.int .i64, .int .i64, .int .i64, .int .i64]
theorem flat2 : SX.flatSo Tryz.prog 12 47 = some ss2 := by kernel_rfl
def ss3 : List SX.So := [.int .i64, .int .i64, .int .i64, .int .i64]
theorem flat3 : SX.flatSo Tryz.prog 12 47 = some ss3 := by kernel_rfl
abbrev laidL {H : Type} : List (String × DataW H) := [("math/bits.deBruijn32tab", Rows.laid_math_bits_deBruijn32tab), ("math/bits.deBruijn64tab", Rows.laid_math_bits_deBruijn64tab), ("internal/strconv.uint64pow10", Rows.laid_internal_strconv_uint64pow10), ("unicode.White_Space", Rows.laid_unicode_White_Space), ("strings.asciiSpace", Rows.laid_strings_asciiSpace), ("calque/sel.rows", Rows.laid_calque_sel_rows), ("calque/sel.fences", Rows.laid_calque_sel_fences)]
theorem door_met (os : Os) (args : Array Value) : laidMetH Tryz.prog laidL ((World.doorLaid Tryz.prog 4000 os).forCall (fun _ _ => 0) ⟨#[], args, []⟩).memory :=
  laidMetH_of_parts3 (fuel := 8) (laidMet_of_run' 8 (by kernel_rfl) (by kernel_rfl)) (by kernel_rfl) (by kernel_rfl)
theorem tab_eq0 : (Rows.laid_calque_sel_rows : DataW Unit) = Lib.rowsData .i64 rowsP := by kernel_rfl
theorem tab_fl0 : rowsL = Lib.rowsFlat rowsP := by kernel_rfl
theorem tab_eq1 : (Rows.laid_strings_asciiSpace : DataW Unit) = Lib.tabData .u8 asciiL := by kernel_rfl
theorem tab_eq2 : (Rows.laid_internal_strconv_uint64pow10 : DataW Unit) = Lib.tabData .u64 pow10L := by kernel_rfl
theorem tab_eq3 : (Rows.laid_math_bits_deBruijn32tab : DataW Unit) = Lib.tabData .u8 bru32L := by kernel_rfl
theorem tab_eq4 : (Rows.laid_math_bits_deBruijn64tab : DataW Unit) = Lib.tabData .u8 bru64L := by kernel_rfl
theorem of_laid {W : World} (h : laidMetH Tryz.prog laidL W) : TabsA W := by
  rw [MakeChecks.laidMetH_plain _ _ _ (by kernel_rfl)] at h
  exact ⟨by
    have h : laidMet Tryz.prog (("calque/sel.rows", Rows.laid_calque_sel_rows) :: _) W := h.tail.tail.tail.tail.tail
    rw [tab_eq0] at h
    rw [tab_fl0]
    exact Lib.tabIs_rows (g := (Tryz.prog.globalNamed "calque/sel.rows").getD 0) (by kernel_rfl) (by kernel_rfl) Tryz.underlying265 Tryz.underlying264 rfl rfl rfl Tryz.underlying3 Tryz.underlying3 (by kernel_rfl) (by kernel_rfl) (by kernel_rfl) (by kernel_rfl) h,
    by
    have h : laidMet Tryz.prog (("strings.asciiSpace", Rows.laid_strings_asciiSpace) :: _) W := h.tail.tail.tail.tail
    rw [tab_eq1] at h
    exact Lib.tabIs_of_head (g := (Tryz.prog.globalNamed "strings.asciiSpace").getD 0) (by kernel_rfl) (by kernel_rfl) Tryz.underlying255 Tryz.underlying5 (by kernel_rfl) (by kernel_rfl) h,
    by
    have h : laidMet Tryz.prog (("internal/strconv.uint64pow10", Rows.laid_internal_strconv_uint64pow10) :: _) W := h.tail.tail
    rw [tab_eq2] at h
    exact Lib.tabIs_of_head (g := (Tryz.prog.globalNamed "internal/strconv.uint64pow10").getD 0) (by kernel_rfl) (by kernel_rfl) Tryz.underlying365 Tryz.underlying22 (by kernel_rfl) (by kernel_rfl) h,
    by
    have h : laidMet Tryz.prog (("math/bits.deBruijn32tab", Rows.laid_math_bits_deBruijn32tab) :: _) W := h
    rw [tab_eq3] at h
    exact Lib.tabIs_of_head (g := (Tryz.prog.globalNamed "math/bits.deBruijn32tab").getD 0) (by kernel_rfl) (by kernel_rfl) Tryz.underlying371 Tryz.underlying5 (by kernel_rfl) (by kernel_rfl) h,
    by
    have h : laidMet Tryz.prog (("math/bits.deBruijn64tab", Rows.laid_math_bits_deBruijn64tab) :: _) W := h.tail
    rw [tab_eq4] at h
    exact Lib.tabIs_of_head (g := (Tryz.prog.globalNamed "math/bits.deBruijn64tab").getD 0) (by kernel_rfl) (by kernel_rfl) Tryz.underlying372 Tryz.underlying5 (by kernel_rfl) (by kernel_rfl) h⟩

set_option maxRecDepth 100000 in
theorem lifted (os : Os) (started : os.Started) (H : Type) (enc : TypeId × Value → H) :
    ReturnsInHanded {} Tryz.checked os 5 .any (fun w args => (Rows.selPlacesSpec.pre enc Tryz.prog Tryz.f5 [] false w args ∧ laidMetH Tryz.prog laidL w) ∧ sizedMet enc Tryz.prog Tryz.f5 (OpenSpec.ofChange Rows.selPlacesSpec) false w args)
      (Rows.selPlacesSpec.post enc Tryz.prog Tryz.f5 false true false false) := by
  refine returnsInHanded_of_change_and (C := Tryz.checked) (X := fun w _ => laidMetH Tryz.prog laidL w) (fun _ _ _ hh h => h.of_heap hh) own started (by kernel_rfl) Tryz.func5
    (ChangeSpec.witness_shaped (enc := enc) (C := Tryz.checked) (os := os) (X := fun w _ => laidMetH Tryz.prog laidL w) false (World.doorLaid Tryz.prog 4000 os) #[.agg #[.int .i64 0, .int .i64 0, .int .i64 0, .int .i64 0, .int .i64 0, .int .i64 0, .int .u64 0, .bool false, .int .i64 0], .agg #[.int .u64 0, .int .u64 0, .int .u64 0], .agg #[.int .i64 0, .int .i64 0, .int .i64 0, .int .i64 0], .agg #[.int .i64 0, .int .i64 0, .int .i64 0, .int .i64 0]] 8 rfl (World.shaped_of_RefB (by kernel_rfl) (by kernel_rfl)) (by kernel_rfl) (by kernel_rfl) (by kernel_rfl) (door_met os _)) ?_
  intro W base args ds gs before hval0 hW _ _ hL _
  have hT := of_laid hL
  have hval : ∀ (j : Nat) t v, Tryz.f5.params[j]? = some t → args[j]? = some v → Value.okWide Tryz.prog W .any base t v := hval0
  have hW' := hW
  obtain ⟨p, q, hA0, hV, rfl, hfz, hnd⟩ := hW
  have hA : DataW.TrodAll enc Tryz.prog W 0 (fun _ => true) true Tryz.f5.params.toList args.toList ds p := hA0
  rw [Tryz.params5] at hA hval
  obtain ⟨v0, vs0, d0, ds0, p0, q0, hargs, rfl, rfl, h0, r0⟩ := trodAll_cons hA
  obtain ⟨v1, vs1, d1, ds1, p1, q1, rfl, rfl, rfl, h1, r1⟩ := trodAll_cons r0
  obtain ⟨v2, vs2, d2, ds2, p2, q2, rfl, rfl, rfl, h2, r2⟩ := trodAll_cons r1
  obtain ⟨v3, vs3, d3, ds3, p3, q3, rfl, rfl, rfl, h3, r3⟩ := trodAll_cons r2
  obtain ⟨rfl, rfl, rfl⟩ := trodAll_nil r3
  obtain rfl : args = #[v0, v1, v2, v3] := by cases args; simp_all
  obtain ⟨rfl, rfl⟩ := trodVars_none hV
  have k0 := h0
  have lt0 : ∀ x ∈ p0, x.block < W.heap.size := by obtain ⟨m, hm⟩ := k0; exact DataW.trod_lt m _ _ _ hm
  obtain ⟨cs0, rfl, _⟩ := okWide_struct Tryz.underlying46 (hval 0 46 v0 rfl rfl)
  obtain ⟨n0, hn0⟩ := h0
  have hs0 : SX.All2 SX.So.has ss0 cs0.toList := SX.flat_has 12 n0 46 ss0 cs0.toList _ flat0 hn0
  have k1 := h1
  have lt1 : ∀ x ∈ p1, x.block < W.heap.size := by obtain ⟨m, hm⟩ := k1; exact DataW.trod_lt m _ _ _ hm
  obtain ⟨cs1, rfl, _⟩ := okWide_array Tryz.underlying79 (hval 1 79 v1 rfl rfl)
  obtain ⟨n1, hn1⟩ := h1
  have hs1 : SX.All2 SX.So.has ss1 cs1.toList := SX.flat_has 12 n1 79 ss1 cs1.toList _ flat1 hn1
  have k2 := h2
  have lt2 : ∀ x ∈ p2, x.block < W.heap.size := by obtain ⟨m, hm⟩ := k2; exact DataW.trod_lt m _ _ _ hm
  obtain ⟨cs2, rfl, _⟩ := okWide_array Tryz.underlying47 (hval 2 47 v2 rfl rfl)
  obtain ⟨n2, hn2⟩ := h2
  have hs2 : SX.All2 SX.So.has ss2 cs2.toList := SX.flat_has 12 n2 47 ss2 cs2.toList _ flat2 hn2
  have k3 := h3
  have lt3 : ∀ x ∈ p3, x.block < W.heap.size := by obtain ⟨m, hm⟩ := k3; exact DataW.trod_lt m _ _ _ hm
  obtain ⟨cs3, rfl, _⟩ := okWide_array Tryz.underlying47 (hval 3 47 v3 rfl rfl)
  obtain ⟨n3, hn3⟩ := h3
  have hs3 : SX.All2 SX.So.has ss3 cs3.toList := SX.flat_has 12 n3 47 ss3 cs3.toList _ flat3 hn3
  clear hA0 hval0
  refine (law_places hs0 hs1 hs2 hs3 W hT).mono fun e W' ⟨he, bel⟩ => ?_
  subst he
  exact ⟨_, rfl, _, _, _, [], _, [], hW', trodAll_mk1 (shut_bool Tryz.underlying4 _), (trodAll_cons_mk (Below.trod laidOut (by kernel_rfl) (of_decide_eq_true (by kernel_rfl)) k0 bel lt0) (trodAll_cons_mk (Below.trod laidOut (by kernel_rfl) (of_decide_eq_true (by kernel_rfl)) k1 bel lt1) (trodAll_cons_mk (Below.trod laidOut (by kernel_rfl) (of_decide_eq_true (by kernel_rfl)) k2 bel lt2) (trodAll_cons_mk (Below.trod laidOut (by kernel_rfl) (of_decide_eq_true (by kernel_rfl)) k3 bel lt3) trodAll_mk0)))), rfl, bel.frame _, fun h => by cases h⟩

theorem mapsF : mapsRowed Tryz.prog = true := by kernel_rfl
theorem readF : (Tryz.f5.params.all (Tryz.prog.readableRec ·)) = true := by kernel_rfl
theorem inPlaceF : (Rows.selPlacesRow.inPlace == Tryz.prog.inPlace 5) = true := by kernel_rfl
theorem unfollowedF : (Rows.selPlacesRow.unfollowed == Tryz.prog.unfollowed 5) = true := by kernel_rfl
theorem recursesF : (Rows.selPlacesRow.recurses == Tryz.prog.recurses 5) = true := by kernel_rfl
theorem namedF : (Rows.selPlacesRow.named == Tryz.prog.varsNamed 5) = true := by kernel_rfl
theorem heardF : Tryz.prog.stopsHeard = true := by kernel_rfl
theorem enterF : Tryz.prog.mayEnter = true := by kernel_rfl
theorem liftedF : (Rows.selPlacesRow.lifted == Tryz.prog.liftsFinal) = true := by kernel_rfl
theorem makeF : (Tryz.prog.make == some Rows.selPlacesRow.make) = true := by kernel_rfl
theorem closedF : joinedFacts Tryz.prog 5 Tryz.f5 Rows.selPlacesSpec Rows.selPlacesRow = true := by
  unfold joinedFacts
  rw [laidOut, mapsF, readF, inPlaceF, unfollowedF, recursesF, namedF, heardF, enterF, liftedF, makeF]
  kernel_rfl
theorem over : Rows.SelPlacesSaid :=
  OpenClaim.holds_of_wide 5 Tryz.f5 rfl rfl rfl rfl rfl rfl rfl ⟨rfl, rfl, rfl, rfl, rfl⟩ rfl rfl rfl rfl rfl (by as_aux_lemma => kernel_rfl) Tryz.func5 closedF
    (of_decide_eq_true (by as_aux_lemma => kernel_rfl)) (by unfold Func.isWrapper; first | (rw [if_pos (by decide +kernel)]; kernel_rfl) | (rw [if_neg (by decide +kernel)]; exact ⟨rfl, rfl⟩))
    (fun os started H enc _ => lifted os started H enc)

theorem proved : Rows.SelPlacesCardSaid :=
  Claim7.holds_tied_plain_at .later [] [.data, .data, .data, .listed, .data, .data, .data] true (true, "fa5f91ed58e5121009d93266e1aa3de40cac6dc42cdfe902f807a08e7674ba17") false
    over (fun _ h => by cases h) (by as_aux_lemma => kernel_rfl) (fun _ h => by cases h) selPlaces_row_tie rfl ⟨rfl, rfl⟩ (by as_aux_lemma => kernel_rfl) rfl
    (fun f fn hf hfn => by
      obtain rfl : f = 5 := Option.some.inj ((show Tryz.prog.funcNamed "calque/calquelaw23.SelPlaces" = some 5 by as_aux_lemma => kernel_rfl).symm.trans hf) |>.symm
      obtain rfl : fn = Tryz.f5 := (Option.some.inj (Tryz.func5.symm.trans hfn)).symm
      exact ⟨by as_aux_lemma => kernel_rfl, fun j t ht => by
        rw [Tryz.params5] at ht
        have hm : t ∈ [46, 79, 47, 47] := by simpa using Array.mem_of_getElem? ht
        have hall : ([46, 79, 47, 47].all fun u => !Tryz.prog.wantsStandIn u) = true := by as_aux_lemma => kernel_rfl
        exact (show Tryz.prog.wantsStandIn t = false by simpa using List.all_eq_true.1 hall t hm)⟩)
    (by as_aux_lemma => kernel_rfl)
#print axioms proved
end Go.Proofs.YthcncbbnjbhdkaaGreatDoor.selPlaces
