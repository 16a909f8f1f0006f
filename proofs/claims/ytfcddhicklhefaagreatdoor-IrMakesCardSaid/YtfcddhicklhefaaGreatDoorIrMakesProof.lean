/- Proved: for every slice of operations and every number f, calquelaw13.IrMakes(ops, f) returns true and changes nothing that was there; condition: the library's tables (strings.asciiSpace is read) hold what the program's text lays in them, which the card ties to that text. -/
import Derived.Test.YtfcddhicklhefaaGreatDoorRows
import Derived.Test.YtfcddhicklhefaaGreatDoorCards
import Derived.Test.YtfcddhicklhefaaGreatDoorTie
import Derived.Test.YtfcddhicklhefaaGreatDoorMkR
import Derived.Test.YtfcddhicklhefaaGreatDoorSXfr
import Derived.Deep.Fields
import Derived.Deep.Slices
import Derived.WalkKit
import Derived.ProofKit
import Derived.LaidMore
import Derived.OpenShut
import Derived.ShutString
import Derived.ChangeOld
import Derived.Below
import Derived.Lib.SmallJoins
import Derived.Stop.Joined
import Derived.Stop.LaidErr
import Derived.SevenTiedAt
import Derived.Lib.LaidTab
namespace Go.Proofs.YtfcddhicklhefaaGreatDoor.irMakes
open Go.ChangeShapes Go.WideShapes Go.ChangeAt Go.WideMaps Go.WideElems Go.RowKit Go.Joins
set_option linter.unusedVariables false

theorem own : ownKnob Tryz.prog.godebug = none := by kernel_rfl
theorem laidOut : laidOutB Tryz.prog = true := by kernel_rfl
theorem u64_bd {n : Int} (h : (Lit.int .u64 n).wf = true) : 0 ≤ n ∧ n ≤ 18446744073709551615 := by
  simp [Lit.wf, IntKind.min, IntKind.max, IntKind.bits, IntKind.signed] at h; omega
theorem i64_bd {n : Int} (h : (Lit.int .i64 n).wf = true) : -9223372036854775808 ≤ n ∧ n ≤ 9223372036854775807 := by
  simp [Lit.wf, IntKind.min, IntKind.max, IntKind.bits, IntKind.signed] at h; omega
def ss0 : List SX.So := [.int .i64, .int .i64, .int .i64, .int .i64, .int .i64, .int .i64, .int .u64, .bool, .int .i64]
theorem flat0 : SX.flatSo Tryz.prog 12 36 = some ss0 := by kernel_rfl
theorem cells0 : Tryz.prog.cellsOf 36 = 9 := by kernel_rfl
theorem add_at0 (b off i j : Nat) : ((⟨b, off, none⟩ : Addr).add (i * 9)).add j = ⟨b, off + (i * 9 + j), none⟩ := by
  rw [Go.Deep.add_add]
  unfold Addr.add
  split
  · rename_i h
    rw [h, Nat.add_zero]
  · rfl
set_option maxRecDepth 100000 in
theorem openV0 {H : Type} {enc : TypeId × Value → H} {W : World} {base b0 fuel : Nat} {v : Value} {x : DataW H × List MemPlace} (hok : Value.okWide Tryz.prog W .any b0 22 v)
    (h : DataW.trod enc Tryz.prog W base (fun _ => true) true fuel 22 v.cells.toList = some x) : ∃ A n c, ∃ vs : List Value, v = .slice A n c ∧ n ≤ c ∧ n ≤ 9223372036854775807 ∧ vs.length = n * 9 ∧
      (∀ i u, vs[i]? = some u → (ss0.getD (i % 9) .any).has u) ∧
      ((A = none ∧ n = 0 ∧ c = 0) ∨ ∃ b off, A = some ⟨b, off, none⟩ ∧ b < W.heap.size ∧ ∀ i u, vs[i]? = some u → W.cell? ⟨b, off + i, none⟩ = some u) := by
  obtain ⟨A, n, c, rfl⟩ := okWide_slice Tryz.underlying22 hok
  have hcs : (Value.slice A n c).cells.toList = [.slice A n c] := rfl
  rw [hcs] at h
  rcases Go.Deep.open_slice Tryz.underlying22 h with ⟨he, _⟩ | ⟨a, len, cap, m, k, D, Pl, he, hb, hl, hm, hmm, _, hi⟩
  · simp only [List.cons.injEq, Value.slice.injEq, and_true] at he
    obtain ⟨rfl, rfl, rfl⟩ := he
    exact ⟨none, 0, 0, [], rfl, Nat.le_refl _, by omega, rfl, fun i u hu => by simp at hu, .inl ⟨rfl, rfl, rfl⟩⟩
  · simp only [List.cons.injEq, Value.slice.injEq, and_true] at he
    obtain ⟨rfl, rfl, rfl⟩ := he
    have hok' : Cell.ok Tryz.prog W .any b0 22 (.slice (some a) n c) := by
      unfold Value.okWide at hok
      rw [Tryz.underlying22] at hok
      unfold Cell.okWide at hok
      rw [Tryz.underlying22] at hok
      exact hok
    unfold Cell.ok at hok'
    rw [Tryz.underlying22] at hok'
    obtain ⟨_, hmax, _, hsp, row, cells, hshape, _⟩ := hok'
    have hmax : (c : Int) ≤ 9223372036854775807 := hmax
    obtain ⟨b, off, spot⟩ := a
    simp only at hsp
    subst hsp
    have hbl : b < W.heap.size := by
      unfold World.shape? at hshape
      cases hq : W.heap[b]? with
      | none => simp only [hq] at hshape; simp at hshape
      | some o => exact (Array.getElem?_eq_some_iff.1 hq).1
    have key : ∀ t, t < n * 9 → ∃ u, W.cell? ⟨b, off + t, none⟩ = some u ∧ (ss0.getD (t % 9) .any).has u := by
      intro t ht
      obtain ⟨cs', h1, h2⟩ := hi (t / 9) (by rw [hmm]; simp only [if_true]; omega)
      rw [cells0] at h1
      obtain ⟨_, hlen, hcell⟩ := World.cells?_some h1
      have hall := SX.flat_has 12 k 36 ss0 cs' _ flat0 h2
      have hg := SX.all2_get hall (t % 9)
      have hc := hcell (t % 9) (by omega)
      rw [add_at0, show t / 9 * 9 + t % 9 = t by omega, List.getElem?_eq_getElem (by omega)] at hc
      rw [show cs'.getD (t % 9) undef = cs'[t % 9]'(by omega) from by rw [List.getD_eq_getElem?_getD, List.getElem?_eq_getElem (by omega)]; rfl] at hg
      exact ⟨_, hc, hg⟩
    refine ⟨_, n, c, (List.range (n * 9)).map fun t => (W.cell? ⟨b, off + t, none⟩).getD undef, rfl, hl, by omega, by simp, fun i u hu => ?_, .inr ⟨b, off, rfl, hbl, fun i u hu => ?_⟩⟩
    · have hi' : i < n * 9 := by have := (List.getElem?_eq_some_iff.1 hu).1; simpa using this
      obtain ⟨w, hw1, hw2⟩ := key i hi'
      rw [List.getElem?_map, List.getElem?_range hi'] at hu
      simp only [Option.map_some, Option.some.injEq, hw1, Option.getD_some] at hu
      rw [← hu]
      exact hw2
    · have hi' : i < n * 9 := by have := (List.getElem?_eq_some_iff.1 hu).1; simpa using this
      obtain ⟨w, hw1, hw2⟩ := key i hi'
      rw [List.getElem?_map, List.getElem?_range hi'] at hu
      simp only [Option.map_some, Option.some.injEq, hw1, Option.getD_some] at hu
      rw [← hu]
      exact hw1
abbrev laidL {H : Type} : List (String × DataW H) := [("math/bits.deBruijn32tab", Rows.laid_math_bits_deBruijn32tab), ("math/bits.deBruijn64tab", Rows.laid_math_bits_deBruijn64tab), ("internal/strconv.uint64pow10", Rows.laid_internal_strconv_uint64pow10), ("unicode.White_Space", Rows.laid_unicode_White_Space), ("strings.asciiSpace", Rows.laid_strings_asciiSpace)]
theorem door_met (os : Os) (args : Array Value) : laidMetH Tryz.prog laidL ((World.doorLaid Tryz.prog 4000 os).forCall (fun _ _ => 0) ⟨#[], args, []⟩).memory :=
  laidMetH_of_parts3 (fuel := 8) (laidMet_of_run' 8 (by kernel_rfl) (by kernel_rfl)) (by kernel_rfl) (by kernel_rfl)
theorem tab_eq : (Rows.laid_strings_asciiSpace : DataW Unit) = Lib.tabData .u8 Lib.asciiSpaceTab := by kernel_rfl
theorem of_laid {W : World} (h : laidMetH Tryz.prog laidL W) : Tabs W := by
  rw [MakeChecks.laidMetH_plain _ _ _ (by kernel_rfl)] at h
  have h := h.tail.tail.tail.tail
  rw [tab_eq] at h
  exact Lib.tabIs_of_head (g := (Tryz.prog.globalNamed "strings.asciiSpace").getD 0) (by kernel_rfl) (by kernel_rfl) Tryz.underlying118 Tryz.underlying5 (by kernel_rfl) (by kernel_rfl) h

set_option maxRecDepth 100000 in
theorem lifted (os : Os) (started : os.Started) (H : Type) (enc : TypeId × Value → H) :
    ReturnsInHanded {} Tryz.checked os 3 .any (fun w args => (Rows.irMakesSpec.pre enc Tryz.prog Tryz.f3 [] false w args ∧ laidMetH Tryz.prog laidL w) ∧ sizedMet enc Tryz.prog Tryz.f3 (OpenSpec.ofChange Rows.irMakesSpec) false w args)
      (Rows.irMakesSpec.post enc Tryz.prog Tryz.f3 false true false false) := by
  refine returnsInHanded_of_change_and (C := Tryz.checked) (X := fun w _ => laidMetH Tryz.prog laidL w) (fun _ _ _ hh h => h.of_heap hh) own started (by kernel_rfl) Tryz.func3
    (ChangeSpec.witness_shaped (enc := enc) (C := Tryz.checked) (os := os) (X := fun w _ => laidMetH Tryz.prog laidL w) false (World.doorLaid Tryz.prog 4000 os) #[.slice none 0 0, .int .i64 0] 8 rfl (World.shaped_of_RefB (by kernel_rfl) (by kernel_rfl)) (by kernel_rfl) (by kernel_rfl) (by kernel_rfl) (door_met os _)) ?_
  intro W base args ds gs before hval0 hW _ _ hL _
  have hT := of_laid hL
  have hval : ∀ (j : Nat) t v, Tryz.f3.params[j]? = some t → args[j]? = some v → Value.okWide Tryz.prog W .any base t v := hval0
  have hW' := hW
  obtain ⟨p, q, hA0, hV, rfl, hfz, hnd⟩ := hW
  have hA : DataW.TrodAll enc Tryz.prog W 0 (fun _ => true) true Tryz.f3.params.toList args.toList ds p := hA0
  rw [Tryz.params3] at hA hval
  obtain ⟨v0, vs0, d0, ds0, p0, q0, hargs, rfl, rfl, h0, r0⟩ := trodAll_cons hA
  obtain ⟨v1, vs1, d1, ds1, p1, q1, rfl, rfl, rfl, h1, r1⟩ := trodAll_cons r0
  obtain ⟨rfl, rfl, rfl⟩ := trodAll_nil r1
  obtain rfl : args = #[v0, v1] := by cases args; simp_all
  obtain ⟨rfl, rfl⟩ := trodVars_none hV
  have k0 := h0
  have lt0 : ∀ x ∈ p0, x.block < W.heap.size := by obtain ⟨m, hm⟩ := k0; exact DataW.trod_lt m _ _ _ hm
  obtain ⟨n0, hn0⟩ := h0
  obtain ⟨A0, m0, c0, xs0, rfl, hnc0, hmx0, hle0, hty0, hat0⟩ := openV0 (hval 0 22 v0 rfl rfl) hn0
  obtain ⟨a1, rfl, rfl, rfl, w1⟩ := open_int Tryz.underlying3 (hval 1 3 v1 rfl rfl) h1
  clear hA0 hval0
  refine (Go.Mk.fn3 A0 m0 c0 xs0 a1 ⟨A0, m0, c0, xs0, rfl, rfl, rfl, hle0, hnc0, hmx0, by decide, hty0, hat0⟩ hmx0 (i64_bd w1).1 (i64_bd w1).2 hT).mono fun e W' ⟨he, bel⟩ => ?_
  subst he
  exact ⟨_, rfl, _, _, _, [], _, [], hW', trodAll_mk1 (shut_bool Tryz.underlying4 _), (trodAll_cons_mk (Below.trod laidOut (by kernel_rfl) (of_decide_eq_true (by kernel_rfl)) k0 bel lt0) (trodAll_cons_mk (shut_int Tryz.underlying3 w1) trodAll_mk0)), rfl, bel.frame _, fun h => by cases h⟩

theorem over : Rows.IrMakesSaid :=
  OpenClaim.holds_of_wide 3 Tryz.f3 rfl rfl rfl rfl rfl rfl rfl ⟨rfl, rfl, rfl, rfl, rfl⟩ rfl rfl rfl rfl rfl (by kernel_rfl) Tryz.func3 (by kernel_rfl)
    (of_decide_eq_true (by kernel_rfl)) (by unfold Func.isWrapper; first | (rw [if_pos (by decide +kernel)]; kernel_rfl) | (rw [if_neg (by decide +kernel)]; exact ⟨rfl, rfl⟩))
    (fun os started H enc _ => lifted os started H enc)

theorem proved : Rows.IrMakesCardSaid :=
  Claim7.holds_tied_plain_at .later [] [.data, .data, .data, .listed, .data] true (true, "f9d34cc89f063903f7e8f4471bdaddd5252ab38d943da4477a716dbef36e1616") false
    over (fun _ h => by cases h) (by kernel_rfl) (fun _ h => by cases h) irMakes_row_tie rfl ⟨rfl, rfl⟩ (by kernel_rfl) rfl
    (fun f fn hf hfn => by
      obtain rfl : f = 3 := Option.some.inj ((show Tryz.prog.funcNamed "calque/calquelaw13.IrMakes" = some 3 by kernel_rfl).symm.trans hf) |>.symm
      obtain rfl : fn = Tryz.f3 := (Option.some.inj (Tryz.func3.symm.trans hfn)).symm
      exact ⟨by kernel_rfl, fun j t ht => by
        rw [Tryz.params3] at ht
        have hm : t ∈ [22, 3] := by simpa using Array.mem_of_getElem? ht
        have hall : ([22, 3].all fun u => !Tryz.prog.wantsStandIn u) = true := by kernel_rfl
        exact (show Tryz.prog.wantsStandIn t = false by simpa using List.all_eq_true.1 hall t hm)⟩)
    (by kernel_rfl)
#print axioms proved
end Go.Proofs.YtfcddhicklhefaaGreatDoor.irMakes
