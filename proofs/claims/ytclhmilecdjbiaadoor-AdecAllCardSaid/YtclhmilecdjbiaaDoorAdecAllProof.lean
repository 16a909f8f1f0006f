/- Proved: for every slice of instructions and every slice of words, calquelaw21.AdecAll returns true and changes nothing that was there. Condition: the library's and the project's laid tables (math/bits.deBruijn32tab, deBruijn64tab, internal/strconv.uint64pow10, unicode.White_Space, strings.asciiSpace, calque/a64.bases) stand as the program's text lays them, tied by the card. -/
import Derived.Test.YtclhmilecdjbiaaDoorRows
import Derived.Test.YtclhmilecdjbiaaDoorCards
import Derived.Test.YtclhmilecdjbiaaDoorTie
import Derived.Test.YtclhmilecdjbiaaDoorQyn
import Derived.Test.YtclhmilecdjbiaaDoorSXfq
import Derived.Deep.Fields
import Derived.Deep.Slices
import Derived.WalkKit
import Derived.ProofKit
import Derived.LaidMore
import Derived.OpenShut
import Derived.ShutString
import Derived.ChangeOld
import Derived.Below
import Derived.Lib.SmallJoins
import Derived.Stop.Joined
import Derived.Stop.LaidErr
import Derived.SevenTiedAt
import Derived.Lib.LaidTab
namespace Go.Proofs.YtclhmilecdjbiaaDoor.adecAll
open Go.ChangeShapes Go.WideShapes Go.ChangeAt Go.WideMaps Go.WideElems Go.RowKit Go.Joins
set_option linter.unusedVariables false

theorem own : ownKnob Tryd.prog.godebug = none := by kernel_rfl
theorem laidOut : laidOutB Tryd.prog = true := by kernel_rfl
theorem u64_bd {n : Int} (h : (Lit.int .u64 n).wf = true) : 0 ≤ n ∧ n ≤ 18446744073709551615 := by
  simp [Lit.wf, IntKind.min, IntKind.max, IntKind.bits, IntKind.signed] at h; omega
theorem u32_bd {n : Int} (h : (Lit.int .u32 n).wf = true) : 0 ≤ n ∧ n ≤ 4294967295 := by
  simp [Lit.wf, IntKind.min, IntKind.max, IntKind.bits, IntKind.signed] at h; omega
theorem i64_bd {n : Int} (h : (Lit.int .i64 n).wf = true) : -9223372036854775808 ≤ n ∧ n ≤ 9223372036854775807 := by
  simp [Lit.wf, IntKind.min, IntKind.max, IntKind.bits, IntKind.signed] at h; omega
def ss0 : List SX.So := [.int .i64, .int .i64, .int .i64, .int .i64, .int .i64, .int .i64, .int .u64, .int .i64, .int .i64, .int .i64, .int .i64]
theorem flat0 : SX.flatSo Tryd.prog 12 24 = some ss0 := by kernel_rfl
theorem cells0 : Tryd.prog.cellsOf 24 = 11 := by kernel_rfl
theorem add_at0 (b off i j : Nat) : ((⟨b, off, none⟩ : Addr).add (i * 11)).add j = ⟨b, off + (i * 11 + j), none⟩ := by
  rw [Go.Deep.add_add]
  unfold Addr.add
  split
  · rename_i h
    rw [h, Nat.add_zero]
  · rfl
set_option maxRecDepth 100000 in
theorem openV0 {H : Type} {enc : TypeId × Value → H} {W : World} {base b0 fuel : Nat} {v : Value} {x : DataW H × List MemPlace} (hok : Value.okWide Tryd.prog W .any b0 37 v)
    (h : DataW.trod enc Tryd.prog W base (fun _ => true) true fuel 37 v.cells.toList = some x) : ∃ A n c, ∃ vs : List Value, v = .slice A n c ∧ n ≤ c ∧ n ≤ 9223372036854775807 ∧ vs.length = n * 11 ∧
      (∀ i u, vs[i]? = some u → (ss0.getD (i % 11) .any).has u) ∧
      ((A = none ∧ n = 0 ∧ c = 0) ∨ ∃ b off, A = some ⟨b, off, none⟩ ∧ b < W.heap.size ∧ ∀ i u, vs[i]? = some u → W.cell? ⟨b, off + i, none⟩ = some u) := by
  obtain ⟨A, n, c, rfl⟩ := okWide_slice Tryd.underlying37 hok
  have hcs : (Value.slice A n c).cells.toList = [.slice A n c] := rfl
  rw [hcs] at h
  rcases Go.Deep.open_slice Tryd.underlying37 h with ⟨he, _⟩ | ⟨a, len, cap, m, k, D, Pl, he, hb, hl, hm, hmm, _, hi⟩
  · simp only [List.cons.injEq, Value.slice.injEq, and_true] at he
    obtain ⟨rfl, rfl, rfl⟩ := he
    exact ⟨none, 0, 0, [], rfl, Nat.le_refl _, by omega, rfl, fun i u hu => by simp at hu, .inl ⟨rfl, rfl, rfl⟩⟩
  · simp only [List.cons.injEq, Value.slice.injEq, and_true] at he
    obtain ⟨rfl, rfl, rfl⟩ := he
    have hok' : Cell.ok Tryd.prog W .any b0 37 (.slice (some a) n c) := by
      unfold Value.okWide at hok
      rw [Tryd.underlying37] at hok
      unfold Cell.okWide at hok
      rw [Tryd.underlying37] at hok
      exact hok
    unfold Cell.ok at hok'
    rw [Tryd.underlying37] at hok'
    obtain ⟨_, hmax, _, hsp, row, cells, hshape, _⟩ := hok'
    have hmax : (c : Int) ≤ 9223372036854775807 := hmax
    obtain ⟨b, off, spot⟩ := a
    simp only at hsp
    subst hsp
    have hbl : b < W.heap.size := by
      unfold World.shape? at hshape
      cases hq : W.heap[b]? with
      | none => simp only [hq] at hshape; simp at hshape
      | some o => exact (Array.getElem?_eq_some_iff.1 hq).1
    have key : ∀ t, t < n * 11 → ∃ u, W.cell? ⟨b, off + t, none⟩ = some u ∧ (ss0.getD (t % 11) .any).has u := by
      intro t ht
      obtain ⟨cs', h1, h2⟩ := hi (t / 11) (by rw [hmm]; simp only [if_true]; omega)
      rw [cells0] at h1
      obtain ⟨_, hlen, hcell⟩ := World.cells?_some h1
      have hall := SX.flat_has 12 k 24 ss0 cs' _ flat0 h2
      have hg := SX.all2_get hall (t % 11)
      have hc := hcell (t % 11) (by omega)
      rw [add_at0, show t / 11 * 11 + t % 11 = t by omega, List.getElem?_eq_getElem (by omega)] at hc
      rw [show cs'.getD (t % 11) undef = cs'[t % 11]'(by omega) from by rw [List.getD_eq_getElem?_getD, List.getElem?_eq_getElem (by omega)]; rfl] at hg
      exact ⟨_, hc, hg⟩
    refine ⟨_, n, c, (List.range (n * 11)).map fun t => (W.cell? ⟨b, off + t, none⟩).getD undef, rfl, hl, by omega, by simp, fun i u hu => ?_, .inr ⟨b, off, rfl, hbl, fun i u hu => ?_⟩⟩
    · have hi' : i < n * 11 := by have := (List.getElem?_eq_some_iff.1 hu).1; simpa using this
      obtain ⟨w, hw1, hw2⟩ := key i hi'
      rw [List.getElem?_map, List.getElem?_range hi'] at hu
      simp only [Option.map_some, Option.some.injEq, hw1, Option.getD_some] at hu
      rw [← hu]
      exact hw2
    · have hi' : i < n * 11 := by have := (List.getElem?_eq_some_iff.1 hu).1; simpa using this
      obtain ⟨w, hw1, hw2⟩ := key i hi'
      rw [List.getElem?_map, List.getElem?_range hi'] at hu
      simp only [Option.map_some, Option.some.injEq, hw1, Option.getD_some] at hu
      rw [← hu]
      exact hw1
def ss1 : List SX.So := [.int .u32]
theorem flat1 : SX.flatSo Tryd.prog 12 27 = some ss1 := by kernel_rfl
theorem cells1 : Tryd.prog.cellsOf 27 = 1 := by kernel_rfl
theorem add_at1 (b off i j : Nat) : ((⟨b, off, none⟩ : Addr).add (i * 1)).add j = ⟨b, off + (i * 1 + j), none⟩ := by
  rw [Go.Deep.add_add]
  unfold Addr.add
  split
  · rename_i h
    rw [h, Nat.add_zero]
  · rfl
set_option maxRecDepth 100000 in
theorem openV1 {H : Type} {enc : TypeId × Value → H} {W : World} {base b0 fuel : Nat} {v : Value} {x : DataW H × List MemPlace} (hok : Value.okWide Tryd.prog W .any b0 39 v)
    (h : DataW.trod enc Tryd.prog W base (fun _ => true) true fuel 39 v.cells.toList = some x) : ∃ A n c, ∃ vs : List Value, v = .slice A n c ∧ n ≤ c ∧ n ≤ 9223372036854775807 ∧ vs.length = n * 1 ∧
      (∀ i u, vs[i]? = some u → (ss1.getD (i % 1) .any).has u) ∧
      ((A = none ∧ n = 0 ∧ c = 0) ∨ ∃ b off, A = some ⟨b, off, none⟩ ∧ b < W.heap.size ∧ ∀ i u, vs[i]? = some u → W.cell? ⟨b, off + i, none⟩ = some u) := by
  obtain ⟨A, n, c, rfl⟩ := okWide_slice Tryd.underlying39 hok
  have hcs : (Value.slice A n c).cells.toList = [.slice A n c] := rfl
  rw [hcs] at h
  rcases Go.Deep.open_slice Tryd.underlying39 h with ⟨he, _⟩ | ⟨a, len, cap, m, k, D, Pl, he, hb, hl, hm, hmm, _, hi⟩
  · simp only [List.cons.injEq, Value.slice.injEq, and_true] at he
    obtain ⟨rfl, rfl, rfl⟩ := he
    exact ⟨none, 0, 0, [], rfl, Nat.le_refl _, by omega, rfl, fun i u hu => by simp at hu, .inl ⟨rfl, rfl, rfl⟩⟩
  · simp only [List.cons.injEq, Value.slice.injEq, and_true] at he
    obtain ⟨rfl, rfl, rfl⟩ := he
    have hok' : Cell.ok Tryd.prog W .any b0 39 (.slice (some a) n c) := by
      unfold Value.okWide at hok
      rw [Tryd.underlying39] at hok
      unfold Cell.okWide at hok
      rw [Tryd.underlying39] at hok
      exact hok
    unfold Cell.ok at hok'
    rw [Tryd.underlying39] at hok'
    obtain ⟨_, hmax, _, hsp, row, cells, hshape, _⟩ := hok'
    have hmax : (c : Int) ≤ 9223372036854775807 := hmax
    obtain ⟨b, off, spot⟩ := a
    simp only at hsp
    subst hsp
    have hbl : b < W.heap.size := by
      unfold World.shape? at hshape
      cases hq : W.heap[b]? with
      | none => simp only [hq] at hshape; simp at hshape
      | some o => exact (Array.getElem?_eq_some_iff.1 hq).1
    have key : ∀ t, t < n * 1 → ∃ u, W.cell? ⟨b, off + t, none⟩ = some u ∧ (ss1.getD (t % 1) .any).has u := by
      intro t ht
      obtain ⟨cs', h1, h2⟩ := hi (t / 1) (by rw [hmm]; simp only [if_true]; omega)
      rw [cells1] at h1
      obtain ⟨_, hlen, hcell⟩ := World.cells?_some h1
      have hall := SX.flat_has 12 k 27 ss1 cs' _ flat1 h2
      have hg := SX.all2_get hall (t % 1)
      have hc := hcell (t % 1) (by omega)
      rw [add_at1, show t / 1 * 1 + t % 1 = t by omega, List.getElem?_eq_getElem (by omega)] at hc
      rw [show cs'.getD (t % 1) undef = cs'[t % 1]'(by omega) from by rw [List.getD_eq_getElem?_getD, List.getElem?_eq_getElem (by omega)]; rfl] at hg
      exact ⟨_, hc, hg⟩
    refine ⟨_, n, c, (List.range (n * 1)).map fun t => (W.cell? ⟨b, off + t, none⟩).getD undef, rfl, hl, by omega, by simp, fun i u hu => ?_, .inr ⟨b, off, rfl, hbl, fun i u hu => ?_⟩⟩
    · have hi' : i < n * 1 := by have := (List.getElem?_eq_some_iff.1 hu).1; simpa using this
      obtain ⟨w, hw1, hw2⟩ := key i hi'
      rw [List.getElem?_map, List.getElem?_range hi'] at hu
      simp only [Option.map_some, Option.some.injEq, hw1, Option.getD_some] at hu
      rw [← hu]
      exact hw2
    · have hi' : i < n * 1 := by have := (List.getElem?_eq_some_iff.1 hu).1; simpa using this
      obtain ⟨w, hw1, hw2⟩ := key i hi'
      rw [List.getElem?_map, List.getElem?_range hi'] at hu
      simp only [Option.map_some, Option.some.injEq, hw1, Option.getD_some] at hu
      rw [← hu]
      exact hw1
abbrev laidL {H : Type} : List (String × DataW H) := [("math/bits.deBruijn32tab", Rows.laid_math_bits_deBruijn32tab), ("math/bits.deBruijn64tab", Rows.laid_math_bits_deBruijn64tab), ("internal/strconv.uint64pow10", Rows.laid_internal_strconv_uint64pow10), ("unicode.White_Space", Rows.laid_unicode_White_Space), ("strings.asciiSpace", Rows.laid_strings_asciiSpace), ("calque/a64.bases", Rows.laid_calque_a64_bases)]
theorem door_met (os : Os) (args : Array Value) : laidMetH Tryd.prog laidL ((World.doorLaid Tryd.prog 4000 os).forCall (fun _ _ => 0) ⟨#[], args, []⟩).memory :=
  laidMetH_of_parts3 (fuel := 8) (laidMet_of_run' 8 (by kernel_rfl) (by kernel_rfl)) (by kernel_rfl) (by kernel_rfl)
theorem tab_eq0 : (Rows.laid_calque_a64_bases : DataW Unit) = Lib.tabData .u32 basesL := by kernel_rfl
theorem tab_eq1 : (Rows.laid_strings_asciiSpace : DataW Unit) = Lib.tabData .u8 asciiL := by kernel_rfl
theorem tab_eq2 : (Rows.laid_internal_strconv_uint64pow10 : DataW Unit) = Lib.tabData .u64 pow10L := by kernel_rfl
theorem tab_eq3 : (Rows.laid_math_bits_deBruijn32tab : DataW Unit) = Lib.tabData .u8 bru32L := by kernel_rfl
theorem tab_eq4 : (Rows.laid_math_bits_deBruijn64tab : DataW Unit) = Lib.tabData .u8 bru64L := by kernel_rfl
theorem of_laid {W : World} (h : laidMetH Tryd.prog laidL W) : TabsA W := by
  rw [MakeChecks.laidMetH_plain _ _ _ (by kernel_rfl)] at h
  exact ⟨by
    have h : laidMet Tryd.prog (("calque/a64.bases", Rows.laid_calque_a64_bases) :: _) W := h.tail.tail.tail.tail.tail
    rw [tab_eq0] at h
    exact Lib.tabIs_of_head (g := (Tryd.prog.globalNamed "calque/a64.bases").getD 0) (by kernel_rfl) (by kernel_rfl) Tryd.underlying58 Tryd.underlying27 (by kernel_rfl) (by kernel_rfl) h,
    by
    have h : laidMet Tryd.prog (("strings.asciiSpace", Rows.laid_strings_asciiSpace) :: _) W := h.tail.tail.tail.tail
    rw [tab_eq1] at h
    exact Lib.tabIs_of_head (g := (Tryd.prog.globalNamed "strings.asciiSpace").getD 0) (by kernel_rfl) (by kernel_rfl) Tryd.underlying91 Tryd.underlying5 (by kernel_rfl) (by kernel_rfl) h,
    by
    have h : laidMet Tryd.prog (("internal/strconv.uint64pow10", Rows.laid_internal_strconv_uint64pow10) :: _) W := h.tail.tail
    rw [tab_eq2] at h
    exact Lib.tabIs_of_head (g := (Tryd.prog.globalNamed "internal/strconv.uint64pow10").getD 0) (by kernel_rfl) (by kernel_rfl) Tryd.underlying135 Tryd.underlying22 (by kernel_rfl) (by kernel_rfl) h,
    by
    have h : laidMet Tryd.prog (("math/bits.deBruijn32tab", Rows.laid_math_bits_deBruijn32tab) :: _) W := h
    rw [tab_eq3] at h
    exact Lib.tabIs_of_head (g := (Tryd.prog.globalNamed "math/bits.deBruijn32tab").getD 0) (by kernel_rfl) (by kernel_rfl) Tryd.underlying139 Tryd.underlying5 (by kernel_rfl) (by kernel_rfl) h,
    by
    have h : laidMet Tryd.prog (("math/bits.deBruijn64tab", Rows.laid_math_bits_deBruijn64tab) :: _) W := h.tail
    rw [tab_eq4] at h
    exact Lib.tabIs_of_head (g := (Tryd.prog.globalNamed "math/bits.deBruijn64tab").getD 0) (by kernel_rfl) (by kernel_rfl) Tryd.underlying140 Tryd.underlying5 (by kernel_rfl) (by kernel_rfl) h⟩

set_option maxRecDepth 100000 in
theorem lifted (os : Os) (started : os.Started) (H : Type) (enc : TypeId × Value → H) :
    ReturnsInHanded {} Tryd.checked os 8 .any (fun w args => (Rows.adecAllSpec.pre enc Tryd.prog Tryd.f8 [] false w args ∧ laidMetH Tryd.prog laidL w) ∧ sizedMet enc Tryd.prog Tryd.f8 (OpenSpec.ofChange Rows.adecAllSpec) false w args)
      (Rows.adecAllSpec.post enc Tryd.prog Tryd.f8 false true false false) := by
  refine returnsInHanded_of_change_and (C := Tryd.checked) (X := fun w _ => laidMetH Tryd.prog laidL w) (fun _ _ _ hh h => h.of_heap hh) own started (by kernel_rfl) Tryd.func8
    (ChangeSpec.witness_shaped (enc := enc) (C := Tryd.checked) (os := os) (X := fun w _ => laidMetH Tryd.prog laidL w) false (World.doorLaid Tryd.prog 4000 os) #[.slice none 0 0, .slice none 0 0] 8 rfl (World.shaped_of_RefB (by kernel_rfl) (by kernel_rfl)) (by kernel_rfl) (by kernel_rfl) (by kernel_rfl) (door_met os _)) ?_
  intro W base args ds gs before hval0 hW _ _ hL _
  have hT := of_laid hL
  have hval : ∀ (j : Nat) t v, Tryd.f8.params[j]? = some t → args[j]? = some v → Value.okWide Tryd.prog W .any base t v := hval0
  have hW' := hW
  obtain ⟨p, q, hA0, hV, rfl, hfz, hnd⟩ := hW
  have hA : DataW.TrodAll enc Tryd.prog W 0 (fun _ => true) true Tryd.f8.params.toList args.toList ds p := hA0
  rw [Tryd.params8] at hA hval
  obtain ⟨v0, vs0, d0, ds0, p0, q0, hargs, rfl, rfl, h0, r0⟩ := trodAll_cons hA
  obtain ⟨v1, vs1, d1, ds1, p1, q1, rfl, rfl, rfl, h1, r1⟩ := trodAll_cons r0
  obtain ⟨rfl, rfl, rfl⟩ := trodAll_nil r1
  obtain rfl : args = #[v0, v1] := by cases args; simp_all
  obtain ⟨rfl, rfl⟩ := trodVars_none hV
  have k0 := h0
  have lt0 : ∀ x ∈ p0, x.block < W.heap.size := by obtain ⟨m, hm⟩ := k0; exact DataW.trod_lt m _ _ _ hm
  obtain ⟨n0, hn0⟩ := h0
  obtain ⟨A0, m0, c0, xs0, rfl, hnc0, hmx0, hle0, hty0, hat0⟩ := openV0 (hval 0 37 v0 rfl rfl) hn0
  have k1 := h1
  have lt1 : ∀ x ∈ p1, x.block < W.heap.size := by obtain ⟨m, hm⟩ := k1; exact DataW.trod_lt m _ _ _ hm
  obtain ⟨n1, hn1⟩ := h1
  obtain ⟨A1, m1, c1, xs1, rfl, hnc1, hmx1, hle1, hty1, hat1⟩ := openV1 (hval 1 39 v1 rfl rfl) hn1
  clear hA0 hval0
  refine (law_alls hmx0 hle0 hty0 hmx1 hle1 hty1 W hat0 hat1 hT).mono fun e W' ⟨he, bel⟩ => ?_
  subst he
  exact ⟨_, rfl, _, _, _, [], _, [], hW', trodAll_mk1 (shut_bool Tryd.underlying4 _), (trodAll_cons_mk (Below.trod laidOut (by kernel_rfl) (of_decide_eq_true (by kernel_rfl)) k0 bel lt0) (trodAll_cons_mk (Below.trod laidOut (by kernel_rfl) (of_decide_eq_true (by kernel_rfl)) k1 bel lt1) trodAll_mk0)), rfl, bel.frame _, fun h => by cases h⟩

theorem over : Rows.AdecAllSaid :=
  OpenClaim.holds_of_wide 8 Tryd.f8 rfl rfl rfl rfl rfl rfl rfl ⟨rfl, rfl, rfl, rfl, rfl⟩ rfl rfl rfl rfl rfl (by kernel_rfl) Tryd.func8 (by kernel_rfl)
    (of_decide_eq_true (by kernel_rfl)) (by unfold Func.isWrapper; first | (rw [if_pos (by decide +kernel)]; kernel_rfl) | (rw [if_neg (by decide +kernel)]; exact ⟨rfl, rfl⟩))
    (fun os started H enc _ => lifted os started H enc)

theorem proved : Rows.AdecAllCardSaid :=
  Claim7.holds_tied_plain_at .later [] [.data, .data, .data, .listed, .data, .data] true (true, "0ad713072bb0cd050e23f301bc4a5d6e9b1caef067f9dab051287648c752efdc") false
    over (fun _ h => by cases h) (by kernel_rfl) (fun _ h => by cases h) adecAll_row_tie rfl ⟨rfl, rfl⟩ (by kernel_rfl) rfl
    (fun f fn hf hfn => by
      obtain rfl : f = 8 := Option.some.inj ((show Tryd.prog.funcNamed "calque/calquelaw21.AdecAll" = some 8 by kernel_rfl).symm.trans hf) |>.symm
      obtain rfl : fn = Tryd.f8 := (Option.some.inj (Tryd.func8.symm.trans hfn)).symm
      exact ⟨by kernel_rfl, fun j t ht => by
        rw [Tryd.params8] at ht
        have hm : t ∈ [37, 39] := by simpa using Array.mem_of_getElem? ht
        have hall : ([37, 39].all fun u => !Tryd.prog.wantsStandIn u) = true := by kernel_rfl
        exact (show Tryd.prog.wantsStandIn t = false by simpa using List.all_eq_true.1 hall t hm)⟩)
    (by kernel_rfl)
#print axioms proved
end Go.Proofs.YtclhmilecdjbiaaDoor.adecAll
