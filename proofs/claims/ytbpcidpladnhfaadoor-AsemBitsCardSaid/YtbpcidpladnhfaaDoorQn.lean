/- Layer 20: May, Encode and Show, of the code and of the document: what they answer, whatever the instruction. -/
import Derived.Test.YtbpcidpladnhfaaDoorQm0
import Derived.Test.YtbpcidpladnhfaaDoorQm1
import Derived.Test.YtbpcidpladnhfaaDoorQm2
import Derived.Test.YtbpcidpladnhfaaDoorQm3
import Derived.Test.YtbpcidpladnhfaaDoorQm4
import Derived.Test.YtbpcidpladnhfaaDoorQm5
import Derived.Test.YtbpcidpladnhfaaDoorQm6
import Derived.Test.YtbpcidpladnhfaaDoorQm7
import Derived.Test.YtbpcidpladnhfaaDoorQm8
import Derived.Test.YtbpcidpladnhfaaDoorQm9
namespace Go.Proofs.YtbpcidpladnhfaaDoor
open Go Go.Proofs Go.RowKit Go.CX Go.SX
def insts : List (Nat × Nat) := [(1, 8), (2, 8), (3, 8), (4, 8), (5, 8), (6, 8), (7, 8), (8, 8), (9, 8), (10, 8), (11, 8), (12, 8), (13, 8), (14, 8), (15, 8), (16, 8), (17, 8), (18, 8), (19, 8), (20, 8), (21, 8), (22, 8), (23, 8), (24, 8), (25, 8), (26, 8), (27, 8), (28, 8), (29, 8), (30, 8), (31, 8), (32, 8), (33, 1), (33, 2), (33, 4), (33, 8), (34, 1), (34, 2), (34, 4), (34, 8), (35, 1), (35, 2), (35, 4), (35, 8), (36, 1), (36, 2), (36, 4), (36, 8), (37, 1), (37, 2), (37, 4), (37, 8), (38, 1), (38, 2), (38, 4), (38, 8), (39, 9), (39, 10), (39, 11), (40, 8), (41, 8), (42, 8), (43, 8), (44, 8), (45, 8), (46, 8), (47, 8)]
theorem insts_ok : AllI insts := ⟨inst_1_8, inst_2_8, inst_3_8, inst_4_8, inst_5_8, inst_6_8, inst_7_8, inst_8_8, inst_9_8, inst_10_8, inst_11_8, inst_12_8, inst_13_8, inst_14_8, inst_15_8, inst_16_8, inst_17_8, inst_18_8, inst_19_8, inst_20_8, inst_21_8, inst_22_8, inst_23_8, inst_24_8, inst_25_8, inst_26_8, inst_27_8, inst_28_8, inst_29_8, inst_30_8, inst_31_8, inst_32_8, inst_33_1, inst_33_2, inst_33_4, inst_33_8, inst_34_1, inst_34_2, inst_34_4, inst_34_8, inst_35_1, inst_35_2, inst_35_4, inst_35_8, inst_36_1, inst_36_2, inst_36_4, inst_36_8, inst_37_1, inst_37_2, inst_37_4, inst_37_8, inst_38_1, inst_38_2, inst_38_4, inst_38_8, inst_39_9, inst_39_10, inst_39_11, inst_40_8, inst_41_8, inst_42_8, inst_43_8, inst_44_8, inst_45_8, inst_46_8, inst_47_8, trivial⟩
theorem nots_ok : AllN [1, 2, 3, 4, 5, 6, 7, 8, 9, 10, 11, 12, 13, 14, 15, 16, 17, 18, 19, 20, 21, 22, 23, 24, 25, 26, 27, 28, 29, 30, 31, 32, 33, 34, 35, 36, 37, 38, 39, 40, 41, 42, 43, 44, 45, 46, 47] := ⟨no_1, no_2, no_3, no_4, no_5, no_6, no_7, no_8, no_9, no_10, no_11, no_12, no_13, no_14, no_15, no_16, no_17, no_18, no_19, no_20, no_21, no_22, no_23, no_24, no_25, no_26, no_27, no_28, no_29, no_30, no_31, no_32, no_33, no_34, no_35, no_36, no_37, no_38, no_39, no_40, no_41, no_42, no_43, no_44, no_45, no_46, no_47, trivial⟩
theorem insts_in : ∀ p ∈ insts, 1 ≤ p.1 ∧ p.1 ≤ 47 ∧ (p.1 = 39 → p.2 = 9 ∨ p.2 = 10 ∨ p.2 = 11) ∧ (p.1 ≠ 39 → p.2 ∈ widths p.1) := by decide
theorem insts_ofB : ((List.range 48).all fun k => Nat.beq k 0 || (Nat.beq k 39 || (widths k).all fun m => insts.contains (k, m))) = true := by decide +kernel
theorem insts_of (k : Nat) (h : k < 48) (h1 : 1 ≤ k) (h39 : k ≠ 39) (m : Nat) (hm : m ∈ widths k) : (k, m) ∈ insts := by
  have := List.all_eq_true.1 insts_ofB k (List.mem_range.2 h)
  rw [nbeq_no (by omega), nbeq_no h39, Bool.false_or, Bool.false_or] at this
  have := List.all_eq_true.1 this m hm
  exact List.contains_iff_mem.1 this
/-- An instruction is of this kind. -/
def Mt (fl : List Value) (op m : Nat) : Prop := fl.getD 0 undef = .int .i64 (Int.ofNat op) ∧ fl.getD 1 undef = .int .i64 (Int.ofNat (A64.wid op m)) ∧ (op = 39 → fl.getD 6 undef = .int .u64 (Int.ofNat m))
/-- It is of this kind, and all that is asked of it holds. -/
def Is (fl : List Value) (op m : Nat) : Prop := (op, m) ∈ insts ∧ Mt fl op m ∧ Conds.are (rhoE fl) phE (A64.conds op m)
def Ok (fl : List Value) : Prop := ∃ op m, Is fl op m
noncomputable def okB (fl : List Value) : Bool := open Classical in decide (Ok fl)
theorem okB_yes {fl : List Value} (h : Ok fl) : okB fl = true := by unfold okB; simp [h]
theorem okB_no {fl : List Value} (h : ¬ Ok fl) : okB fl = false := by unfold okB; simp [h]
theorem okB_iff {fl : List Value} : okB fl = true ↔ Ok fl := by unfold okB; simp
theorem nat_eq {k : IntKind} {a b : Nat} (h : Value.int k (Int.ofNat a) = .int k (Int.ofNat b)) : a = b := by
  injection h with _ h
  exact Int.ofNat.inj h
theorem mt_one {fl : List Value} {op m op' m' : Nat} (h : Mt fl op m) (h' : Mt fl op' m') : op = op' ∧ m = m' := by
  have h0 := nat_eq (h.1.symm.trans h'.1)
  subst h0
  refine ⟨rfl, ?_⟩
  by_cases h39 : op = 39
  · exact nat_eq ((h.2.2 h39).symm.trans (h'.2.2 h39))
  · have := nat_eq (h.2.1.symm.trans h'.2.1)
    unfold A64.wid at this
    have e : Nat.beq op 39 = false := nbeq_no h39
    simpa [e] using this
theorem is_iff {fl : List Value} {op m : Nat} (hi : (op, m) ∈ insts) (hm : Mt fl op m) : Ok fl ↔ Conds.are (rhoE fl) phE (A64.conds op m) := by
  constructor
  · rintro ⟨op', m', h1, h2, h3⟩
    obtain ⟨rfl, rfl⟩ := mt_one hm h2
    exact h3
  · intro h; exact ⟨op, m, hi, hm, h⟩
theorem cells_den {fl : List Value} {op m : Nat} (hs : All2 So.has ssE fl) (h : Mt fl op m) : (A64.cellsE op m).map (·.den (rhoE fl) phE) = fl := by
  obtain ⟨o, w, a, b, c, d, v, e, f, g, hh, rfl⟩ := cells11 hs
  obtain ⟨h0, h1, h2⟩ := h
  injection h0 with _ h0
  injection h1 with _ h1
  have h0 : o = Int.ofNat op := h0
  have h1 : w = Int.ofNat (A64.wid op m) := h1
  subst h0 h1
  by_cases h39 : op = 39
  · subst h39
    have h2 := h2 rfl
    injection h2 with _ h2
    have h2 : v = Int.ofNat m := h2
    subst h2
    rfl
  · have e : Nat.beq op 39 = false := nbeq_no h39
    unfold A64.cellsE
    rw [e]
    rfl
theorem start_hold {fl : List Value} {op m : Nat} (hs : All2 So.has ssE fl) (h : Mt fl op m) : Facts.hold (rhoE fl) phE (A64.start13 op m) := by
  have h0 : Facts.hold (rhoE fl) phE (A64.start op m) := by
    unfold A64.start
    by_cases h39 : op = 39
    · rw [h39]
      refine hold_cons _ ?_ hold_nil
      have h6 : rhoE fl 6 = .int .u64 (Int.ofNat m) := h.2.2 h39
      show Value.bool (vint (rhoE fl 6) == Int.ofNat m) = .bool true
      rw [h6]
      simp
    · have e : Nat.beq op 39 = false := nbeq_no h39
      rw [e]
      exact hold_nil
  unfold A64.start13
  split
  · exact hold_cons _ (enc13_hold hs _ (List.mem_singleton.2 rfl)) h0
  · exact h0
theorem args_is {fl : List Value} : ∀ {es : List E} {vs : List Value}, es.map (·.den (rhoE fl) phE) = vs → All2 (CX.SC.is (rhoE fl) phE fun _ => none) (es.map .e) vs := by
  intro es
  induction es with
  | nil => intro vs h; subst h; trivial
  | cons e es ih => intro vs h; subst h; exact ⟨rfl, ih rfl⟩
theorem argsE_is {fl : List Value} {es : List E} (he : es.map (·.den (rhoE fl) phE) = fl) : All2 (CX.SV.is (rhoE fl) phE fun _ => none) [.one ⟨true, es.map .e⟩] [.agg fl.toArray] := ⟨⟨fl, rfl, args_is he⟩, trivial⟩
/-- Both. -/
theorem inst_two {op m : Nat} (hi : (op, m) ∈ insts) : mayG 13 op m = true := by
  have := allI_mem insts_ok hi
  exact this
theorem may_kind {fl : List Value} (hs : All2 So.has ssE fl) {op m f : Nat} (hm : Mt fl op m) (h : mayG f op m = true) (hi : (op, m) ∈ insts) : ∀ w : World, TabsA w → Calls Tryd.prog f #[.agg fl.toArray] w fun e w' => e = .returned (.bool (okB fl)) ∧ Below w.heap.size w w' := by
  obtain ⟨b, hb, hc⟩ := mayC_ok (cx := cxE) rfl (namesOk_spec names_ok) (fitsE hs) (start_hold hs hm) (argsE_is (cells_den hs hm)) h
  have : b = okB fl := by
    rw [Bool.eq_iff_iff, hb, okB_iff, is_iff hi hm]
  subst this
  exact fun w hT => hc w (fun v hv => Or.inl (hT.vw v hv)) (extG_ok hT)
theorem may_never {fl : List Value} (hs : All2 So.has ssE fl) {es : List E} (he : es.map (·.den (rhoE fl) phE) = fl) {fs : Facts} (hf : fs.hold (rhoE fl) phE) (h : noG es fs = true) (hno : ¬ Ok fl) :
    ∀ w : World, TabsA w → (Calls Tryd.prog 13 #[.agg fl.toArray] w fun e w' => e = .returned (.bool (okB fl)) ∧ Below w.heap.size w w') := by
  unfold noG at h
  have key : ∀ {f : Nat}, mayC cxE extG 3000 0 f [.one ⟨true, es.map .e⟩] 60 fs [(.bool false, true)] = true → ∀ w : World, TabsA w → Calls Tryd.prog f #[.agg fl.toArray] w fun e w' => e = .returned (.bool (okB fl)) ∧ Below w.heap.size w w' := by
    intro f h
    obtain ⟨b, hb, hc⟩ := mayC_ok (cx := cxE) rfl (namesOk_spec names_ok) (fitsE hs) hf (argsE_is he) h
    have : b = okB fl := by
      rw [okB_no hno]
      cases b
      · rfl
      · have := hb.1 rfl _ (List.mem_singleton.2 rfl)
        cases this
    subst this
    exact fun w hT => hc w (fun v hv => Or.inl (hT.vw v hv)) (extG_ok hT)
  exact fun w hT => key h w hT
def Both (fl : List Value) : Prop := ∀ w : World, TabsA w → (Calls Tryd.prog 13 #[.agg fl.toArray] w fun e w' => e = .returned (.bool (okB fl)) ∧ Below w.heap.size w w')
theorem both_kind {fl : List Value} (hs : All2 So.has ssE fl) {op m : Nat} (hm : Mt fl op m) (hi : (op, m) ∈ insts) : Both fl := fun w hT => may_kind hs hm (inst_two hi) hi w hT
theorem mt_op {fl : List Value} (h : Ok fl) : ∃ op m, (op, m) ∈ insts ∧ Mt fl op m := by
  obtain ⟨op, m, h1, h2, _⟩ := h
  exact ⟨op, m, h1, h2⟩
theorem may_any {fl : List Value} (hs : All2 So.has ssE fl) : Both fl := by
  have hs' := hs
  obtain ⟨o, w, a, b, c, d, v, e, f, g, hh, rfl⟩ := cells11 hs
  by_cases hl : o < 1
  · refine may_never hs' rfl (hold_cons (opLt 1) (dTrue hl) hold_nil) no_less ?_
    rintro ⟨op, m, h1, h2, _⟩
    have h0 := h2.1
    injection h0 with _ h0
    have h0 : o = (op : Int) := h0
    have := (insts_in _ h1).1
    omega
  by_cases hg : 47 < o
  · refine may_never hs' rfl (hold_cons (opGt 47) (dTrue hg) hold_nil) no_more ?_
    rintro ⟨op, m, h1, h2, _⟩
    have h0 := h2.1
    injection h0 with _ h0
    have h0 : o = (op : Int) := h0
    have := (insts_in _ h1).2.1
    have : op ≤ 47 := this
    omega
  obtain ⟨k, rfl⟩ := Int.eq_ofNat_of_zero_le (show 0 ≤ o by omega)
  have k1 : 1 ≤ k := by omega
  have k2 : k ≤ 47 := by omega
  by_cases h39 : k = 39
  · subst h39
    by_cases hw : w = 8
    · subst hw
      have no : v < 9 ∨ 11 < v → ¬ Ok [.int .i64 (39 : Nat), .int .i64 8, a, b, c, d, .int .u64 v, e, f, g, hh] := by
        rintro hv ⟨op, m, h1, h2, _⟩
        have h0 := h2.1
        injection h0 with _ h0
        have h0 : op = 39 := (Int.ofNat.inj h0).symm
        subst h0
        have h6 := h2.2.2 rfl
        injection h6 with _ h6
        have h6 : v = (m : Int) := h6
        have := (insts_in _ h1).2.2.1 rfl
        have : m = 9 ∨ m = 10 ∨ m = 11 := this
        omega
      by_cases l : v < 9
      · exact may_never hs' rfl (hold_cons (immLt 9) (dTrue l) hold_nil) no_39l (no (Or.inl l))
      by_cases u : 11 < v
      · exact may_never hs' rfl (hold_cons (immGt 11) (dTrue u) hold_nil) no_39g (no (Or.inr u))
      obtain ⟨m, rfl⟩ := Int.eq_ofNat_of_zero_le (show 0 ≤ v by omega)
      have hm : m = 9 ∨ m = 10 ∨ m = 11 := by omega
      refine both_kind hs' (op := 39) (m := m) ⟨rfl, rfl, fun _ => rfl⟩ ?_
      rcases hm with rfl | rfl | rfl <;> decide
    · refine may_never hs' (es := esV 39) rfl (hold_cons (notW 8) (dFalse hw) hold_nil) (allN_mem nots_ok (k := 39) (by decide)) ?_
      rintro ⟨op, m, h1, h2, _⟩
      have h0 := h2.1
      injection h0 with _ h0
      have h0 : op = 39 := (Int.ofNat.inj h0).symm
      subst h0
      have h1 := h2.2.1
      injection h1 with _ h1
      exact hw h1
  · by_cases hw : ∃ m ∈ widths k, w = (m : Int)
    · obtain ⟨m, hm, rfl⟩ := hw
      refine both_kind hs' (op := k) (m := m) ⟨rfl, ?_, fun h => absurd h h39⟩ (insts_of k (by omega) k1 h39 m hm)
      have e : Nat.beq k 39 = false := nbeq_no h39
      unfold A64.wid
      rw [e]; rfl
    · have hno : ∀ m ∈ widths k, w ≠ (m : Int) := fun m hm e => hw ⟨m, hm, e⟩
      have hf : Facts.hold (rhoE [.int .i64 (k : Int), .int .i64 w, a, b, c, d, .int .u64 v, e, f, g, hh]) phE (notWs k) := by
        intro p hp
        obtain ⟨m, hm, rfl⟩ := List.mem_map.1 hp
        exact dFalse (hno m hm)
      refine may_never hs' (es := esV k) rfl hf (allN_mem nots_ok (k := k) ?_) ?_
      · have : ∀ k, k < 48 → 1 ≤ k → k ∈ [1, 2, 3, 4, 5, 6, 7, 8, 9, 10, 11, 12, 13, 14, 15, 16, 17, 18, 19, 20, 21, 22, 23, 24, 25, 26, 27, 28, 29, 30, 31, 32, 33, 34, 35, 36, 37, 38, 39, 40, 41, 42, 43, 44, 45, 46, 47] := by decide
        exact this k (by omega) k1
      · rintro ⟨op, m, h1, h2, _⟩
        have h0 := h2.1
        injection h0 with _ h0
        have h0 : op = k := (Int.ofNat.inj h0).symm
        subst h0
        have hw' := (insts_in _ h1).2.2.2 h39
        have h1 := h2.2.1
        injection h1 with _ h1
        have e : Nat.beq op 39 = false := nbeq_no h39
        unfold A64.wid at h1
        rw [e] at h1
        exact hno m hw' h1

theorem start_all {fl : List Value} (hs : All2 So.has ssE fl) {op m : Nat} (h : Is fl op m) : Facts.hold (rhoE fl) phE (addAll cxE (A64.conds op m) (A64.start13 op m)) :=
  addAll_hold (fitsE hs) (ctSound rfl) (start_hold hs h.2.1) h.2.2
theorem enters_may : Enters Tryd.prog 13 := enters Tryd.func13 (c := Tryd.f13.body.getD .skip) (by kernel_rfl) (by kernel_rfl)
/-- May as symbol 9. -/
def psE : List (Bool × List So) := [(true, ssE)]
theorem conMay_ok {cx : Cx} {φ : Nat → List Value → List Value} (hP : cx.P = Tryd.prog) (hφ : ∀ fl, φ 9 fl = [.bool (okB fl)]) {g : Nat} (hin : Enters Tryd.prog g) (hg : ∀ fl, All2 So.has ssE fl → ∀ w, TabsA w → Calls Tryd.prog g #[.agg fl.toArray] w fun e w' => e = .returned (.bool (okB fl)) ∧ Below w.heap.size w w') {w : World} (hT : TabsA w) : ExtOk ⟨w, cx.vw⟩ cx φ (conX cx ⟨g, 9, psE⟩) := by
  refine conX_okW ⟨by rw [hP]; exact hin, ?_⟩
  intro w xs fl hb hp
  match xs, hp with
  | [x], ⟨f1, f2, hf, hs, hx, h2⟩ =>
    have h2 : f2 = [] := h2
    subst h2
    rw [List.append_nil] at hf
    subst hf
    have hx : x = .agg fl.toArray := hx
    subst hx
    rw [hP, hφ]
    exact hg fl hs w (hT.same hb)
end Go.Proofs.YtbpcidpladnhfaaDoor
