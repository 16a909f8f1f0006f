import Derived.Test.YtbhhfbenajcinaaSXx
import Derived.KernelRfl
import Derived.Test.YtbhhfbenajcinaaMd
namespace Go.Proofs.Ytbhhfbenajcinaa
open Go Go.SX Go.Proofs
def bitE (f k : Nat) : E := .cmp .eql (.bin .rem .u32 (.shf .shr .u32 (.app f 0 (toL (varsE 20))) (.int .u64 (.ofNat k))) (.int .u32 (.ofNat 2))) (.int .u32 (.ofNat 1))
def CE (f d k : Nat) : E := if Nat.blt k 16 then .beq (bitE f k) (docE d k) else .not (bitE f k)
theorem set_same {ρ : Nat → Value} {φ : Nat → List Value → List Value} {l : List E} {v : Nat} {m : Int} (hv : asV ρ φ l v = .int .i64 m) : (l.set v (.int .i64 m)).map (·.den ρ φ) = l.map (·.den ρ φ) := by
  apply List.ext_getElem?
  intro i
  rw [List.getElem?_map, List.getElem?_map, List.getElem?_set]
  by_cases hi : v = i
  · subst hi
    by_cases hl : v < l.length
    · rw [if_pos rfl, if_pos hl]
      unfold asV at hv
      rw [List.getD_eq_getElem?_getD, List.getElem?_map] at hv
      rw [List.getElem?_eq_getElem hl] at hv ⊢
      simp only [Option.map_some, Option.getD_some] at hv ⊢
      rw [hv]
      rfl
    · rw [if_pos rfl, if_neg hl, List.getElem?_eq_none (by omega)]
  · rw [if_neg hi]
theorem i64_eq {ρ : Nat → Value} {v n : Nat} (h : ∃ m, ρ v = .int .i64 m) (he : (eqV v n).den ρ phB = .bool true) : ρ v = .int .i64 (.ofNat n) := by
  obtain ⟨m, hm⟩ := h
  simp only [eqV, lit, E.den, hm, icmp, vint_int, Value.bool.injEq, beq_iff_eq] at he
  rw [hm, he]
theorem kab_true {ρ : Nat → Value} (h3 : ∃ m, ρ 3 = .int .i64 m) (h9 : ∃ m, ρ 9 = .int .i64 m) : ∀ cs : List (Nat × Nat), (kabE cs).den ρ phB = .bool true → ∃ c ∈ cs, ρ 3 = .int .i64 (.ofNat c.1) ∧ ρ 9 = .int .i64 (.ofNat c.2)
  | [], h => by simp [kabE, E.den] at h
  | c :: cs, h => by
    obtain ⟨m3, e3⟩ := h3
    obtain ⟨m9, e9⟩ := h9
    have d3 : (eqV 3 c.1).den ρ phB = .bool (m3 == Int.ofNat c.1) := by simp only [eqV, lit, E.den, e3, icmp, vint_int]
    have d9 : (eqV 9 c.2).den ρ phB = .bool (m9 == Int.ofNat c.2) := by simp only [eqV, lit, E.den, e9, icmp, vint_int]
    simp only [kabE, E.den, d3, d9, vbool_bool] at h
    by_cases q3 : m3 = Int.ofNat c.1
    · by_cases q9 : m9 = Int.ofNat c.2
      · exact ⟨c, by simp, by rw [e3, q3], by rw [e9, q9]⟩
      · have q9 : (m9 == Int.ofNat c.2) = false := by rw [beq_eq_false_iff_ne]; exact q9
        simp only [q9, ite_self, vbool_bool, Bool.false_eq_true, if_false] at h
        obtain ⟨c', hc, h'⟩ := kab_true ⟨m3, e3⟩ ⟨m9, e9⟩ cs h
        exact ⟨c', by simp [hc], h'⟩
    · have q3 : (m3 == Int.ofNat c.1) = false := by rw [beq_eq_false_iff_ne]; exact q3
      simp only [q3, Bool.false_eq_true, if_false, vbool_bool] at h
      obtain ⟨c', hc, h'⟩ := kab_true ⟨m3, e3⟩ ⟨m9, e9⟩ cs h
      exact ⟨c', by simp [hc], h'⟩
theorem noCtC : CtSound cxI phB := noCt
theorem reg_sound {ρ : Nat → Value} (F : Fits ssI (symS syB) ρ phB) {op f d : Nat} {cs : List (Nat × Nat)} {w : Option Nat} (hop : ρ 0 = .int .i64 (.ofNat op)) (hm : mayV.den (asV ρ phB (varsE 20)) phB = .bool true)
    (hs : shOp op cs w = true) (hr : regOp f d op cs w = true) : ∀ k, k < 32 → (CE f d k).den (asV ρ phB (varsE 20)) phB = .bool true := by
  have hi : ∀ v, v < 20 → asV ρ phB (varsE 20) v = ρ v := fun v hv => asV_vars _ _ hv
  have isI : ∀ v, ssI.getD v .any = .int .i64 → ∃ m, ρ v = .int .i64 m := by
    intro v hv
    have h := F.var v
    rw [hv] at h
    obtain ⟨m, hm, _⟩ := h
    exact ⟨m, hm⟩
  have hsh := evS_at (cx := cxI) (N := 20) (v := 0) F noCt dsDMa (by decide) hop (by kernel_rfl) hs
  obtain ⟨ρ', hρ'⟩ : ∃ ρ', ρ' = asV ρ phB (varsE 20) := ⟨_, rfl⟩
  rw [← hρ'] at hsh hm ⊢
  have hi' : ∀ v, v < 20 → ρ' v = ρ v := fun v hv => by rw [hρ']; exact hi v hv
  have isI' : ∀ v, v < 20 → ssI.getD v .any = .int .i64 → ∃ m, ρ' v = .int .i64 m := fun v hv hs => by rw [hi' v hv]; exact isI v hs
  obtain ⟨m1, e1⟩ := isI' 1 (by decide) (by kernel_rfl)
  obtain ⟨m3, e3⟩ := isI' 3 (by decide) (by kernel_rfl)
  obtain ⟨m9, e9⟩ := isI' 9 (by decide) (by kernel_rfl)
  simp only [shp, E.den, hm, vbool_bool, if_true] at hsh
  have d1 : ∀ n, (eqV 1 n).den ρ' phB = .bool (m1 == Int.ofNat n) := fun n => by simp only [eqV, lit, E.den, e1, icmp, vint_int]
  have h13 : (m1 == Int.ofNat 3) = false := by
    cases hq : (m1 == Int.ofNat 3) with
    | false => rfl
    | true => rw [d1, hq] at hsh; simp at hsh
  rw [d1, h13] at hsh
  simp only [vbool_bool, Bool.false_eq_true, if_false] at hsh
  have hext : (extE w).den ρ' phB = .bool true := by
    obtain ⟨b, hb⟩ : ∃ b, (extE w).den ρ' phB = .bool b := by
      cases w with
      | none => exact ⟨true, rfl⟩
      | some w => exact ⟨_, d1 w⟩
    cases b with
    | true => exact hb
    | false => rw [hb] at hsh; simp at hsh
  rw [hext] at hsh
  simp only [vbool_bool, if_true] at hsh
  obtain ⟨c, hc, c3, c9⟩ := kab_true ⟨m3, e3⟩ ⟨m9, e9⟩ cs hsh
  have hrun := List.all_eq_true.1 hr c hc
  -- the arguments
  have a0 : asV ρ phB (asOp op) = ρ' := by rw [hρ']; exact asV_set (by rw [hi 0 (by decide)]; exact hop)
  have m0 : (asOp op).map (·.den ρ phB) = (varsE 20).map (·.den ρ phB) := set_same (by rw [hi 0 (by decide)]; exact hop)
  have a3 : asV ρ phB ((asOp op).set 3 (lit c.1)) = ρ' := (asV_set (by rw [a0]; exact c3)).trans a0
  have m3' : ((asOp op).set 3 (lit c.1)).map (·.den ρ phB) = (varsE 20).map (·.den ρ phB) := (set_same (by rw [a0]; exact c3)).trans m0
  have a9 : asV ρ phB (((asOp op).set 3 (lit c.1)).set 9 (lit c.2)) = ρ' := (asV_set (by rw [a3]; exact c9)).trans a3
  have m9' : (((asOp op).set 3 (lit c.1)).set 9 (lit c.2)).map (·.den ρ phB) = (varsE 20).map (·.den ρ phB) := (set_same (by rw [a3]; exact c9)).trans m3'
  have hA : asV ρ phB (runAs op c.1 c.2 w) = ρ' ∧ (runAs op c.1 c.2 w).map (·.den ρ phB) = (varsE 20).map (·.den ρ phB) ∧ (runAs op c.1 c.2 w).length = 20 := by
    cases w with
    | none => exact ⟨a9, m9', by simp [runAs, asOp, varsE]⟩
    | some w =>
      have cw : ρ' 1 = .int .i64 (.ofNat w) := i64_eq ⟨m1, e1⟩ hext
      exact ⟨(asV_set (by rw [a9]; exact cw)).trans a9, (set_same (by rw [a9]; exact cw)).trans m9', by simp [runAs, asOp, varsE]⟩
  obtain ⟨hA1, hA2, hA3⟩ := hA
  have hfs : Facts.hold ρ phB (runFs (runAs op c.1 c.2 w)) := by
    intro p hp
    simp only [runFs, List.mem_cons, List.not_mem_nil, or_false] at hp
    rcases hp with rfl | rfl
    · show (E.app 8 0 (toL (runAs op c.1 c.2 w))).den ρ phB = .bool true
      rw [← hm]
      simp only [mayV, E.den, toL_dens, hA2]
      rw [hρ', vars_dens]
    · show (eqV 1 3).den ρ phB = .bool false
      have e1' : ρ 1 = .int .i64 m1 := by rw [← hi' 1 (by decide)]; exact e1
      simp only [eqV, lit, E.den, e1', icmp, vint_int, h13]
  obtain ⟨w', hw', hys⟩ := evK_true (cx := cxI) F noCt dsDC hfs hrun
  rw [hA1] at hw'
  intro k hk
  have hy := hys (yV d k) (List.mem_map.2 ⟨k, List.mem_range.2 hk, rfl⟩)
  obtain ⟨ρ2, hρ2⟩ : ∃ ρ2, ρ2 = asV ρ phB (runAs op c.1 c.2 w ++ [w']) := ⟨_, rfl⟩
  rw [← hρ2] at hy
  have g1 : ∀ i, i < 20 → ρ2 i = ρ' i := by
    intro i hi
    rw [hρ2, ← hA1]
    unfold asV
    rw [List.getD_eq_getElem?_getD, List.getD_eq_getElem?_getD, List.map_append, List.getElem?_append_left (by rw [List.length_map]; omega)]
  have g2 : ρ2 20 = (E.app f 0 (toL (varsE 20))).den ρ' phB := by
    rw [hρ2, ← hw']
    unfold asV
    rw [List.getD_eq_getElem?_getD, List.map_append, List.getElem?_append_right (by rw [List.length_map]; omega), List.length_map, hA3]
    rfl
  have hb : (bitV k).den ρ2 phB = (bitE f k).den ρ' phB := by
    simp only [bitV, bitE, E.den] at *
    rw [g2]
  have hd : (docE d k).den ρ2 phB = (docE d k).den ρ' phB := (lt_den phB g1 (docE d k) (by
    show E.lt 20 (docE d k) = true
    simp only [docE, lit]
    rfl)).1
  unfold CE
  unfold yV at hy
  split
  · rename_i hq
    rw [if_pos hq] at hy
    simp only [E.den, hb, hd] at hy ⊢
    exact hy
  · rename_i hq
    rw [if_neg hq] at hy
    simp only [E.den, hb] at hy ⊢
    exact hy

def awE : E := .app 9 0 .nil
end Go.Proofs.Ytbhhfbenajcinaa
