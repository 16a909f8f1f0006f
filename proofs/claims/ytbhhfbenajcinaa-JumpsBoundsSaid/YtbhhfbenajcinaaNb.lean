import Derived.Test.YtbhhfbenajcinaaNa
namespace Go.Proofs.Ytbhhfbenajcinaa
open Go Go.SX Go.Proofs
def bytesV : Value → List UInt8
  | .string s => s.data.toList
  | _ => []
theorem vstr_bytes (v : Value) : vstr v = bytesV v := by
  cases v <;> first | rfl | exact toList_data _
noncomputable def wlB : List Value := match V30 with
  | .leaf es => es.map fun e => e.den (fun _ => undef) (fun _ _ => [])
  | _ => []
theorem words_dens (ρ : Nat → Value) (φ : Nat → List Value → List Value) : wordsE.dens ρ φ = wlB := by
  unfold wordsE wlB V30
  simp only [toL, E.dens, E.den, List.map_cons, List.map_nil]
theorem wl_jcc : ((List.range 48).all fun m => ((bytesV (wlB.getD m undef) == [106, 99, 99]) == (m == 36))) = true := by kernel_rfl
theorem wl_cmp : ((List.range 48).all fun m => ((bytesV (wlB.getD m undef) == [99, 109, 112]) == (m == 8))) = true := by kernel_rfl
theorem wl_len : wlB.length = 48 := by kernel_rfl
theorem wl_head : bytesV (wlB.headD undef) = [] := by kernel_rfl
theorem word_is {bs : List UInt8} {n : Nat} (hn : 0 < n) (hn' : n < 48) (hb : (([] : List UInt8) == bs) = false) (h : ((List.range 48).all fun m => ((bytesV (wlB.getD m undef) == bs) == (m == n))) = true) (x : Int) :
    (bytesV (wlB.getD x.toNat (wlB.headD undef)) == bs) = (x == Int.ofNat n) := by
  by_cases hx : x.toNat < 48
  · have h1 := List.all_eq_true.1 h x.toNat (List.mem_range.2 hx)
    have e : wlB.getD x.toNat (wlB.headD undef) = wlB.getD x.toNat undef := by
      rw [List.getD_eq_getElem?_getD, List.getD_eq_getElem?_getD, List.getElem?_eq_getElem (by rw [wl_len]; exact hx)]
      rfl
    rw [e, eq_of_beq h1, Bool.eq_iff_iff]
    simp
    omega
  · have e : wlB.getD x.toNat (wlB.headD undef) = wlB.headD undef := by
      rw [List.getD_eq_getElem?_getD, List.getElem?_eq_none (by rw [wl_len]; omega)]
      rfl
    rw [e, wl_head, hb]
    symm
    rw [beq_eq_false_iff_ne]
    intro e
    rw [e] at hx
    exact hx hn'
theorem bound_same {fl : List Value} (hs : All2 So.has ssB fl) : ∀ j, j < 3 → (ph14 13 fl).getD j undef = (ph14 14 fl).getD j undef := by
  have hlen : fl.length = 2 := by rw [← hs.length]; kernel_rfl
  obtain ⟨ρ, hρ⟩ : ∃ ρ : Nat → Value, ρ = fun i => fl.getD i undef := ⟨_, rfl⟩
  have F : Fits ssB (symS sy14) ρ ph14 := ⟨fun i => by rw [hρ]; exact all2_get hs i, en14.fit⟩
  have hfl : (varsE 2).map (·.den ρ ph14) = fl := by
    match fl, hlen with
    | [a, b], _ => rw [hρ]; rfl
  have ho : ∀ k, ∃ m, (opE k).den ρ ph14 = .int .i64 m := fun k => by
    obtain ⟨m, hm, _⟩ := coe_has (.int .i64) ((vtup (ρ 1)).getD ((vint ((E.bin .sub .i64 (.var 0) (.int .i64 (.ofNat k))).den ρ ph14)).toNat * 20 + 0) undef)
    exact ⟨m, hm⟩
  obtain ⟨m1, h1⟩ := ho 1
  obtain ⟨m2, h2⟩ := ho 2
  have w1 : (wE 1 jccB).den ρ ph14 = .bool (m1 == Int.ofNat 36) := by
    unfold wE
    simp only [E.den, words_dens, h1, vint_int, vstr_bytes]
    congr 1
    exact word_is (by decide) (by decide) (by decide) wl_jcc m1
  have w2 : (wE 2 cmpB).den ρ ph14 = .bool (m2 == Int.ofNat 8) := by
    unfold wE
    simp only [E.den, words_dens, h2, vint_int, vstr_bytes]
    congr 1
    exact word_is (by decide) (by decide) (by decide) wl_cmp m2
  have hf : Facts.hold ρ ph14 (factB (m1 == Int.ofNat 36) (m2 == Int.ofNat 8)) := by
    intro p hp
    simp only [factB, List.mem_cons, List.not_mem_nil, or_false] at hp
    rcases hp with rfl | rfl | rfl | rfl
    · simp only [E.den, h1, icmp, vint_int]
      rfl
    · exact w1
    · simp only [E.den, h2, icmp, vint_int]
      rfl
    · exact w2
  have hrun : evS cxBd DBd 2000 sameB [] (varsE 2) (factB (m1 == Int.ofNat 36) (m2 == Int.ofNat 8)) = true := by
    cases m1 == Int.ofNat 36 <;> cases m2 == Int.ofNat 8
    · exact bd_ff
    · exact bd_ft
    · exact bd_tf
    · exact bd_tt
  have key := evS_all (cx := cxBd) (N := 2) F (fun g hg => absurd hg (by simp [cxBd])) dsDBd hf (by kernel_rfl) hrun
  simp only [sameB, E.den, toL_dens, vars_dens, hfl, icmp] at key
  have f13 := fun j => en14.fit 13 j fl
  have f14 := fun j => en14.fit 14 j fl
  obtain ⟨a0, ha0, _⟩ := (show (So.int .i64).has _ by have := f13 0; rwa [show symS sy14 13 0 = .int .i64 by kernel_rfl] at this)
  obtain ⟨a1, ha1, _⟩ := (show (So.int .i64).has _ by have := f13 1; rwa [show symS sy14 13 1 = .int .i64 by kernel_rfl] at this)
  obtain ⟨a2, ha2⟩ := (show So.bool.has _ by have := f13 2; rwa [show symS sy14 13 2 = .bool by kernel_rfl] at this)
  obtain ⟨b0, hb0, _⟩ := (show (So.int .i64).has _ by have := f14 0; rwa [show symS sy14 14 0 = .int .i64 by kernel_rfl] at this)
  obtain ⟨b1, hb1, _⟩ := (show (So.int .i64).has _ by have := f14 1; rwa [show symS sy14 14 1 = .int .i64 by kernel_rfl] at this)
  obtain ⟨b2, hb2⟩ := (show So.bool.has _ by have := f14 2; rwa [show symS sy14 14 2 = .bool by kernel_rfl] at this)
  rw [ha0, ha1, ha2, hb0, hb1, hb2] at key
  simp only [vint_int, vbool_bool] at key
  have e2 : a2 = b2 := by
    cases a2 <;> cases b2 <;> first | rfl | (simp at key)
  have e0 : a0 = b0 := by
    by_cases h : a0 = b0
    · exact h
    · simp [e2, h] at key
  have e1 : a1 = b1 := by
    by_cases h : a1 = b1
    · exact h
    · simp [e2, e0, h] at key
  intro j hj
  match j, hj with
  | 0, _ => rw [ha0, hb0, e0]
  | 1, _ => rw [ha1, hb1, e1]
  | 2, _ => rw [ha2, hb2, e2]
end Go.Proofs.Ytbhhfbenajcinaa
