import Derived.Test.YtbhhfbenajcinaaSXx
import Derived.KernelRfl
import Derived.Test.YtbhhfbenajcinaaMf
import Derived.Test.YtbhhfbenajcinaaMg
namespace Go.Proofs.Ytbhhfbenajcinaa
open Go Go.SX Go.Proofs
theorem tr {ρ : Nat → Value} (e : E) (hl : e.lt 20 = true) (hn : e.noSym 5000 = true) : e.den (asV ρ phB (varsE 20)) phB = e.den ρ ph3 :=
  ((lt_den phB (fun _ hi => asV_vars ρ phB hi) e hl).1).trans (noSym_den ρ ph3 5000 (ph3 24) e hn).1
theorem fact_of {ρ : Nat → Value} {f d k : Nat} (hl : (CE f d k).lt 20 = true) (hn : (CE f d k).noSym 5000 = true) (h : (CE f d k).den (asV ρ phB (varsE 20)) phB = .bool true) : (cFact f d k).1.den ρ ph3 = .bool (cFact f d k).2 := by
  rw [tr _ hl hn] at h
  unfold CE at h
  unfold cFact
  split
  · rename_i hk
    rw [if_pos hk] at h
    exact h
  · rename_i hk
    rw [if_neg hk] at h
    simp only [bitE, E.den, vbool_bool, Value.bool.injEq] at h ⊢
    simpa using h
theorem ce5 : ((List.range 32).all fun k => (CE 5 10 k).lt 20 && (CE 5 10 k).noSym 5000) = true := by kernel_rfl
theorem ce7 : ((List.range 32).all fun k => (CE 7 11 k).lt 20 && (CE 7 11 k).noSym 5000) = true := by kernel_rfl
theorem law_true {fl : List Value} (hs : All2 So.has ssI fl) : (ph3 3 fl).getD 0 undef = .bool true := by
  have hlen : fl.length = 20 := by rw [← hs.length]; kernel_rfl
  obtain ⟨ρ, hρ⟩ : ∃ ρ : Nat → Value, ρ = fun i => fl.getD i undef := ⟨_, rfl⟩
  have hv : ∀ i, (ssI.getD i .any).has (ρ i) := fun i => by rw [hρ]; exact all2_get hs i
  have FB : Fits ssI (symS syB) ρ phB := ⟨hv, enB.fit⟩
  have F3 : Fits ssI (symS sy3) ρ ph3 := ⟨hv, en3.fit⟩
  have hfl : (varsE 20).map (·.den ρ ph3) = fl := by
    apply List.ext_getElem?
    intro i
    unfold varsE
    rw [List.map_map, List.getElem?_map]
    by_cases hi : i < 20
    · rw [List.getElem?_range hi, hρ]
      simp only [Option.map_some, Function.comp, E.den]
      rw [List.getD_eq_getElem?_getD, List.getElem?_eq_getElem (by omega)]
      rfl
    · rw [List.getElem?_eq_none (by simp; omega), List.getElem?_eq_none (by omega)]
      rfl
  have haw : awE.den ρ ph3 = .bool true := by
    rw [← tr awE (by kernel_rfl) (by kernel_rfl)]
    exact evS_all (cx := cxI) FB noCt dsB (fun _ hq => by simp at hq) (by kernel_rfl) aw
  have fin : ∀ FS, Facts.hold ρ ph3 FS → evS cx3 DL 3000 lawE [] (varsE 20) FS = true → (ph3 3 fl).getD 0 undef = .bool true := by
    intro FS hF hr
    have h := evS_all (cx := cx3) F3 (fun g hg => absurd hg (by simp [cx3])) dsDL hF (by kernel_rfl) hr
    simp only [lawE, E.den, toL_dens, vars_dens, hfl] at h
    exact h
  have hmb : ∃ b, mayV.den ρ ph3 = .bool b := by
    have h := en3.fit 8 0 ((toL (varsE 20)).dens ρ ph3)
    rw [show symS sy3 8 0 = .bool by kernel_rfl] at h
    exact h
  obtain ⟨b, hb⟩ := hmb
  have hbB : mayV.den (asV ρ phB (varsE 20)) phB = .bool b := by rw [tr mayV (by kernel_rfl) (by kernel_rfl)]; exact hb
  cases b with
  | true =>
    have hall := reg_all ρ FB hbB
    refine fin FT ?_ run_yes
    intro p hp
    simp only [FT, List.mem_cons, List.mem_append, List.mem_map, List.mem_range] at hp
    rcases hp with rfl | rfl | ⟨k, hk, rfl⟩ | ⟨k, hk, rfl⟩
    · exact hb
    · exact haw
    · have := List.all_eq_true.1 ce5 k (List.mem_range.2 hk)
      rw [Bool.and_eq_true] at this
      exact fact_of this.1 this.2 (hall k hk).1
    · have := List.all_eq_true.1 ce7 k (List.mem_range.2 hk)
      rw [Bool.and_eq_true] at this
      exact fact_of this.1 this.2 (hall k hk).2
  | false =>
    have hz : ∀ x : E, x.lt 20 = true → x.noSym 5000 = true → evS cxI DC 1000 x [] (varsE 20) [(mayV, false)] = true → x.den ρ ph3 = .bool true := by
      intro x h1 h2 h3
      rw [← tr x h1 h2]
      refine evS_all (cx := cxI) FB noCt dsDC (fun p hp => ?_) (by kernel_rfl) h3
      simp only [List.mem_singleton] at hp
      subst hp
      show mayV.den ρ phB = .bool false
      rw [← (lt_den phB (fun _ hi => asV_vars ρ phB hi) mayV (by kernel_rfl)).1]
      exact hbB
    refine fin FF ?_ run_no
    intro p hp
    simp only [FF, List.mem_cons, List.not_mem_nil, or_false] at hp
    rcases hp with rfl | rfl | rfl | rfl
    · exact hb
    · exact hz _ (by kernel_rfl) (by kernel_rfl) z5
    · exact hz _ (by kernel_rfl) (by kernel_rfl) z7
    · exact haw
theorem law_calls {W : World} {fl : List Value} (hs : All2 So.has ssI fl) : Calls Try.prog 3 #[.agg fl.toArray] W fun e W' => e = .returned (.bool true) ∧ Go.RowKit.Below W.heap.size W W' := by
  have hg : g3 ∈ ct3 := List.mem_cons_self
  have h := (en3.snd g3 hg).does W [.agg fl.toArray] fl ⟨fl, [], by simp, ⟨rfl, hs⟩, rfl⟩ (fun _ hp => absurd hp (by simp [g3])) (fun _ hp => absurd hp (by simp [g3]))
  refine h.mono ?_
  rintro e W' ⟨x, rfl, hx, hb⟩
  have hx : x = (ph3 3 fl).getD 0 undef := hx
  rw [law_true hs] at hx
  exact ⟨by rw [hx], hb⟩
end Go.Proofs.Ytbhhfbenajcinaa
