import Derived.Test.YtbhhfbenajcinaaNb
import Derived.WalkKit
import Derived.Below
import Derived.Laws.Rows
import Derived.Laws.Cells
import Derived.Lib.Hide
import Derived.Deep.AppendLies
namespace Go.Proofs.Ytbhhfbenajcinaa
open Go Go.SX Go.Proofs Go.RowKit
/-! calquelaw05.Ours gives the same cells -/
theorem mem6 : g6 ∈ ct14 := by
  repeat (first | exact List.mem_cons_self | apply List.mem_cons_of_mem)
noncomputable def cx6 : Cx := ⟨Try.prog, ssI, [], [], sy14⟩
noncomputable def DO : List (Nat × Def) := [(6, .fn (sortsP g6.ps) V6), (18, .fn (sortsP g18.ps) V18)]
theorem dsDO : DS ph14 DO := DS.put (DS.put (DS.nil _) (DS.get ds14 (by kernel_rfl))) (DS.get ds14 (by kernel_rfl))
def sameO (j : Nat) : E := if j == 17 || j == 18 then .beq (.app 6 j (toL (varsE 20))) (.var j) else .cmp .eql (.app 6 j (toL (varsE 20))) (.var j)
theorem ours_run : ((List.range 20).all fun j => evS cx6 DO 500 (sameO j) [] (varsE 20) []) = true := by kernel_rfl
theorem ours_sorts : ((List.range 20).all fun j => (symS sy14 6 j == ssI.getD j .any) && (ssI.getD j .any == (if j == 17 || j == 18 then .bool else .int .i64))) = true := by kernel_rfl
theorem ours_at {fl : List Value} (hs : All2 So.has ssI fl) : ∀ j, j < 20 → (ph14 6 fl).getD j undef = fl.getD j undef := by
  have hlen : fl.length = 20 := by rw [← hs.length]; kernel_rfl
  obtain ⟨ρ, hρ⟩ : ∃ ρ : Nat → Value, ρ = fun i => fl.getD i undef := ⟨_, rfl⟩
  have F : Fits ssI (symS sy14) ρ ph14 := ⟨fun i => by rw [hρ]; exact all2_get hs i, en14.fit⟩
  have hfl : (varsE 20).map (·.den ρ ph14) = fl := by
    apply List.ext_getElem?
    intro i
    unfold varsE
    rw [List.map_map, List.getElem?_map]
    by_cases hi : i < 20
    · rw [List.getElem?_range hi, hρ]
      simp only [Option.map_some, Function.comp, E.den]
      rw [List.getD_eq_getElem?_getD, List.getElem?_eq_getElem (by omega)]
      rfl
    · rw [List.getElem?_eq_none (by simp; omega), List.getElem?_eq_none (by omega)]
      rfl
  intro j hj
  have h1 := List.all_eq_true.1 ours_run j (List.mem_range.2 hj)
  have h2 := List.all_eq_true.1 ours_sorts j (List.mem_range.2 hj)
  rw [Bool.and_eq_true] at h2
  have key := evS_all (cx := cx6) (N := 20) F (fun g hg => absurd hg (by simp [cx6])) dsDO (fun _ hq => by simp at hq) (by kernel_rfl) h1
  have f1 := en14.fit 6 j fl
  rw [eq_of_beq h2.1] at f1
  have f2 := all2_get hs j
  have hv : asV ρ ph14 (varsE 20) j = fl.getD j undef := by rw [asV_vars _ _ hj, hρ]
  rw [eq_of_beq h2.2] at f1 f2
  unfold sameO at key
  split at key
  · rename_i hq
    rw [if_pos hq] at f1 f2
    obtain ⟨a, ha⟩ := f1
    obtain ⟨b, hb⟩ := f2
    simp only [E.den, toL_dens, vars_dens, hfl, hv] at key
    rw [ha, hb] at key ⊢
    simpa using key
  · rename_i hq
    rw [if_neg hq] at f1 f2
    obtain ⟨a, ha, _⟩ := f1
    obtain ⟨b, hb, _⟩ := f2
    simp only [E.den, toL_dens, vars_dens, hfl, hv, icmp] at key
    rw [ha, hb] at key ⊢
    simpa using key
theorem ours6 {W : World} {fl : List Value} (hs : All2 So.has ssI fl) : Calls Try.prog 6 #[.agg fl.toArray] W fun e W' => e = .returned (.agg fl.toArray) ∧ Below W.heap.size W W' := by
  have h := (en14.snd g6 mem6).does W [.agg fl.toArray] fl ⟨fl, [], by simp, ⟨rfl, hs⟩, rfl⟩ (fun _ hp => absurd hp (by simp [g6])) (fun _ hp => absurd hp (by simp [g6]))
  refine h.mono ?_
  rintro e W' ⟨x, rfl, hx, hb⟩
  have hx : x = .agg (pick (ph14 6 fl) 0 20).toArray := hx
  have hlen : fl.length = 20 := by rw [← hs.length]; kernel_rfl
  have hp : pick (ph14 6 fl) 0 20 = fl := by
    unfold pick
    apply List.ext_getElem
    · simp [hlen]
    · intro i h1 h2
      simp only [List.getElem_map, List.getElem_range', Nat.zero_add, Nat.one_mul]
      rw [ours_at hs i (by omega), List.getD_eq_getElem?_getD, List.getElem?_eq_getElem h2]
      rfl
  rw [hp] at hx
  exact ⟨by rw [hx], hb⟩
end Go.Proofs.Ytbhhfbenajcinaa
