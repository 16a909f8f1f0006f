/- IrMakes: the law's call, whatever comes in. -/
import Derived.Test.YtfcddhicklhefaaGreatDoorDe
import Derived.Test.YtfcddhicklhefaaGreatDoorMkQ
namespace Go.Mk
open Go Go.RowKit Go.CX Go.SX Go.Proofs
section
variable {P : Program} {Q : Exit → Act → World → Prop}
theorem wpL_append {X : Exit → Act → World → Prop} {d : Code} : ∀ (cs : List Code) (a : Act) (w : World), wpL P (cs ++ [d]) X a w → wpL P cs (Exit.then (d.wp P (Exit.then (X .normal) X)) X) a w
  | [], a, w, h => h
  | c :: cs, a, w, h => by
    refine wp_mono (P := P) (show c.wp P (Exit.then (wpL P (cs ++ [d]) X) X) a w from h) fun e a w he => ?_
    cases e
    case normal => exact wpL_append cs a w he
    all_goals exact he
def seqL : List Code → Code → Code
  | [], r => r
  | c :: cs, r => .seq c (seqL cs r)
theorem wpL_seq {r : Code} : ∀ (cs : List Code) (a : Act) (w : World), wpL P cs (Exit.then (r.wp P Q) Q) a w → (seqL cs r).wp P Q a w
  | [], a, w, h => h
  | c :: cs, a, w, h => by
    refine wp_seq (wp_mono (P := P) (show c.wp P (Exit.then (wpL P cs (Exit.then (r.wp P Q) Q)) (Exit.then (r.wp P Q) Q)) a w from h) fun e a w he => ?_)
    cases e
    case normal => exact wpL_seq cs a w he
    all_goals exact he
theorem wpL_mono {X Y : Exit → Act → World → Prop} (hXY : ∀ e a w, X e a w → Y e a w) : ∀ (cs : List Code) (a : Act) (w : World), wpL P cs X a w → wpL P cs Y a w
  | [], a, w, h => hXY _ _ _ h
  | c :: cs, a, w, h => by
    refine wp_mono (P := P) (show c.wp P (Exit.then (wpL P cs X) X) a w from h) fun e a w he => ?_
    cases e
    case normal => exact wpL_mono hXY cs a w he
    all_goals exact hXY _ _ _ he
/-- A body of this form: what comes before the loop, the loop, the rest. -/
theorem body_wp {cs : List Code} {d blk R : Code} {a : Act} {w : World} (h : wpL P (cs ++ [d]) (Exit.then (blk.wp P (Exit.then (R.wp P Q) Q)) Q) a w) : (seqL cs (.seq (.seq d blk) R)).wp P Q a w := by
  refine wpL_seq cs a w (wpL_mono (fun e a w he => ?_) cs a w (wpL_append cs a w h))
  cases e
  case normal =>
    refine wp_seq (wp_seq (wp_mono (P := P) he fun e a w he => ?_))
    cases e
    case normal => exact he
    all_goals exact he
  all_goals exact he
end
theorem tabs_heap {w w' : World} (h : YtfcddhicklhefaaGreatDoor.Tabs w) (hb : ∀ k, k < w.heap.size → w'.heap[k]? = w.heap[k]?) : YtfcddhicklhefaaGreatDoor.Tabs w' := by
  unfold YtfcddhicklhefaaGreatDoor.Tabs Lib.TabIs World.var? at *
  cases hg : Tryz.prog.globalNamed "strings.asciiSpace" with
  | none => rw [hg] at h; simp at h
  | some g =>
    rw [hg] at h
    simp only [Option.bind_some] at h ⊢
    have hlt : g < w.heap.size := by
      cases hq : w.heap[g]? with
      | none => rw [hq] at h; simp at h
      | some o => exact (Array.getElem?_eq_some_iff.1 hq).1
    rw [hb g hlt]
    exact h
section
variable (A : Option Addr) (n c : Nat) (vs : List Value) (f : Int)
theorem fitsM (hn : n ≤ 9223372036854775807) (hf1 : -9223372036854775808 ≤ f) (hf2 : f ≤ 9223372036854775807) : Fits cxP.Γ cxP.S (ρM A n c vs f) φ0 :=
  ⟨fun i => match i with
    | 0 => trivial
    | 1 => ⟨_, rfl, by simp only [lowOf]; show _ ≤ (n : Int); omega, by simp only [highOf]; show (n : Int) ≤ _; omega⟩
    | 2 => trivial
    | 3 => ⟨_, rfl, hf1, hf2⟩
    | 4 => trivial
    | i + 5 => trivial, fun g j args => by simp [cxP, cxM, Cx.S, symS, lookA, So.has]⟩
theorem extM_ok {w : World} (h : YtfcddhicklhefaaGreatDoor.Tabs w) : ExtOk ⟨w, cxP.vw⟩ cxP φ0 extP := by
  refine boolX_ok (enters Tryz.func14 (c := Tryz.f14.body.getD .skip) (by kernel_rfl) (by kernel_rfl)) ?_
  intro svs b ρ β xs w' hT F ha hw
  match svs, xs, hT, ha with
  | [], [], hT, _ =>
    simp only [noArgs, Option.some.injEq] at hT
    subst hT
    exact YtfcddhicklhefaaGreatDoor.awake_any w' (tabs_heap h hw)
theorem len_hold (b : Bool) (i : Nat) (e : E) (he : e = .cmp .lss (i64 i) (.var 1)) (hb : decide (i < n) = b) : e.den (ρM A n c vs f) φ0 = .bool b := by
  subst he
  show Value.bool (decide ((Int.ofNat i) < (Int.ofNat n))) = _
  rw [← hb]
  congr 1
  exact decide_eq_decide.2 Int.ofNat_lt
theorem arr0 (x y : Value) (ys : Array Value) : (#[x, y] ++ ys)[0]? = some x := by rw [Array.getElem?_append_left (by simp)]; rfl
theorem arr1 (x y : Value) (ys : Array Value) : (#[x, y] ++ ys)[1]? = some y := by rw [Array.getElem?_append_left (by simp)]; rfl
set_option maxRecDepth 100000 in
theorem fn3 {w : World} (V : VwC ⟨0, 1, 2, ss9⟩ (ρM A n c vs f) w) (hn : n ≤ 9223372036854775807) (hf1 : -9223372036854775808 ≤ f) (hf2 : f ≤ 9223372036854775807) (hT : YtfcddhicklhefaaGreatDoor.Tabs w) :
    Calls Tryz.prog 3 #[.slice A n c, .int .i64 f] w fun e w' => e = .returned (.bool true) ∧ Below w.heap.size w w' := by
  have F := fitsM A n c vs f hn hf1 hf2
  have RO : RunOk ⟨w, cxP.vw⟩ cxP φ0 rP := run_ok (namesOk_spec YtfcddhicklhefaaGreatDoor.names_ok) rfl rfl (extM_ok hT) (hk0_ok _ _ _) 1000
  have hbody : Tryz.f3.body = some bodyP := by kernel_rfl
  have hres : Tryz.f3.results.toList = [.tmp 4] := by kernel_rfl
  have htm : Tryz.f3.ntmps = 190 := by kernel_rfl
  refine calls_of_wp Tryz.func3 hbody ?_
  rw [htm]
  obtain ⟨fx, hfx⟩ : ∃ fx : CX.Fx, fx = ⟨190, Xof b0 (fun _ => none), b0, w, ⟨w, cxP.vw⟩⟩ := ⟨_, rfl⟩
  have hN : fx.N = 190 := by rw [hfx]
  have hws : fx.ws = ⟨w, cxP.vw⟩ := by rw [hfx]
  have hW : W (ρM A n c vs f) φ0 fx b0 (fun _ => none) w := by
    rw [hfx]
    exact ⟨LowP.refl _ _, fun id row h => absurd h (by simp [b0]), fun id row k h => absurd h (by simp [b0]), fun id id' r r' b n n' h => absurd h (by simp [b0]), fun id b n h => absurd h (by simp), fun id b n h => absurd h (by simp), Nat.le_refl _, fun _ _ => rfl, fun v hv => by
      have hv : v ∈ [(⟨0, 1, 2, ss9⟩ : Vw)] := hv
      rw [List.mem_singleton] at hv
      subst hv
      exact V⟩
  -- the end
  have fin : ∀ (β' : CX.Bk) (σ : CX.St) (a' : Act) (w' : World), MS (ρM A n c vs f) φ0 fx b0 σ β' a' w' → isTrue (lookA 4 σ.tmps) = true →
      bodyPost Tryz.prog Tryz.f3 (fun e w' => e = .returned (.bool true) ∧ Below w.heap.size w w') .ret a' w' := by
    intro β' σ a' w' hM hT4
    have hl : lookA 4 σ.tmps = some (.one ⟨false, [.e (.bool true)]⟩) := by
      unfold isTrue at hT4
      split at hT4
      · assumption
      · exact absurd hT4 (by simp)
    obtain ⟨y, h1, h2⟩ := resX_run (cx := cxP) (fn := Tryz.f3) hM (v := .one ⟨false, [.e (.bool true)]⟩) (by rw [hres]; exact hl)
    have h2 : y = .bool true := h2
    subst h2
    have hl := hM.m.wld.low
    rw [hfx] at hl
    exact ⟨hM.m.dfr, _, h1, rfl, ⟨hl.os, hl.tape, hl.output, hl.size, fun k hk => hl.block k hk (by rintro ⟨id, row, n, h, _⟩; exact absurd h (by simp [b0]))⟩⟩
  -- from the beginning to the loop, and on
  have go : ∀ (big : Bool) (N : Nat), enK big = true → Facts.hold (ρM A n c vs f) φ0 (enF big) → (∀ k, k < N → k < 30 ∧ itK big k = true ∧ Facts.hold (ρM A n c vs f) φ0 (lenF big k)) → exK big N = true → Facts.hold (ρM A n c vs f) φ0 (exF big N) →
      bodyP.wp Tryz.prog (bodyPost Tryz.prog Tryz.f3 (fun e w' => e = .returned (.bool true) ∧ Below w.heap.size w w')) { tmps := #[.slice A n c, .int .i64 f] ++ Array.replicate (190 - #[Value.slice A n c, .int .i64 f].size) undef, defers := [] } w := by
    intro big N hen hef hit hex hxf
    generalize bodyPost Tryz.prog Tryz.f3 (fun e w' => e = .returned (.bool true) ∧ Below w.heap.size w w') = Q at fin ⊢
    rw [shape]
    refine body_wp (cs := pre bodyP) ?_
    refine all_ok RO F hN hws (nn := 1000000) (by omega) ⟨⟨fun t s h => ?_, by rw [hN]; simp, rfl, hW⟩⟩ hen hef (fun k hk => ?_) hex hxf fin
    · have h : lookA t [(0, CX.SV.one ⟨false, [.e (.var 0)]⟩), (1, .one ⟨false, [.e (.var 3)]⟩)] = some s := h
      match t, h with
      | 0, h =>
        simp only [lookA, Nat.beq, if_true, Option.some.injEq] at h
        subst h
        exact ⟨_, arr0 _ _ _, rfl⟩
      | 1, h =>
        simp [lookA, Nat.beq] at h
        subst h
        exact ⟨_, arr1 _ _ _, rfl⟩
      | t + 2, h => simp [lookA, Nat.beq] at h
    · obtain ⟨hk30, hi, hlen⟩ := hit k hk
      refine ⟨_, List.all_eq_true.1 hi (jOf (zOf A n c vs f k)) (jOf_mem _), ?_, eqs_ok A n c vs f hk30⟩
      intro p hp
      rcases List.mem_append.1 hp with hp | hp
      · exact kinds_hold A n c vs f k p hp
      · exact hlen p hp
  by_cases hb : 30 < n
  · refine go true 30 en_b ?_ (fun k hk => ⟨hk, it_b k hk, ?_⟩) e_b ?_
    all_goals
      intro p hp
      simp only [enF, lenF, exF, if_true, List.mem_singleton] at hp
      subst hp
      exact len_hold A n c vs f true 30 _ rfl (by simpa using hb)
  · refine go false n en_s ?_ (fun k hk => ⟨by omega, it_s k (by omega), ?_⟩) (ex_s n (by omega)) ?_
    · intro p hp
      simp only [enF, List.mem_singleton] at hp
      subst hp
      exact len_hold A n c vs f false 30 _ rfl (by simpa using hb)
    · intro p hp
      simp only [lenF, Bool.false_eq_true, if_false, List.mem_singleton] at hp
      subst hp
      exact len_hold A n c vs f true k _ rfl (by simpa using hk)
    · intro p hp
      simp only [exF, Bool.false_eq_true, if_false, List.mem_singleton] at hp
      subst hp
      exact len_hold A n c vs f false n _ rfl (by simp)
end
end Go.Mk
