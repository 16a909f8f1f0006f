/- Layer 20: what the laws call, as symbols: whether an instruction may be, its word, its text. The law of words and texts. -/
import Derived.Test.YtclhmilecdjbiaaDoorQn
import Derived.Test.YtclhmilecdjbiaaDoorCXlw
namespace Go.Proofs.YtclhmilecdjbiaaDoor
open Go Go.Proofs Go.RowKit Go.CX Go.SX
theorem itoa_len2 {n : Int} (h0 : -9223372036854775808 ≤ n) (h1 : n ≤ 18446744073709551615) : (Lib.itoa n).length ≤ 21 := by
  by_cases h : 0 ≤ n
  · obtain ⟨u, rfl⟩ := Int.eq_ofNat_of_zero_le h
    rw [Lib.itoa_nonneg]
    have := dec_len (u := u) (by omega)
    omega
  · exact itoa_len ⟨h0, by omega⟩
theorem cell_range {fl : List Value} (hs : All2 So.has ssE fl) (i : Nat) (hi : i < 11) : -9223372036854775808 ≤ vint (rhoE fl i) ∧ vint (rhoE fl i) ≤ 18446744073709551615 := by
  have h := all2_get hs i
  have : (ssE.getD i .any = .int .i64 ∨ ssE.getD i .any = .int .u64) := by
    have : i = 0 ∨ i = 1 ∨ i = 2 ∨ i = 3 ∨ i = 4 ∨ i = 5 ∨ i = 6 ∨ i = 7 ∨ i = 8 ∨ i = 9 ∨ i = 10 := by omega
    rcases this with rfl | rfl | rfl | rfl | rfl | rfl | rfl | rfl | rfl | rfl | rfl <;> first | exact Or.inl rfl | exact Or.inr rfl
  show _ ≤ vint (fl.getD i undef) ∧ vint (fl.getD i undef) ≤ _
  rcases this with e | e
  · rw [e] at h
    obtain ⟨n, hn, a, b⟩ := h
    rw [hn]
    have a : -9223372036854775808 ≤ n := a
    have b : n ≤ 9223372036854775807 := b
    show _ ≤ n ∧ n ≤ _
    omega
  · rw [e] at h
    obtain ⟨n, hn, a, b⟩ := h
    rw [hn]
    have a : 0 ≤ n := a
    have b : n ≤ 18446744073709551615 := b
    show _ ≤ n ∧ n ≤ _
    omega
theorem flat_len {ρ : Nat → Value} {φ : Nat → List Value → List Value} {k : Nat} : ∀ {l : List PT}, (∀ p ∈ l, (p.txt ρ φ).length ≤ k) → (textI ρ φ l).length ≤ l.length * k
  | [], _ => Nat.zero_le _
  | p :: l, h => by
    have h1 := h p List.mem_cons_self
    have h2 := flat_len (l := l) fun q hq => h q (List.mem_cons_of_mem _ hq)
    show (p.txt ρ φ ++ textI ρ φ l).length ≤ _
    rw [List.length_append, List.length_cons, Nat.add_mul]
    omega
theorem name_len (op : Nat) : (A64.name op).length ≤ 21 := by
  unfold A64.name; split <;> decide
theorem letters_len (op : Nat) : (A64.letters op).length ≤ 4 := by
  unfold A64.letters; split <;> decide
theorem cell_lt (x : A64.Lt) : x.cell < 11 := by cases x <;> decide
theorem textV_len {fl : List Value} (hs : All2 So.has ssE fl) {op m : Nat} (hm : m ≤ 11) : (textV fl op m).length ≤ 1000 := by
  have key : ∀ p ∈ A64.text op m, (p.txt (rhoE fl) phE).length ≤ 21 := by
    intro p hp
    unfold A64.text at hp
    rcases List.mem_cons.1 hp with rfl | hp
    · exact name_len op
    · rcases List.mem_append.1 hp with hp | hp
      · split at hp
        · simp only [List.mem_cons, List.not_mem_nil, or_false] at hp
          rcases hp with rfl | rfl
          · show (1 : Nat) ≤ 21; decide
          · exact itoa_len2 (n := (m : Int)) (by omega) (by omega)
        · simp at hp
      · split at hp
        · simp only [List.mem_cons, List.not_mem_nil, or_false] at hp
          rcases hp with rfl | rfl
          · show (1 : Nat) ≤ 21; decide
          · exact itoa_len2 (n := (m : Int)) (by omega) (by omega)
        · obtain ⟨x, _, hx⟩ := List.mem_flatMap.1 hp
          unfold A64.Lt.txt at hx
          simp only [List.mem_cons, List.not_mem_nil, or_false] at hx
          rcases hx with rfl | rfl
          · show (if x.reg = true then [32, 120] else [32] : List UInt8).length ≤ 21
            split <;> decide
          · have := cell_range hs x.cell (cell_lt x)
            exact itoa_len2 this.1 this.2
  have h1 := flat_len key
  have h2 : (A64.text op m).length ≤ 11 := by
    unfold A64.text
    have h4 : ((A64.letters op).flatMap A64.Lt.txt).length ≤ 8 := by
      have : ∀ l : List A64.Lt, (l.flatMap A64.Lt.txt).length = 2 * l.length := by
        intro l
        induction l with
        | nil => rfl
        | cons x l ih => rw [List.flatMap_cons, List.length_append, ih, List.length_cons]; show 2 + _ = _; omega
      rw [this]
      have := letters_len op
      omega
    rw [List.cons_append, List.length_cons, List.length_append]
    have h5 : ((if A64.acc op = true then [PT.lit [46], .num (A64.i64E m)] else []) : List PT).length ≤ 2 := by split <;> simp
    have h6 : ((if Nat.beq op 39 = true then [PT.lit [32], .num (A64.u64E m)] else (A64.letters op).flatMap A64.Lt.txt) : List PT).length ≤ 8 := by
      split
      · simp
      · exact h4
    omega
  have : (textV fl op m).length ≤ (A64.text op m).length * 21 := h1
  omega
/-- the word, the text -/
noncomputable def wordO (fl : List Value) : Int := open Classical in if h : ∃ p : Nat × Nat, Is fl p.1 p.2 then wordV fl (Classical.choose h).1 (Classical.choose h).2 else 0
noncomputable def textO (fl : List Value) : List UInt8 := open Classical in if h : ∃ p : Nat × Nat, Is fl p.1 p.2 then textV fl (Classical.choose h).1 (Classical.choose h).2 else [63]
theorem wordO_is {fl : List Value} {op m : Nat} (h : Is fl op m) : wordO fl = wordV fl op m := by
  have hex : ∃ p : Nat × Nat, Is fl p.1 p.2 := ⟨(op, m), h⟩
  unfold wordO
  rw [dif_pos hex]
  obtain ⟨h1, h2⟩ := mt_one (Classical.choose_spec hex).2.1 h.2.1
  rw [h1, h2]
theorem textO_is {fl : List Value} {op m : Nat} (h : Is fl op m) : textO fl = textV fl op m := by
  have hex : ∃ p : Nat × Nat, Is fl p.1 p.2 := ⟨(op, m), h⟩
  unfold textO
  rw [dif_pos hex]
  obtain ⟨h1, h2⟩ := mt_one (Classical.choose_spec hex).2.1 h.2.1
  rw [h1, h2]
theorem textO_no {fl : List Value} (h : ¬ Ok fl) : textO fl = [63] := by
  unfold textO
  rw [dif_neg]
  rintro ⟨p, hp⟩
  exact h ⟨p.1, p.2, hp⟩
theorem small_m {op m : Nat} (h : (op, m) ∈ insts) : m ≤ 11 := by
  have : ∀ p ∈ insts, p.2 ≤ 11 := by decide
  exact this _ h
/-- A word that fits. -/
noncomputable def w32O (fl : List Value) : Int := IntKind.u32.wrap (wordO fl)
/-- A text that fits. -/
noncomputable def strO (l : List UInt8) : Value := if l.length ≤ 1000 then .string ⟨l.toArray⟩ else .string ⟨#[]⟩
theorem w32O_is {fl : List Value} (hs : All2 So.has ssE fl) {op m : Nat} (h : Is fl op m) : w32O fl = wordV fl op m := by
  have := word_range hs h
  unfold w32O
  rw [wordO_is h, IntKind.wrap_u32]; omega
theorem strO_is {l : List UInt8} (h : l.length ≤ 1000) : strO l = .string ⟨l.toArray⟩ := by unfold strO; rw [if_pos h]
theorem strO_has (l : List UInt8) : So.str.has (strO l) := by
  unfold strO
  split
  · exact ⟨_, rfl, by show l.toArray.size ≤ _; rw [List.size_toArray]; omega⟩
  · exact ⟨_, rfl, Nat.zero_le _⟩
/-- what the symbols mean: 9 may it be, 10 its word, 11 its text; 13 to 15 an operation's row -/
noncomputable def phL (f : Nat) (fl : List Value) : List Value := match f with
  | 9 => [.bool (okB fl)]
  | 10 => [.int .u32 (w32O fl)]
  | 11 => [strO (textO fl)]
  | 13 => [strO (nameB (vint (fl.getD 0 undef)).toNat)]
  | 14 => [.int .u64 (IntKind.u64.wrap (A64.base (vint (fl.getD 0 undef)).toNat))]
  | 15 => [strO (refL (vint (fl.getD 0 undef)).toNat)]
  | _ => []
def syL : List (Nat × List So) := [(9, [.bool]), (10, [.int .u32]), (11, [.str]), (13, [.str]), (14, [.int .u64]), (15, [.str])]
theorem fitL : ∀ f j args, (symS syL f j).has ((phL f args).getD j undef) := by
  intro f j args
  have none : ∀ {f : Nat}, lookA f syL = none → (symS syL f j).has ((phL f args).getD j undef) := by
    intro f h
    unfold symS
    rw [h]; exact trivial
  match f, j with
  | 9, 0 => exact ⟨_, rfl⟩
  | 9, j + 1 => exact trivial
  | 10, 0 => exact ⟨_, rfl, wrap_range .u32 _⟩
  | 10, j + 1 => exact trivial
  | 11, 0 => exact strO_has _
  | 11, j + 1 => exact trivial
  | 13, 0 => exact strO_has _
  | 13, j + 1 => exact trivial
  | 14, 0 => exact ⟨_, rfl, wrap_range .u64 _⟩
  | 14, j + 1 => exact trivial
  | 15, 0 => exact strO_has _
  | 15, j + 1 => exact trivial
  | 0, j => exact none rfl
  | 1, j => exact none rfl
  | 2, j => exact none rfl
  | 3, j => exact none rfl
  | 4, j => exact none rfl
  | 5, j => exact none rfl
  | 6, j => exact none rfl
  | 7, j => exact none rfl
  | 8, j => exact none rfl
  | 12, j => exact none rfl
  | f + 16, j => exact none rfl
noncomputable def cxL (Γ : List So) : Cx := ⟨Tryd.prog, Γ, [], [], syL⟩
theorem fitsL {Γ : List So} {vs : List Value} (hs : All2 So.has Γ vs) : Fits (cxL Γ).Γ (cxL Γ).S (rhoE vs) phL := ⟨fun i => all2_get hs i, fitL⟩
def psE : List (Bool × List So) := [(true, ssE)]
def encYes (es : List E) : Option CX.SV := some (.tup [⟨false, [.e (.app 10 0 (toL es))]⟩, ⟨false, [.e (.int .i64 0)]⟩])
def encNo (_ : List E) : Option CX.SV := some (.tup [⟨false, [.e (.int .u32 0)]⟩, ⟨false, [.e (.int .i64 2)]⟩])
def rencYes (es : List E) : Option CX.SV := some (.one ⟨false, [.e (.app 10 0 (toL es))]⟩)
noncomputable def extL (Γ : List So) : ExtT := orX (orX (conX (cxL Γ) ⟨11, 9, psE⟩) (conX (cxL Γ) ⟨12, 9, psE⟩)) (orX (orX (conX (cxL Γ) ⟨13, 11, psE⟩) (conX (cxL Γ) ⟨14, 11, psE⟩))
  (orX (orX (sideX (cxL Γ) 10 9 psE encYes encNo) (sideX (cxL Γ) 16 9 psE rencYes fun _ => none)) (trueX 15)))
theorem pack1 {xs fl : List Value} (hp : packs psE xs fl) : ∃ x, xs = [x] ∧ x = .agg fl.toArray ∧ All2 So.has ssE fl := by
  match xs, hp with
  | [x], ⟨f1, f2, hf, hs, hx, h2⟩ =>
    have h2 : f2 = [] := h2
    subst h2
    rw [List.append_nil] at hf
    subst hf
    exact ⟨x, rfl, hx, hs⟩
theorem extL_ok {Γ : List So} {w : World} (h : TabsA w) : ExtOk ⟨w, []⟩ (cxL Γ) phL (extL Γ) := by
  have con : ∀ {g sym : Nat} (_ : Enters Tryd.prog g) (_ : ∀ fl, All2 So.has ssE fl → ∀ w, TabsA w → Calls Tryd.prog g #[.agg fl.toArray] w fun e w' => e = .returned ((phL sym fl).getD 0 undef) ∧ Below w.heap.size w w'), ExtOk ⟨w, []⟩ (cxL Γ) phL (conX (cxL Γ) ⟨g, sym, psE⟩) := by
    intro g sym hin hg
    refine conX_okW ⟨hin, ?_⟩
    intro w' xs fl hb hp
    obtain ⟨x, rfl, rfl, hs⟩ := pack1 hp
    exact hg fl hs w' (h.same hb)
  have shw : ∀ {fl : List Value} (hs : All2 So.has ssE fl), strO (textO fl) = .string ⟨(textO fl).toArray⟩ := by
    intro fl hs
    apply strO_is
    by_cases hok : Ok fl
    · obtain ⟨op, m, his⟩ := hok
      rw [textO_is his]; exact textV_len hs (small_m his.1)
    · rw [textO_no hok]; decide
  refine orX_ok (orX_ok (con enters_may fun fl hs w hT => (may_any hs w hT).1) (con enters_rmay fun fl hs w hT => (may_any hs w hT).2)) (orX_ok (orX_ok (con (enters Tryd.func13 (c := Tryd.f13.body.getD .skip) (by kernel_rfl) (by kernel_rfl)) ?_) (con (enters Tryd.func14 (c := Tryd.f14.body.getD .skip) (by kernel_rfl) (by kernel_rfl)) ?_)) (orX_ok (orX_ok (sideX_ok (yV := fun fl => .tuple #[(phL 10 fl).getD 0 undef, .int .i64 0]) (nV := fun _ => .tuple #[.int .u32 0, .int .i64 2]) (enters Tryd.func10 (c := Tryd.f10.body.getD .skip) (by kernel_rfl) (by kernel_rfl)) ⟨?_, ?_⟩ ⟨?_, ?_⟩) (sideX_ok (yV := fun fl => (phL 10 fl).getD 0 undef) (nV := fun _ => undef) (enters Tryd.func16 (c := Tryd.f16.body.getD .skip) (by kernel_rfl) (by kernel_rfl)) ⟨?_, ?_⟩ ⟨?_, ?_⟩)) (trueX_ok (enters Tryd.func15 (c := Tryd.f15.body.getD .skip) (by kernel_rfl) (by kernel_rfl)) fun w' hb => awake_any w' (h.same hb))))
  · intro fl hs w hT
    show Calls _ _ _ _ fun e w' => e = .returned (strO (textO fl)) ∧ _
    rw [shw hs]
    by_cases hok : Ok fl
    · obtain ⟨op, m, his⟩ := hok
      rw [textO_is his]; exact show_yes hs his w hT
    · rw [textO_no hok]; exact show_no hs hok w hT
  · intro fl hs w hT
    show Calls _ _ _ _ fun e w' => e = .returned (strO (textO fl)) ∧ _
    rw [shw hs]
    by_cases hok : Ok fl
    · obtain ⟨op, m, his⟩ := hok
      rw [textO_is his]; exact rshow_yes hs his w hT
    · rw [textO_no hok]; exact rshow_no hs hok w hT
  · intro es v hv ρ β
    cases hv
    refine ⟨[_, _], rfl, ?_, rfl, trivial⟩
    show _ = (phL 10 (E.dens ρ phL (toL es))).getD 0 undef
    rw [toL_dens]
  · intro _ w' xs fl hb hp hq
    obtain ⟨x, rfl, rfl, hs⟩ := pack1 hp
    have hq : Value.bool (okB fl) = .bool true := hq
    injection hq with hq
    obtain ⟨op, m, his⟩ := okB_iff.1 hq
    show Calls _ _ _ _ fun e w'' => e = .returned (.tuple #[.int .u32 (w32O fl), .int .i64 0]) ∧ _
    rw [w32O_is hs his]
    exact encode_yes hs his w' (h.same hb)
  · intro es v hv ρ β
    cases hv
    exact ⟨[_, _], rfl, rfl, rfl, trivial⟩
  · intro _ w' xs fl hb hp hq
    obtain ⟨x, rfl, rfl, hs⟩ := pack1 hp
    have hq : Value.bool (okB fl) = .bool false := hq
    injection hq with hq
    exact encode_no hs (fun hok => by rw [okB_yes hok] at hq; cases hq) w' (h.same hb)
  · intro es v hv ρ β
    cases hv
    show (phL 10 _).getD 0 undef = (phL 10 (E.dens ρ phL (toL es))).getD 0 undef
    rw [toL_dens]
  · intro _ w' xs fl hb hp hq
    obtain ⟨x, rfl, rfl, hs⟩ := pack1 hp
    have hq : Value.bool (okB fl) = .bool true := hq
    injection hq with hq
    obtain ⟨op, m, his⟩ := okB_iff.1 hq
    show Calls _ _ _ _ fun e w'' => e = .returned (.int .u32 (w32O fl)) ∧ _
    rw [w32O_is hs his]
    exact rencode_yes hs his w' (h.same hb)
  · intro es v hv; cases hv
  · rintro ⟨es, v, hv⟩; cases hv
theorem argsL_is {vs : List Value} {es : List E} {fl : List Value} (he : es.map (·.den (rhoE vs) phL) = fl) : CX.SV.is (rhoE vs) phL (fun _ => none) (.one ⟨true, es.map .e⟩) (.agg fl.toArray) := by
  refine ⟨fl, rfl, ?_⟩
  have key : ∀ {es : List E} {fl : List Value}, es.map (·.den (rhoE vs) phL) = fl → All2 (CX.SC.is (rhoE vs) phL fun _ => none) (es.map .e) fl := by
    intro es
    induction es with
    | nil => intro vs h; subst h; trivial
    | cons e es ih => intro vs h; subst h; exact ⟨rfl, ih rfl⟩
  exact key he
theorem esA_den {fl : List Value} (hs : All2 So.has ssE fl) (φ : Nat → List Value → List Value) : esA.map (·.den (rhoE fl) φ) = fl := by
  obtain ⟨o, w, a, b, c, d, v, e, f, g, hh, rfl⟩ := cells11 hs
  rfl
set_option maxRecDepth 100000 in
theorem encodes_run : endsC (cxL ssE) (extL ssE) 3000 0 3 [.one ⟨true, esA.map .e⟩] 60 [] (yesK (cxL ssE)) = true := by kernel_rfl
theorem law_encodes {fl : List Value} (hs : All2 So.has ssE fl) (W : World) (hT : TabsA W) : Calls Tryd.prog 3 #[.agg fl.toArray] W fun e W' => e = .returned (.bool true) ∧ Below W.heap.size W W' :=
  law_by (cx := cxL ssE) rfl (namesOk_spec names_ok) (fitsL hs) hold_nil (args := [.one ⟨true, esA.map .e⟩]) (xs := [.agg fl.toArray]) ⟨argsL_is (esA_den hs phL), trivial⟩ encodes_run W (fun v hv => by simp [cxL] at hv) (extL_ok hT)
end Go.Proofs.YtclhmilecdjbiaaDoor
