/- Layer 21: the laws of words, and of what is encoded, by their runs. -/
import Derived.Test.YtclhmilecdjbiaaDoorQyd
namespace Go.Proofs.YtclhmilecdjbiaaDoor
open Go Go.Proofs Go.RowKit Go.CX Go.SX Go.CX.A64
theorem rho_app {fl fl' : List Value} (h : fl.length = 11) {i : Nat} (hi : i < 11) : rhoE (fl ++ fl') i = rhoE fl i ∧ rhoE (fl ++ fl') (i + 11) = rhoE fl' i := by
  constructor
  · show (fl ++ fl').getD i undef = fl.getD i undef
    rw [List.getD_eq_getElem?_getD, List.getD_eq_getElem?_getD, List.getElem?_append_left (by omega)]
  · show (fl ++ fl').getD (i + 11) undef = fl'.getD i undef
    rw [List.getD_eq_getElem?_getD, List.getD_eq_getElem?_getD, List.getElem?_append_right (by omega), h, Nat.add_sub_cancel]
theorem len11 {fl : List Value} (hs : All2 So.has ssE fl) : fl.length = 11 := hs.length.symm
theorem esA_den2 {fl fl' : List Value} (hs : All2 So.has ssE fl) (φ : Nat → List Value → List Value) : esA.map (·.den (rhoE (fl ++ fl')) φ) = fl := by
  obtain ⟨o, w, a, b, c, d, v, e, f, g, hh, rfl⟩ := cells11 hs
  rfl
theorem all2_app {fl fl' : List Value} : ∀ {ss : List So} {ss' : List So}, All2 So.has ss fl → All2 So.has ss' fl' → All2 So.has (ss ++ ss') (fl ++ fl') := by
  intro ss
  induction ss generalizing fl with
  | nil => intro ss' h h'; cases fl with | nil => exact h' | cons _ _ => exact h.elim
  | cons s ss ih =>
    intro ss' h h'
    cases fl with
    | nil => exact h.elim
    | cons v fl => exact ⟨h.1, ih h.2 h'⟩
set_option maxRecDepth 100000 in
theorem awake21_yes : answersT Tryd.prog vwA extA 3000 24 = true := by kernel_rfl
theorem awake21_any (w : World) (h : TabsA w) : Calls Tryd.prog 24 #[] w fun e w' => e = .returned (.bool true) ∧ Below w.heap.size w w' := calls_trueT names_ok awake21_yes w h.vw (ext_ok h)
/-- What read answers. -/
def ReadP (V : Nat) (fl : List Value) : Prop := (∀ w : World, Calls Tryd.prog 43 #[.int .u32 (V : Int)] w fun e w' => e = .returned (.agg fl.toArray) ∧ Below w.heap.size w w') ∧ All2 So.has ssE fl ∧ ∀ fl' op m, Wd fl' op m V → fl' = fl
noncomputable def readS (V : Nat) : List Value := open Classical in if h : ∃ fl, ReadP V fl then Classical.choose h else zeroL
theorem readS_has (V : Nat) : All2 So.has ssE (readS V) := by
  unfold readS
  split
  · rename_i h; exact (Classical.choose_spec h).2.1
  · exact zeroL_has
theorem read_ok {V : Nat} (hV : V < 4294967296) : ReadP V (readS V) := by
  have hex : ∃ fl, ReadP V fl := by
    by_cases h : ∃ fl op m, Wd fl op m V
    · obtain ⟨fl, op, m, hw⟩ := h
      exact ⟨fl, read_back hw, hw.hs, fun fl' op' m' h' => (wd_one h' hw).1⟩
    · obtain ⟨fl, hs, hc⟩ := read_any hV
      exact ⟨fl, hc, hs, fun fl' op m h' => absurd ⟨fl', op, m, h'⟩ h⟩
  unfold readS
  rw [dif_pos hex]
  exact Classical.choose_spec hex
noncomputable def mB (V : Nat) : Bool := open Classical in decide (∃ op, Mw op V)
noncomputable def phX (f : Nat) (fl : List Value) : List Value := match f with
  | 9 => [.bool (okB fl)]
  | 10 => [.int .u32 (w32O fl)]
  | 30 => readS (vint (fl.getD 0 undef)).toNat
  | 32 => [.bool (mB (vint (fl.getD 0 undef)).toNat)]
  | _ => []
def syX : List (Nat × List So) := [(9, [.bool]), (10, [.int .u32]), (30, ssE), (32, [.bool])]
theorem fitX : ∀ f j args, (symS syX f j).has ((phX f args).getD j undef) := by
  intro f j args
  have none : ∀ {f : Nat}, lookA f syX = none → (symS syX f j).has ((phX f args).getD j undef) := by
    intro f h
    unfold symS
    rw [h]; exact trivial
  by_cases h9 : f = 9
  · subst h9
    cases j with
    | zero => exact ⟨_, rfl⟩
    | succ j => exact trivial
  by_cases h10 : f = 10
  · subst h10
    cases j with
    | zero => exact ⟨_, rfl, wrap_range .u32 _⟩
    | succ j => exact trivial
  by_cases h30 : f = 30
  · subst h30
    exact all2_get (readS_has _) j
  by_cases h32 : f = 32
  · subst h32
    cases j with
    | zero => exact ⟨_, rfl⟩
    | succ j => exact trivial
  · refine none ?_
    have b : ∀ {k : Nat}, f ≠ k → Nat.beq k f = false := fun h => nbeq_no fun e => h e.symm
    simp only [syX, lookA, b h9, b h10, b h30, b h32, Bool.false_eq_true, if_false]
noncomputable def cxX (Γ : List So) : Cx := ⟨Tryd.prog, Γ, [], [], syX⟩
theorem fitsX {Γ : List So} {vs : List Value} (hs : All2 So.has Γ vs) : Fits (cxX Γ).Γ (cxX Γ).S (rhoE vs) phX := ⟨fun i => all2_get hs i, fitX⟩
def readE (x : E) : List E := (List.range 11).map fun j => .app 30 j (toL [x])
def matchE (x : E) : E := .app 32 0 (toL [x])
def zeroE : List E := [.int .i64 0, .int .i64 0, .int .i64 0, .int .i64 0, .int .i64 0, .int .i64 0, .int .u64 0, .int .i64 0, .int .i64 0, .int .i64 0, .int .i64 0]
noncomputable def readX (cx : Cx) : ExtT := fun g args _ n _ => if Nat.beq g 43 then (match args with
  | [.one ⟨false, [.e x]⟩] => if cx.so x == .int .u32 then some (.ok ⟨.one ⟨true, (readE x).map .e⟩, [], n⟩) else none
  | _ => none) else none
noncomputable def rdecX (cx : Cx) : ExtT := fun g args _ n fs => if Nat.beq g 22 then (match args with
  | [.one ⟨false, [.e x]⟩] => if cx.so x == .int .u32 then (match fs.look (matchE x) with
    | some true => some (.ok ⟨.tup [⟨true, (readE x).map .e⟩, ⟨false, [.e (.bool true)]⟩], [], n⟩)
    | some false => some (.ok ⟨.tup [⟨true, zeroE.map .e⟩, ⟨false, [.e (.bool false)]⟩], [], n⟩)
    | none => some (.split (matchE x))) else none
  | _ => none) else none
noncomputable def extX (Γ : List So) : ExtT := orX (orX (conX (cxX Γ) ⟨11, 9, psE⟩) (conX (cxX Γ) ⟨12, 9, psE⟩)) (orX (orX (readX (cxX Γ)) (rdecX (cxX Γ)))
  (orX (orX (sideX (cxX Γ) 10 9 psE encYes encNo) (sideX (cxX Γ) 16 9 psE rencYes fun _ => none)) (trueX 24)))
theorem read_den {ρ : Nat → Value} {V : Nat} {x : E} (hx : x.den ρ phX = .int .u32 (V : Int)) : (readE x).map (·.den ρ phX) = readS V := by
  have one : ∀ j, (E.app 30 j (toL [x])).den ρ phX = (readS V).getD j undef := by
    intro j
    show (phX 30 (E.dens ρ phX (toL [x]))).getD j undef = _
    rw [toL_dens]
    show (readS (vint (x.den ρ phX)).toNat).getD j undef = _
    rw [hx]
    show (readS (V : Int).toNat).getD j undef = _
    rw [Int.toNat_natCast]
  have key : (readE x).map (·.den ρ phX) = (List.range 11).map fun j => (readS V).getD j undef := by
    unfold readE
    rw [List.map_map]
    exact List.map_congr_left fun j _ => one j
  rw [key]
  obtain ⟨o, w, a, b, c, d, v, e, f, g, hh, he⟩ := cells11 (readS_has V)
  rw [he]; rfl
theorem match_den {ρ : Nat → Value} {V : Nat} {x : E} (hx : x.den ρ phX = .int .u32 (V : Int)) : (matchE x).den ρ phX = .bool (mB V) := by
  show (phX 32 (E.dens ρ phX (toL [x]))).getD 0 undef = _
  rw [toL_dens]
  show Value.bool (mB (vint (x.den ρ phX)).toNat) = _
  rw [hx]
  show Value.bool (mB (V : Int).toNat) = _
  rw [Int.toNat_natCast]
theorem mB_iff {V : Nat} : mB V = true ↔ ∃ op, Mw op V := by unfold mB; simp
theorem mB_yes {V : Nat} (h : mB V = true) : ∃ op m, Wd (readS V) op m V := by
  obtain ⟨op, fl, m, hw⟩ := mB_iff.1 h
  have := (read_ok hw.lt).2.2 fl op m hw
  subst this
  exact ⟨op, m, hw⟩
theorem mB_no {V : Nat} (h : mB V = false) : ∀ op, ¬ Mw op V := by
  intro op ho
  rw [mB_iff.2 ⟨op, ho⟩] at h
  cases h
section
variable {Γ : List So} {ws : Base}
theorem readX_ok : ExtOk ws (cxX Γ) phX (readX (cxX Γ)) := by
  intro g svs B n fs d h ρ β w xs N F hf hW hnn ha
  unfold readX at h
  split at h
  · rename_i he
    have he := Nat.eq_of_beq_eq_true he
    subst he
    split at h
    · rename_i x
      split at h
      · rename_i hc
        simp only [Option.some.injEq, CX.OR.ok.injEq] at h
        subst h
        obtain ⟨m, hm, m0, m1⟩ := so_num F (so_eq hc)
        obtain ⟨V, rfl⟩ := Int.eq_ofNat_of_zero_le (show 0 ≤ m from m0)
        have m1 : (V : Int) ≤ 4294967295 := m1
        match xs, ha with
        | [u], ha =>
          have hu : u = x.den ρ phX := ha.1
          rw [hm] at hu
          subst hu
          refine ⟨enters Tryd.func43 (c := Tryd.f43.body.getD .skip) (by kernel_rfl) (by kernel_rfl) _ _, Calls.mono ((read_ok (V := V) (by omega)).1 w) ?_⟩
          rintro e w' ⟨rfl, hb⟩
          exact ⟨_, β, rfl, Ext.refl _, Newer.refl _ _ _, hW.grow hb, readS V, rfl, es_is (read_den hm)⟩
      · exact absurd h (by simp)
    · exact absurd h (by simp)
  · exact absurd h (by simp)
theorem rdecX_ok (hT : TabsA ws.toWorld) : ExtOk ws (cxX Γ) phX (rdecX (cxX Γ)) := by
  intro g svs B n fs d h ρ β w xs N F hf hW hnn ha
  unfold rdecX at h
  split at h
  · rename_i he
    have he := Nat.eq_of_beq_eq_true he
    subst he
    split at h
    · rename_i x
      split at h
      · rename_i hc
        obtain ⟨m, hm, m0, m1⟩ := so_num F (so_eq hc)
        obtain ⟨V, rfl⟩ := Int.eq_ofNat_of_zero_le (show 0 ≤ m from m0)
        have m1 : (V : Int) ≤ 4294967295 := m1
        have hin := enters Tryd.func22 (c := Tryd.f22.body.getD .skip) (by kernel_rfl) (by kernel_rfl)
        have hTw := hT.same hW.base.1
        match xs, ha with
        | [u], ha =>
          have hu : u = x.den ρ phX := ha.1
          rw [hm] at hu
          subst hu
          split at h
          · rename_i hl
            simp only [Option.some.injEq, CX.OR.ok.injEq] at h
            subst h
            have hq := Facts.look_sound ρ phX hf hl
            rw [match_den hm] at hq
            obtain ⟨op, m, hw⟩ := mB_yes (Value.bool.inj hq)
            refine ⟨hin _ _, Calls.mono (rdecode_yes hw w hTw) ?_⟩
            rintro e w' ⟨rfl, hb⟩
            exact ⟨_, β, rfl, Ext.refl _, Newer.refl _ _ _, hW.grow hb, [_, _], rfl, ⟨readS V, rfl, es_is (read_den hm)⟩, rfl, trivial⟩
          · rename_i hl
            simp only [Option.some.injEq, CX.OR.ok.injEq] at h
            subst h
            have hq := Facts.look_sound ρ phX hf hl
            rw [match_den hm] at hq
            refine ⟨hin _ _, Calls.mono (rdecode_no (V := V) (by omega) (mB_no (Value.bool.inj hq)) w hTw) ?_⟩
            rintro e w' ⟨rfl, hb⟩
            exact ⟨_, β, rfl, Ext.refl _, Newer.refl _ _ _, hW.grow hb, [_, _], rfl, ⟨zeroL, rfl, es_is rfl⟩, rfl, trivial⟩
          · exact absurd h (by simp)
      · exact absurd h (by simp)
    · exact absurd h (by simp)
  · exact absurd h (by simp)
end
theorem extX_ok {Γ : List So} {w : World} (h : TabsA w) : ExtOk ⟨w, []⟩ (cxX Γ) phX (extX Γ) := by
  have con : ∀ {g : Nat} (_ : Enters Tryd.prog g) (_ : ∀ fl, All2 So.has ssE fl → ∀ w, TabsA w → Calls Tryd.prog g #[.agg fl.toArray] w fun e w' => e = .returned (.bool (okB fl)) ∧ Below w.heap.size w w'), ExtOk ⟨w, []⟩ (cxX Γ) phX (conX (cxX Γ) ⟨g, 9, psE⟩) := by
    intro g hin hg
    refine conX_okW ⟨hin, ?_⟩
    intro w' xs fl hb hp
    obtain ⟨x, rfl, rfl, hs⟩ := pack1 hp
    exact hg fl hs w' (h.same hb)
  refine orX_ok (orX_ok (con enters_may fun fl hs w hT => (may_any hs w hT).1) (con enters_rmay fun fl hs w hT => (may_any hs w hT).2)) (orX_ok (orX_ok readX_ok (rdecX_ok h)) (orX_ok (orX_ok (sideX_ok (yV := fun fl => .tuple #[(phX 10 fl).getD 0 undef, .int .i64 0]) (nV := fun _ => .tuple #[.int .u32 0, .int .i64 2]) (enters Tryd.func10 (c := Tryd.f10.body.getD .skip) (by kernel_rfl) (by kernel_rfl)) ⟨?_, ?_⟩ ⟨?_, ?_⟩) (sideX_ok (yV := fun fl => (phX 10 fl).getD 0 undef) (nV := fun _ => undef) (enters Tryd.func16 (c := Tryd.f16.body.getD .skip) (by kernel_rfl) (by kernel_rfl)) ⟨?_, ?_⟩ ⟨?_, ?_⟩)) (trueX_ok (enters Tryd.func24 (c := Tryd.f24.body.getD .skip) (by kernel_rfl) (by kernel_rfl)) fun w' hb => awake21_any w' (h.same hb))))
  · intro es v hv ρ β
    cases hv
    refine ⟨[_, _], rfl, ?_, rfl, trivial⟩
    show _ = (phX 10 (E.dens ρ phX (toL es))).getD 0 undef
    rw [toL_dens]
  · intro _ w' xs fl hb hp hq
    obtain ⟨x, rfl, rfl, hs⟩ := pack1 hp
    have hq : Value.bool (okB fl) = .bool true := hq
    obtain ⟨op, m, his⟩ := okB_iff.1 (Value.bool.inj hq)
    show Calls _ _ _ _ fun e w'' => e = .returned (.tuple #[.int .u32 (w32O fl), .int .i64 0]) ∧ _
    rw [w32O_is hs his]
    exact encode_yes hs his w' (h.same hb)
  · intro es v hv ρ β
    cases hv
    exact ⟨[_, _], rfl, rfl, rfl, trivial⟩
  · intro _ w' xs fl hb hp hq
    obtain ⟨x, rfl, rfl, hs⟩ := pack1 hp
    have hq : Value.bool (okB fl) = .bool false := hq
    exact encode_no hs (fun hok => by rw [okB_yes hok] at hq; cases hq) w' (h.same hb)
  · intro es v hv ρ β
    cases hv
    show (phX 10 _).getD 0 undef = (phX 10 (E.dens ρ phX (toL es))).getD 0 undef
    rw [toL_dens]
  · intro _ w' xs fl hb hp hq
    obtain ⟨x, rfl, rfl, hs⟩ := pack1 hp
    have hq : Value.bool (okB fl) = .bool true := hq
    obtain ⟨op, m, his⟩ := okB_iff.1 (Value.bool.inj hq)
    show Calls _ _ _ _ fun e w'' => e = .returned (.int .u32 (w32O fl)) ∧ _
    rw [w32O_is hs his]
    exact rencode_yes hs his w' (h.same hb)
  · intro es v hv; cases hv
  · rintro ⟨es, v, hv⟩; cases hv
/-- What is known of a word: which of three. -/
def wordF (x : E) (c : Nat) : Facts := match c with
  | 0 => [(matchE x, true), (.app 9 0 (toL (readE x)), true), (.cmp .eql (.app 10 0 (toL (readE x))) x, true)]
  | 1 => [(matchE x, false), (.app 9 0 (toL (readE x)), true), (.cmp .eql (.app 10 0 (toL (readE x))) x, false)]
  | _ => [(matchE x, false), (.app 9 0 (toL (readE x)), false)]
theorem word_cases {ρ : Nat → Value} {V : Nat} (hV : V < 4294967296) {x : E} (hx : x.den ρ phX = .int .u32 (V : Int)) : ∃ c, c < 3 ∧ Facts.hold ρ phX (wordF x c) ∧ (mB V = true → c = 0) := by
  have h9 : (E.app 9 0 (toL (readE x))).den ρ phX = .bool (okB (readS V)) := by
    show (phX 9 (E.dens ρ phX (toL (readE x)))).getD 0 undef = _
    rw [toL_dens, read_den hx]; rfl
  have h10 : (E.cmp .eql (.app 10 0 (toL (readE x))) x).den ρ phX = .bool (w32O (readS V) == (V : Int)) := by
    show Value.bool (vint ((phX 10 (E.dens ρ phX (toL (readE x)))).getD 0 undef) == vint (x.den ρ phX)) = _
    rw [toL_dens, read_den hx, hx]; rfl
  have hm := match_den hx
  cases hq : mB V
  · rw [hq] at hm
    cases hk : okB (readS V)
    · rw [hk] at h9
      exact ⟨2, by decide, hold_cons _ hm (hold_cons _ h9 hold_nil), fun h => absurd h (by simp)⟩
    · rw [hk] at h9
      have hne : (w32O (readS V) == (V : Int)) = false := by
        rw [beq_eq_false_iff_ne]
        intro e
        obtain ⟨op, m, his⟩ := okB_iff.1 hk
        rw [w32O_is (readS_has V) his] at e
        exact mB_no hq op ⟨_, m, readS_has V, his, e, hV⟩
      rw [hne] at h10
      exact ⟨1, by decide, hold_cons _ hm (hold_cons _ h9 (hold_cons _ h10 hold_nil)), fun h => absurd h (by simp)⟩
  · rw [hq] at hm
    obtain ⟨op, m, hw⟩ := mB_yes hq
    rw [okB_yes ⟨op, m, hw.is⟩] at h9
    rw [w32O_is hw.hs hw.is, hw.eq] at h10
    refine ⟨0, by decide, hold_cons _ hm (hold_cons _ h9 (hold_cons _ ?_ hold_nil)), fun _ => rfl⟩
    rw [h10]; simp
noncomputable def wordsR (c : Nat) : Bool := endsC (cxX [.int .u32]) (extX [.int .u32]) 3000 0 6 [argW] 60 (wordF (.var 0) c) (yesK (cxX [.int .u32]))
set_option maxRecDepth 100000 in
theorem words_0 : wordsR 0 = true := by kernel_rfl
set_option maxRecDepth 100000 in
theorem words_1 : wordsR 1 = true := by kernel_rfl
set_option maxRecDepth 100000 in
theorem words_2 : wordsR 2 = true := by kernel_rfl
theorem law_words {V : Nat} (hV : V < 4294967296) (W : World) (hT : TabsA W) : Calls Tryd.prog 6 #[.int .u32 (V : Int)] W fun e W' => e = .returned (.bool true) ∧ Below W.heap.size W W' := by
  have hs : All2 So.has [.int .u32] (vsW V) := ⟨⟨(V : Int), rfl, by show (0 : Int) ≤ (V : Int); omega, by show (V : Int) ≤ 4294967295; omega⟩, trivial⟩
  have hx : (E.var 0).den (rhoE (vsW V)) phX = .int .u32 (V : Int) := rhoW V
  obtain ⟨c, hc, hf, _⟩ := word_cases hV hx
  have hr : wordsR c = true := by
    have : c = 0 ∨ c = 1 ∨ c = 2 := by omega
    rcases this with rfl | rfl | rfl
    · exact words_0
    · exact words_1
    · exact words_2
  exact law_by (cx := cxX [.int .u32]) rfl (namesOk_spec names_ok) (fitsX hs) hf (args := [argW]) (xs := [.int .u32 (V : Int)]) ⟨rfl, trivial⟩ hr W (fun v hv => by simp [cxX] at hv) (extX_ok hT)
/-! ### AdecBack -/
def ssB : List So := ssE ++ [.int .i64]
/-- The word; the word with a bit turned. -/
noncomputable def wE : E := .app 10 0 (toL esA)
noncomputable def vE : E := .bin .xor .u32 wE (.shf .shl .u32 (.int .u32 1) (.conv .u64 (.bin .and .i64 (.var 11) (.int .i64 31))))
noncomputable def backF (c : Nat) : Facts := ((.app 9 0 (toL esA), true) :: (.app 9 0 (toL (readE wE)), true) :: (.cmp .eql (.app 10 0 (toL (readE wE))) wE, true) :: ((List.range 11).map fun j => ((.cmp .eql (.app 30 j (toL [wE])) (.var j), true) : E × Bool))) ++ wordF vE c
noncomputable def lawB (fs : Facts) : Bool := endsC (cxX ssB) (extX ssB) 3000 0 7 [.one ⟨true, esA.map .e⟩, .one ⟨false, [.e (.var 11)]⟩] 60 fs (yesK (cxX ssB))
set_option maxRecDepth 100000
theorem lawB_no : lawB [(.app 9 0 (toL esA), false)] = true := by kernel_rfl
theorem lawB_0 : lawB (backF 0) = true := by kernel_rfl
theorem lawB_1 : lawB (backF 1) = true := by kernel_rfl
theorem lawB_2 : lawB (backF 2) = true := by kernel_rfl
theorem law_back {fl : List Value} (hs : All2 So.has ssE fl) {b : Int} (b0 : -9223372036854775808 ≤ b) (b1 : b ≤ 9223372036854775807) (W : World) (hT : TabsA W) : Calls Tryd.prog 7 #[.agg fl.toArray, .int .i64 b] W fun e W' => e = .returned (.bool true) ∧ Below W.heap.size W W' := by
  have hs2 : All2 So.has ssB (fl ++ [.int .i64 b]) := all2_app hs ⟨⟨b, rfl, b0, b1⟩, trivial⟩
  have hA : ∀ φ, esA.map (·.den (rhoE (fl ++ [.int .i64 b])) φ) = fl := fun φ => esA_den2 hs φ
  have r11 : rhoE (fl ++ [.int .i64 b]) 11 = .int .i64 b := by
    have := (rho_app (fl' := [.int .i64 b]) (len11 hs) (i := 0) (by decide)).2
    exact this
  have args : All2 (CX.SV.is (rhoE (fl ++ [.int .i64 b])) phX fun _ => none) [.one ⟨true, esA.map .e⟩, .one ⟨false, [.e (.var 11)]⟩] [.agg fl.toArray, .int .i64 b] := ⟨⟨fl, rfl, es_is (hA phX)⟩, r11.symm, trivial⟩
  have by_run : ∀ {fs : Facts}, Facts.hold (rhoE (fl ++ [.int .i64 b])) phX fs → lawB fs = true → Calls Tryd.prog 7 #[.agg fl.toArray, .int .i64 b] W fun e W' => e = .returned (.bool true) ∧ Below W.heap.size W W' := fun hf hr =>
    law_by (cx := cxX ssB) rfl (namesOk_spec names_ok) (fitsX hs2) hf args hr W (fun v hv => by simp [cxX] at hv) (extX_ok hT)
  have h9 : (E.app 9 0 (toL esA)).den (rhoE (fl ++ [.int .i64 b])) phX = .bool (okB fl) := by
    show (phX 9 (E.dens _ phX (toL esA))).getD 0 undef = _
    rw [toL_dens, hA]; rfl
  by_cases hok : Ok fl
  · have hb := okB_yes hok
    obtain ⟨op, m, his⟩ := hok
    have hr := word_range hs his
    have hw32 := w32O_is hs his
    obtain ⟨V, hV⟩ := Int.eq_ofNat_of_zero_le hr.1
    have hVlt : V < 4294967296 := by have := hr.2; omega
    have hWd : Wd fl op m V := ⟨hs, his, hV, hVlt⟩
    have hread : fl = readS V := (read_ok hVlt).2.2 fl op m hWd
    have hwE : wE.den (rhoE (fl ++ [.int .i64 b])) phX = .int .u32 (V : Int) := by
      show (phX 10 (E.dens _ phX (toL esA))).getD 0 undef = _
      rw [toL_dens, hA]
      show Value.int .u32 (w32O fl) = _
      rw [hw32, hV]
    have hrd := read_den hwE
    rw [← hread] at hrd
    obtain ⟨n, hn, n0, n1⟩ := so_num (fitsX hs2) (x := vE) (k := .u32) rfl
    obtain ⟨V', rfl⟩ := Int.eq_ofNat_of_zero_le (show 0 ≤ n from n0)
    have n1 : (V' : Int) ≤ 4294967295 := n1
    obtain ⟨c, hc, hfc, _⟩ := word_cases (V := V') (by omega) hn
    have hf : Facts.hold (rhoE (fl ++ [.int .i64 b])) phX (backF c) := by
      intro p hp
      unfold backF at hp
      rcases List.mem_append.1 hp with hp | hp
      · rcases List.mem_cons.1 hp with rfl | hp
        · rw [h9, hb]
        rcases List.mem_cons.1 hp with rfl | hp
        · show (phX 9 (E.dens _ phX (toL (readE wE)))).getD 0 undef = .bool true
          rw [toL_dens, hrd]
          show Value.bool (okB fl) = .bool true
          rw [hb]
        rcases List.mem_cons.1 hp with rfl | hp
        · show Value.bool (vint ((phX 10 (E.dens _ phX (toL (readE wE)))).getD 0 undef) == vint (wE.den _ phX)) = .bool true
          rw [toL_dens, hrd, hwE]
          show Value.bool (w32O fl == (V : Int)) = .bool true
          rw [hw32, hV]
          simp
        · obtain ⟨j, hj, rfl⟩ := List.mem_map.1 hp
          have hj := List.mem_range.1 hj
          have e1 : (E.app 30 j (toL [wE])).den (rhoE (fl ++ [.int .i64 b])) phX = rhoE fl j := by
            show (phX 30 (E.dens _ phX (toL [wE]))).getD j undef = _
            rw [toL_dens]
            show (readS (vint (wE.den _ phX)).toNat).getD j undef = _
            rw [hwE]
            show (readS (V : Int).toNat).getD j undef = _
            rw [Int.toNat_natCast, ← hread]; rfl
          show Value.bool (vint ((E.app 30 j (toL [wE])).den _ phX) == vint (rhoE (fl ++ [.int .i64 b]) j)) = .bool true
          rw [e1, (rho_app (len11 hs) hj).1]
          simp
      · exact hfc p hp
    have hrun : lawB (backF c) = true := by
      have : c = 0 ∨ c = 1 ∨ c = 2 := by omega
      rcases this with rfl | rfl | rfl
      · exact lawB_0
      · exact lawB_1
      · exact lawB_2
    exact by_run hf hrun
  · exact by_run (hold_cons _ (by rw [h9, okB_no hok]) hold_nil) lawB_no
end Go.Proofs.YtclhmilecdjbiaaDoor
