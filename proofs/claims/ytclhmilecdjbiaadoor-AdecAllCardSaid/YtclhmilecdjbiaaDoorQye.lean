/- Layer 21: the laws of words, and of what is encoded, by their runs. -/
import Derived.Test.YtclhmilecdjbiaaDoorQyd
namespace Go.Proofs.YtclhmilecdjbiaaDoor
open Go Go.Proofs Go.RowKit Go.CX Go.SX Go.CX.A64
theorem len11 {fl : List Value} (hs : All2 So.has ssE fl) : fl.length = 11 := hs.length.symm
set_option maxRecDepth 100000 in
theorem awake21_yes : answersT Tryd.prog vwA extA 3000 24 = true := by kernel_rfl
theorem awake21_any (w : World) (h : TabsA w) : Calls Tryd.prog 24 #[] w fun e w' => e = .returned (.bool true) ∧ Below w.heap.size w w' := calls_trueT names_ok awake21_yes w h.vw (ext_ok h)
/-- What read answers. -/
def ReadP (V : Nat) (fl : List Value) : Prop := (∀ w : World, Calls Tryd.prog 43 #[.int .u32 (V : Int)] w fun e w' => e = .returned (.agg fl.toArray) ∧ Below w.heap.size w w') ∧ All2 So.has ssE fl ∧ ∀ fl' op m, Wd fl' op m V → fl' = fl
noncomputable def readS (V : Nat) : List Value := open Classical in if h : ∃ fl, ReadP V fl then Classical.choose h else zeroL
theorem readS_has (V : Nat) : All2 So.has ssE (readS V) := by
  unfold readS
  split
  · rename_i h; exact (Classical.choose_spec h).2.1
  · exact zeroL_has
theorem read_ok {V : Nat} (hV : V < 4294967296) : ReadP V (readS V) := by
  have hex : ∃ fl, ReadP V fl := by
    by_cases h : ∃ fl op m, Wd fl op m V
    · obtain ⟨fl, op, m, hw⟩ := h
      exact ⟨fl, read_back hw, hw.hs, fun fl' op' m' h' => (wd_one h' hw).1⟩
    · obtain ⟨fl, hs, hc⟩ := read_any hV
      exact ⟨fl, hc, hs, fun fl' op m h' => absurd ⟨fl', op, m, h'⟩ h⟩
  unfold readS
  rw [dif_pos hex]
  exact Classical.choose_spec hex
noncomputable def mB (V : Nat) : Bool := open Classical in decide (∃ op, Mw op V)
noncomputable def phX (f : Nat) (fl : List Value) : List Value := match f with
  | 9 => [.bool (okB fl)]
  | 10 => [.int .u32 (w32O fl)]
  | 30 => readS (vint (fl.getD 0 undef)).toNat
  | 32 => [.bool (mB (vint (fl.getD 0 undef)).toNat)]
  | _ => []
def syX : List (Nat × List So) := [(9, [.bool]), (10, [.int .u32]), (30, ssE), (32, [.bool])]
theorem fitX : ∀ f j args, (symS syX f j).has ((phX f args).getD j undef) := by
  intro f j args
  have none : ∀ {f : Nat}, lookA f syX = none → (symS syX f j).has ((phX f args).getD j undef) := by
    intro f h
    unfold symS
    rw [h]; exact trivial
  by_cases h9 : f = 9
  · subst h9
    cases j with
    | zero => exact ⟨_, rfl⟩
    | succ j => exact trivial
  by_cases h10 : f = 10
  · subst h10
    cases j with
    | zero => exact ⟨_, rfl, wrap_range .u32 _⟩
    | succ j => exact trivial
  by_cases h30 : f = 30
  · subst h30
    exact all2_get (readS_has _) j
  by_cases h32 : f = 32
  · subst h32
    cases j with
    | zero => exact ⟨_, rfl⟩
    | succ j => exact trivial
  · refine none ?_
    have b : ∀ {k : Nat}, f ≠ k → Nat.beq k f = false := fun h => nbeq_no fun e => h e.symm
    simp only [syX, lookA, b h9, b h10, b h30, b h32, Bool.false_eq_true, if_false]
noncomputable def cxX (Γ : List So) : Cx := ⟨Tryd.prog, Γ, [], [], syX⟩
theorem fitsX {Γ : List So} {vs : List Value} (hs : All2 So.has Γ vs) : Fits (cxX Γ).Γ (cxX Γ).S (rhoE vs) phX := ⟨fun i => all2_get hs i, fitX⟩
def readE (x : E) : List E := (List.range 11).map fun j => .app 30 j (toL [x])
def matchE (x : E) : E := .app 32 0 (toL [x])
def zeroE : List E := [.int .i64 0, .int .i64 0, .int .i64 0, .int .i64 0, .int .i64 0, .int .i64 0, .int .u64 0, .int .i64 0, .int .i64 0, .int .i64 0, .int .i64 0]
noncomputable def readX (cx : Cx) : ExtT := fun g args _ n _ => if Nat.beq g 43 then (match args with
  | [.one ⟨false, [.e x]⟩] => if cx.so x == .int .u32 then some (.ok ⟨.one ⟨true, (readE x).map .e⟩, [], n⟩) else none
  | _ => none) else none
noncomputable def rdecX (cx : Cx) : ExtT := fun g args _ n fs => if Nat.beq g 22 then (match args with
  | [.one ⟨false, [.e x]⟩] => if cx.so x == .int .u32 then (match fs.look (matchE x) with
    | some true => some (.ok ⟨.tup [⟨true, (readE x).map .e⟩, ⟨false, [.e (.bool true)]⟩], [], n⟩)
    | some false => some (.ok ⟨.tup [⟨true, zeroE.map .e⟩, ⟨false, [.e (.bool false)]⟩], [], n⟩)
    | none => some (.split (matchE x))) else none
  | _ => none) else none
noncomputable def extX (Γ : List So) : ExtT := orX (orX (conX (cxX Γ) ⟨11, 9, psE⟩) (conX (cxX Γ) ⟨12, 9, psE⟩)) (orX (orX (readX (cxX Γ)) (rdecX (cxX Γ)))
  (orX (orX (sideX (cxX Γ) 10 9 psE encYes encNo) (sideX (cxX Γ) 16 9 psE rencYes fun _ => none)) (trueX 24)))
theorem read_den {ρ : Nat → Value} {V : Nat} {x : E} (hx : x.den ρ phX = .int .u32 (V : Int)) : (readE x).map (·.den ρ phX) = readS V := by
  have one : ∀ j, (E.app 30 j (toL [x])).den ρ phX = (readS V).getD j undef := by
    intro j
    show (phX 30 (E.dens ρ phX (toL [x]))).getD j undef = _
    rw [toL_dens]
    show (readS (vint (x.den ρ phX)).toNat).getD j undef = _
    rw [hx]
    show (readS (V : Int).toNat).getD j undef = _
    rw [Int.toNat_natCast]
  have key : (readE x).map (·.den ρ phX) = (List.range 11).map fun j => (readS V).getD j undef := by
    unfold readE
    rw [List.map_map]
    exact List.map_congr_left fun j _ => one j
  rw [key]
  obtain ⟨o, w, a, b, c, d, v, e, f, g, hh, he⟩ := cells11 (readS_has V)
  rw [he]; rfl
theorem match_den {ρ : Nat → Value} {V : Nat} {x : E} (hx : x.den ρ phX = .int .u32 (V : Int)) : (matchE x).den ρ phX = .bool (mB V) := by
  show (phX 32 (E.dens ρ phX (toL [x]))).getD 0 undef = _
  rw [toL_dens]
  show Value.bool (mB (vint (x.den ρ phX)).toNat) = _
  rw [hx]
  show Value.bool (mB (V : Int).toNat) = _
  rw [Int.toNat_natCast]
theorem mB_iff {V : Nat} : mB V = true ↔ ∃ op, Mw op V := by unfold mB; simp
theorem mB_yes {V : Nat} (h : mB V = true) : ∃ op m, Wd (readS V) op m V := by
  obtain ⟨op, fl, m, hw⟩ := mB_iff.1 h
  have := (read_ok hw.lt).2.2 fl op m hw
  subst this
  exact ⟨op, m, hw⟩
theorem mB_no {V : Nat} (h : mB V = false) : ∀ op, ¬ Mw op V := by
  intro op ho
  rw [mB_iff.2 ⟨op, ho⟩] at h
  cases h
section
variable {Γ : List So} {ws : Base}
theorem readX_ok : ExtOk ws (cxX Γ) phX (readX (cxX Γ)) := by
  intro g svs B n fs d h ρ β w xs N F hf hW hnn ha
  unfold readX at h
  split at h
  · rename_i he
    have he := Nat.eq_of_beq_eq_true he
    subst he
    split at h
    · rename_i x
      split at h
      · rename_i hc
        simp only [Option.some.injEq, CX.OR.ok.injEq] at h
        subst h
        obtain ⟨m, hm, m0, m1⟩ := so_num F (so_eq hc)
        obtain ⟨V, rfl⟩ := Int.eq_ofNat_of_zero_le (show 0 ≤ m from m0)
        have m1 : (V : Int) ≤ 4294967295 := m1
        match xs, ha with
        | [u], ha =>
          have hu : u = x.den ρ phX := ha.1
          rw [hm] at hu
          subst hu
          refine ⟨enters Tryd.func43 (c := Tryd.f43.body.getD .skip) (by kernel_rfl) (by kernel_rfl) _ _, Calls.mono ((read_ok (V := V) (by omega)).1 w) ?_⟩
          rintro e w' ⟨rfl, hb⟩
          exact ⟨_, β, rfl, Ext.refl _, Newer.refl _ _ _, hW.grow hb, readS V, rfl, es_is (read_den hm)⟩
      · exact absurd h (by simp)
    · exact absurd h (by simp)
  · exact absurd h (by simp)
theorem rdecX_ok (hT : TabsA ws.toWorld) : ExtOk ws (cxX Γ) phX (rdecX (cxX Γ)) := by
  intro g svs B n fs d h ρ β w xs N F hf hW hnn ha
  unfold rdecX at h
  split at h
  · rename_i he
    have he := Nat.eq_of_beq_eq_true he
    subst he
    split at h
    · rename_i x
      split at h
      · rename_i hc
        obtain ⟨m, hm, m0, m1⟩ := so_num F (so_eq hc)
        obtain ⟨V, rfl⟩ := Int.eq_ofNat_of_zero_le (show 0 ≤ m from m0)
        have m1 : (V : Int) ≤ 4294967295 := m1
        have hin := enters Tryd.func22 (c := Tryd.f22.body.getD .skip) (by kernel_rfl) (by kernel_rfl)
        have hTw := hT.same hW.base.1
        match xs, ha with
        | [u], ha =>
          have hu : u = x.den ρ phX := ha.1
          rw [hm] at hu
          subst hu
          split at h
          · rename_i hl
            simp only [Option.some.injEq, CX.OR.ok.injEq] at h
            subst h
            have hq := Facts.look_sound ρ phX hf hl
            rw [match_den hm] at hq
            obtain ⟨op, m, hw⟩ := mB_yes (Value.bool.inj hq)
            refine ⟨hin _ _, Calls.mono (rdecode_yes hw w hTw) ?_⟩
            rintro e w' ⟨rfl, hb⟩
            exact ⟨_, β, rfl, Ext.refl _, Newer.refl _ _ _, hW.grow hb, [_, _], rfl, ⟨readS V, rfl, es_is (read_den hm)⟩, rfl, trivial⟩
          · rename_i hl
            simp only [Option.some.injEq, CX.OR.ok.injEq] at h
            subst h
            have hq := Facts.look_sound ρ phX hf hl
            rw [match_den hm] at hq
            refine ⟨hin _ _, Calls.mono (rdecode_no (V := V) (by omega) (mB_no (Value.bool.inj hq)) w hTw) ?_⟩
            rintro e w' ⟨rfl, hb⟩
            exact ⟨_, β, rfl, Ext.refl _, Newer.refl _ _ _, hW.grow hb, [_, _], rfl, ⟨zeroL, rfl, es_is rfl⟩, rfl, trivial⟩
          · exact absurd h (by simp)
      · exact absurd h (by simp)
    · exact absurd h (by simp)
  · exact absurd h (by simp)
end
theorem extX_ok {Γ : List So} {w : World} (h : TabsA w) : ExtOk ⟨w, []⟩ (cxX Γ) phX (extX Γ) := by
  have con : ∀ {g : Nat} (_ : Enters Tryd.prog g) (_ : ∀ fl, All2 So.has ssE fl → ∀ w, TabsA w → Calls Tryd.prog g #[.agg fl.toArray] w fun e w' => e = .returned (.bool (okB fl)) ∧ Below w.heap.size w w'), ExtOk ⟨w, []⟩ (cxX Γ) phX (conX (cxX Γ) ⟨g, 9, psE⟩) := by
    intro g hin hg
    refine conX_okW ⟨hin, ?_⟩
    intro w' xs fl hb hp
    obtain ⟨x, rfl, rfl, hs⟩ := pack1 hp
    exact hg fl hs w' (h.same hb)
  refine orX_ok (orX_ok (con enters_may fun fl hs w hT => (may_any hs w hT).1) (con enters_rmay fun fl hs w hT => (may_any hs w hT).2)) (orX_ok (orX_ok readX_ok (rdecX_ok h)) (orX_ok (orX_ok (sideX_ok (yV := fun fl => .tuple #[(phX 10 fl).getD 0 undef, .int .i64 0]) (nV := fun _ => .tuple #[.int .u32 0, .int .i64 2]) (enters Tryd.func10 (c := Tryd.f10.body.getD .skip) (by kernel_rfl) (by kernel_rfl)) ⟨?_, ?_⟩ ⟨?_, ?_⟩) (sideX_ok (yV := fun fl => (phX 10 fl).getD 0 undef) (nV := fun _ => undef) (enters Tryd.func16 (c := Tryd.f16.body.getD .skip) (by kernel_rfl) (by kernel_rfl)) ⟨?_, ?_⟩ ⟨?_, ?_⟩)) (trueX_ok (enters Tryd.func24 (c := Tryd.f24.body.getD .skip) (by kernel_rfl) (by kernel_rfl)) fun w' hb => awake21_any w' (h.same hb))))
  · intro es v hv ρ β
    cases hv
    refine ⟨[_, _], rfl, ?_, rfl, trivial⟩
    show _ = (phX 10 (E.dens ρ phX (toL es))).getD 0 undef
    rw [toL_dens]
  · intro _ w' xs fl hb hp hq
    obtain ⟨x, rfl, rfl, hs⟩ := pack1 hp
    have hq : Value.bool (okB fl) = .bool true := hq
    obtain ⟨op, m, his⟩ := okB_iff.1 (Value.bool.inj hq)
    show Calls _ _ _ _ fun e w'' => e = .returned (.tuple #[.int .u32 (w32O fl), .int .i64 0]) ∧ _
    rw [w32O_is hs his]
    exact encode_yes hs his w' (h.same hb)
  · intro es v hv ρ β
    cases hv
    exact ⟨[_, _], rfl, rfl, rfl, trivial⟩
  · intro _ w' xs fl hb hp hq
    obtain ⟨x, rfl, rfl, hs⟩ := pack1 hp
    have hq : Value.bool (okB fl) = .bool false := hq
    exact encode_no hs (fun hok => by rw [okB_yes hok] at hq; cases hq) w' (h.same hb)
  · intro es v hv ρ β
    cases hv
    show (phX 10 _).getD 0 undef = (phX 10 (E.dens ρ phX (toL es))).getD 0 undef
    rw [toL_dens]
  · intro _ w' xs fl hb hp hq
    obtain ⟨x, rfl, rfl, hs⟩ := pack1 hp
    have hq : Value.bool (okB fl) = .bool true := hq
    obtain ⟨op, m, his⟩ := okB_iff.1 (Value.bool.inj hq)
    show Calls _ _ _ _ fun e w'' => e = .returned (.int .u32 (w32O fl)) ∧ _
    rw [w32O_is hs his]
    exact rencode_yes hs his w' (h.same hb)
  · intro es v hv; cases hv
  · rintro ⟨es, v, hv⟩; cases hv
/-- What is known of a word: which of three. -/
def wordF (x : E) (c : Nat) : Facts := match c with
  | 0 => [(matchE x, true), (.app 9 0 (toL (readE x)), true), (.cmp .eql (.app 10 0 (toL (readE x))) x, true)]
  | 1 => [(matchE x, false), (.app 9 0 (toL (readE x)), true), (.cmp .eql (.app 10 0 (toL (readE x))) x, false)]
  | _ => [(matchE x, false), (.app 9 0 (toL (readE x)), false)]
theorem word_cases {ρ : Nat → Value} {V : Nat} (hV : V < 4294967296) {x : E} (hx : x.den ρ phX = .int .u32 (V : Int)) : ∃ c, c < 3 ∧ Facts.hold ρ phX (wordF x c) ∧ (mB V = true → c = 0) := by
  have h9 : (E.app 9 0 (toL (readE x))).den ρ phX = .bool (okB (readS V)) := by
    show (phX 9 (E.dens ρ phX (toL (readE x)))).getD 0 undef = _
    rw [toL_dens, read_den hx]; rfl
  have h10 : (E.cmp .eql (.app 10 0 (toL (readE x))) x).den ρ phX = .bool (w32O (readS V) == (V : Int)) := by
    show Value.bool (vint ((phX 10 (E.dens ρ phX (toL (readE x)))).getD 0 undef) == vint (x.den ρ phX)) = _
    rw [toL_dens, read_den hx, hx]; rfl
  have hm := match_den hx
  cases hq : mB V
  · rw [hq] at hm
    cases hk : okB (readS V)
    · rw [hk] at h9
      exact ⟨2, by decide, hold_cons _ hm (hold_cons _ h9 hold_nil), fun h => absurd h (by simp)⟩
    · rw [hk] at h9
      have hne : (w32O (readS V) == (V : Int)) = false := by
        rw [beq_eq_false_iff_ne]
        intro e
        obtain ⟨op, m, his⟩ := okB_iff.1 hk
        rw [w32O_is (readS_has V) his] at e
        exact mB_no hq op ⟨_, m, readS_has V, his, e, hV⟩
      rw [hne] at h10
      exact ⟨1, by decide, hold_cons _ hm (hold_cons _ h9 (hold_cons _ h10 hold_nil)), fun h => absurd h (by simp)⟩
  · rw [hq] at hm
    obtain ⟨op, m, hw⟩ := mB_yes hq
    rw [okB_yes ⟨op, m, hw.is⟩] at h9
    rw [w32O_is hw.hs hw.is, hw.eq] at h10
    refine ⟨0, by decide, hold_cons _ hm (hold_cons _ h9 (hold_cons _ ?_ hold_nil)), fun _ => rfl⟩
    rw [h10]; simp
/-- The word; the word with a bit turned. -/
noncomputable def wE : E := .app 10 0 (toL esA)
noncomputable def vE : E := .bin .xor .u32 wE (.shf .shl .u32 (.int .u32 1) (.conv .u64 (.bin .and .i64 (.var 11) (.int .i64 31))))
set_option maxRecDepth 100000
end Go.Proofs.YtclhmilecdjbiaaDoor
