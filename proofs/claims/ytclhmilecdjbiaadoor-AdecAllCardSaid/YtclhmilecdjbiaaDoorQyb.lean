/- Layer 21: the document's Decode, operation by operation: what carries it out. -/
import Derived.Test.YtclhmilecdjbiaaDoorQya
namespace Go.Proofs.YtclhmilecdjbiaaDoor
open Go Go.Proofs Go.RowKit Go.CX Go.SX Go.CX.A64
noncomputable def opK (op : Nat) (_ : Facts) : CX.SV → Bool
  | .one ⟨true, cs⟩ => match exsC cs with
    | some (e :: es) => soOk cxD ssE (e :: es) && E.eqv e (A64.i64E op)
    | _ => false
  | _ => false
noncomputable def topR (op : Nat) : Bool := endsC cxD extD 3000 0 45 [.one ⟨false, [.e (A64.i64E op)]⟩, argW] 100 [] (opK op)
def zeroL : List Value := [.int .i64 0, .int .i64 0, .int .i64 0, .int .i64 0, .int .i64 0, .int .i64 0, .int .u64 0, .int .i64 0, .int .i64 0, .int .i64 0, .int .i64 0]
theorem zeroL_has : All2 So.has ssE zeroL := by
  have z : ∀ k : IntKind, (So.int k).has (.int k 0) := fun k => ⟨0, rfl, by cases k <;> decide, by cases k <;> decide⟩
  exact ⟨z _, z _, z _, z _, z _, z _, z _, z _, z _, z _, z _, trivial⟩
/-- The word is one of this operation. -/
def Mw (op V : Nat) : Prop := ∃ fl m, Wd fl op m V
/-- What near answers. -/
def NearP (op V : Nat) (b : Bool) : Prop := (∀ w : World, Calls Tryd.prog 44 #[.int .i64 (op : Int), .int .u32 (V : Int)] w fun e w' => e = .returned (.bool b) ∧ Below w.heap.size w w') ∧ (Mw op V → b = true)
/-- What Take answers. -/
def TakeP (op V : Nat) (fl : List Value) : Prop := (∀ w : World, Calls Tryd.prog 45 #[.int .i64 (op : Int), .int .u32 (V : Int)] w fun e w' => e = .returned (.agg fl.toArray) ∧ Below w.heap.size w w') ∧ All2 So.has ssE fl ∧ fl.getD 0 undef = .int .i64 (Int.ofNat op) ∧ (Mw op V → ∃ m, Wd fl op m V)
noncomputable def nearS (op V : Nat) : Bool := open Classical in if h : ∃ b, NearP op V b then Classical.choose h else false
noncomputable def takeS (op V : Nat) : List Value := open Classical in if h : ∃ fl, TakeP op V fl then Classical.choose h else zeroL
theorem takeS_has (op V : Nat) : All2 So.has ssE (takeS op V) := by
  unfold takeS
  split
  · rename_i h; exact (Classical.choose_spec h).2.1
  · exact zeroL_has
theorem near_ok {V : Nat} (hV : V < 4294967296) {op : Nat} (h1 : 1 ≤ op) (h47 : op ≤ 47) : NearP op V (nearS op V) := by
  have hex : ∃ b, NearP op V b := by
    by_cases h : Mw op V
    · obtain ⟨fl, m, hw⟩ := h
      exact ⟨true, near_back hw, fun _ => rfl⟩
    · obtain ⟨b, hb⟩ := near_any hV h1 h47
      exact ⟨b, hb, fun h' => absurd h' h⟩
  unfold nearS
  rw [dif_pos hex]
  exact Classical.choose_spec hex
theorem take_ok (ht : ∀ op, 1 ≤ op → op ≤ 47 → topR op = true) {V : Nat} (hV : V < 4294967296) {op : Nat} (h1 : 1 ≤ op) (h47 : op ≤ 47) : TakeP op V (takeS op V) := by
  have hex : ∃ fl, TakeP op V fl := by
    by_cases h : Mw op V
    · obtain ⟨fl, m, hw⟩ := h
      exact ⟨fl, take_back hw, hw.hs, hw.is.2.1.1, fun _ => ⟨m, hw⟩⟩
    · obtain ⟨v, fs', g1, g2, g3⟩ := endsC_ok (cx := cxD) rfl (namesOk_spec names_ok) (fitsD hV) hold_nil (args := [.one ⟨false, [.e (A64.i64E op)]⟩, argW]) (xs := [.int .i64 (op : Int), .int .u32 (V : Int)]) ⟨rfl, argW_is V, trivial⟩ (ht op h1 h47)
      unfold opK at g2
      split at g2
      · rename_i cs
        split at g2
        · rename_i e es hes
          rw [Bool.and_eq_true] at g2
          have he := E.eqv_eq g2.2
          refine ⟨(e :: es).map (·.den (rhoE (vsW V)) phD), fun w => ?_, CX.soOk_has (fitsD hV) g2.1, ?_, fun h' => absurd h' h⟩
          · refine Calls.mono (g3 w (fun v hv => by simp [cxD] at hv) extD_ok) ?_
            rintro e' w' ⟨y, β', rfl, ⟨vs, rfl, hvs⟩, hb⟩
            rw [all2_dens hes hvs]
            exact ⟨rfl, hb⟩
          · rw [he]; rfl
        · cases g2
      · cases g2
  unfold takeS
  rw [dif_pos hex]
  exact Classical.choose_spec hex
/-- what the symbols mean: 9 may it be, 10 its word; 20 near, 21 Take -/
noncomputable def phR (f : Nat) (fl : List Value) : List Value := match f with
  | 9 => [.bool (okB fl)]
  | 10 => [.int .u32 (w32O fl)]
  | 20 => [.bool (nearS (vint (fl.getD 0 undef)).toNat (vint (fl.getD 1 undef)).toNat)]
  | 21 => takeS (vint (fl.getD 0 undef)).toNat (vint (fl.getD 1 undef)).toNat
  | _ => []
def syR : List (Nat × List So) := [(9, [.bool]), (10, [.int .u32]), (20, [.bool]), (21, ssE)]
theorem fitR : ∀ f j args, (symS syR f j).has ((phR f args).getD j undef) := by
  intro f j args
  have none : ∀ {f : Nat}, lookA f syR = none → (symS syR f j).has ((phR f args).getD j undef) := by
    intro f h
    unfold symS
    rw [h]; exact trivial
  by_cases h9 : f = 9
  · subst h9
    cases j with
    | zero => exact ⟨_, rfl⟩
    | succ j => exact trivial
  by_cases h10 : f = 10
  · subst h10
    cases j with
    | zero => exact ⟨_, rfl, wrap_range .u32 _⟩
    | succ j => exact trivial
  by_cases h20 : f = 20
  · subst h20
    cases j with
    | zero => exact ⟨_, rfl⟩
    | succ j => exact trivial
  by_cases h21 : f = 21
  · subst h21
    exact all2_get (takeS_has _ _) j
  · refine none ?_
    have b : ∀ {k : Nat}, f ≠ k → Nat.beq k f = false := fun h => nbeq_no fun e => h e.symm
    simp only [syR, lookA, b h9, b h10, b h20, b h21, Bool.false_eq_true, if_false]
noncomputable def cxR : Cx := ⟨Tryd.prog, [.int .u32], [], [], syR⟩
theorem fitsR {V : Nat} (hV : V < 4294967296) : Fits cxR.Γ cxR.S (rhoE (vsW V)) phR :=
  ⟨fun i => all2_get (show All2 So.has [.int .u32] (vsW V) from ⟨⟨(V : Int), rfl, by show (0 : Int) ≤ (V : Int); omega, by show (V : Int) ≤ 4294967295; omega⟩, trivial⟩) i, fitR⟩
def opx (op : E) (x : E) : E := toL [op, x]
def takeE (k : Nat) (x : E) : List E := (List.range 11).map fun j => .app 21 j (opx (A64.i64E k) x)
noncomputable def nearX : ExtT := fun g args _ n _ => if Nat.beq g 44 then (match args with
  | [.one ⟨false, [.e (.int .i64 (.ofNat k))]⟩, .one ⟨false, [.e x]⟩] => if Nat.ble 1 k && Nat.ble k 47 && (cxR.so x == .int .u32) then some (.ok ⟨.one ⟨false, [.e (.app 20 0 (opx (A64.i64E k) x))]⟩, [], n⟩) else none
  | _ => none) else none
noncomputable def takeX : ExtT := fun g args _ n _ => if Nat.beq g 45 then (match args with
  | [.one ⟨false, [.e (.int .i64 (.ofNat k))]⟩, .one ⟨false, [.e x]⟩] => if Nat.ble 1 k && Nat.ble k 47 && (cxR.so x == .int .u32) then some (.ok ⟨.one ⟨true, (takeE k x).map .e⟩, [], n⟩) else none
  | _ => none) else none
noncomputable def extR : ExtT := orX (orX (conX cxR ⟨12, 9, psE⟩) nearX) (orX takeX (sideX cxR 16 9 psE rencYes fun _ => none))
noncomputable def missF (j : Nat) : E × Bool := (.ite (.app 9 0 (toL (takeE j (.var 0)))) (.cmp .eql (.app 10 0 (toL (takeE j (.var 0)))) (.var 0)) (.bool false), false)
/-- None of the operations below; this one, if there is one. -/
noncomputable def factsR (hit : Nat) : Facts := ((List.range (hit - 1)).map fun j => missF (j + 1)) ++ (if Nat.ble hit 47 then [(.app 20 0 (opx (A64.i64E hit) (.var 0)), true), (.app 9 0 (toL (takeE hit (.var 0))), true), (.cmp .eql (.app 10 0 (toL (takeE hit (.var 0)))) (.var 0), true)] else [])
noncomputable def decK2 (hit : Nat) (_ : Facts) : CX.SV → Bool
  | .tup [⟨true, cs⟩, ⟨false, [.e (.bool b)]⟩] => (match exsC cs with
    | some es => eqEs es (if Nat.ble hit 47 then takeE hit (.var 0) else [.int .i64 0, .int .i64 0, .int .i64 0, .int .i64 0, .int .i64 0, .int .i64 0, .int .u64 0, .int .i64 0, .int .i64 0, .int .i64 0, .int .i64 0]) && b == Nat.ble hit 47
    | none => false)
  | _ => false
noncomputable def decR (hit : Nat) : Bool := endsC cxR extR 3000 10 22 [argW] 30 (factsR hit) (decK2 hit)
end Go.Proofs.YtclhmilecdjbiaaDoor
