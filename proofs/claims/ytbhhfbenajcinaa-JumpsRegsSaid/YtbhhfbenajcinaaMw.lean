import Derived.Test.YtbhhfbenajcinaaSXx
import Derived.KernelRfl
import Derived.Test.YtbhhfbenajcinaaMc
namespace Go.Proofs.Ytbhhfbenajcinaa
open Go Go.SX Go.Proofs
theorem ok21 : (Def.fn (sortsP g21.ps) V21).ok phB 21 := DS.get dsB (by kernel_rfl)
theorem ok21_l : (Def.lp (sortsP (lp21_l.ins.map (·.2))) lp21_l.mu V21_l (badE lp21_l)).ok phB 1021 := DS.get dsB (by kernel_rfl)
theorem withV (s r : Int) (hs0 : 0 ≤ s) (hs1 : s < 4294967296) (hr0 : -9223372036854775808 ≤ r) (hr1 : r ≤ 9223372036854775807) :
    (if r < 0 then s else if 15 < r then s else bits .or .u32 s (ishf .shl .u32 1 r)) = bits .or .u32 s (bits .and .u32 (ishf .shl .u32 1 (r % 18446744073709551616)) 65535) := by
  obtain ⟨m, rfl⟩ := Int.eq_ofNat_of_zero_le hs0
  have hm : m < 4294967296 := by omega
  have hsh : ∀ v : Int, ishf .shl .u32 1 v = Int.ofNat (2 ^ (min v.toNat 32) % 4294967296) := fun v => shl_val v
  have hlt : ∀ j : Nat, 2 ^ j % 4294967296 < 2 ^ 32 := fun j => Nat.mod_lt _ (by decide)
  have hand : ∀ a : Nat, a < 4294967296 → bits .and .u32 (Int.ofNat a) 65535 = Int.ofNat (a &&& 65535) := fun a ha => (bits_nat .u32 32 (by decide) wraps32 a 65535 (by simpa using ha) (by decide)).1
  have hor : ∀ a : Nat, a < 4294967296 → bits .or .u32 (m : Int) (Int.ofNat a) = Int.ofNat (m ||| a) := fun a ha => (bits_nat .u32 32 (by decide) wraps32 m a (by simpa using hm) (by simpa using ha)).2
  have k1 : ∀ j : Fin 33, 16 ≤ j.val → (2 ^ j.val % 4294967296) &&& 65535 = 0 := by decide
  have k2 : ∀ j : Fin 16, (2 ^ j.val % 4294967296) &&& 65535 = 2 ^ j.val % 4294967296 := by decide
  have hle : ∀ a : Nat, (a &&& 65535) < 4294967296 := fun a => Nat.lt_of_le_of_lt Nat.and_le_right (by decide)
  rw [hsh (r % 18446744073709551616), hand _ (hlt _), hor _ (hle _)]
  by_cases h1 : r < 0
  · rw [if_pos h1, k1 ⟨min (r % 18446744073709551616).toNat 32, by omega⟩ (by simp only; omega)]
    simp
  · rw [if_neg h1]
    by_cases h2 : 15 < r
    · rw [if_pos h2, k1 ⟨min (r % 18446744073709551616).toNat 32, by omega⟩ (by simp only; omega)]
      simp
    · rw [if_neg h2, hsh, hor _ (hlt _)]
      have e : min (r % 18446744073709551616).toNat 32 = min r.toNat 32 := by omega
      rw [e]
      have := k2 ⟨min r.toNat 32, by omega⟩
      simp only at this
      rw [this]
noncomputable def ssW : List So := sortsP g21.ps
noncomputable def cxW : Cx := ⟨Try.prog, ssW, [], [], syB⟩
def elW (i : Nat) : E := .el (.var 2) (.int .i64 (.ofNat i)) 1 0 (.int .i64)
def addW1 (s r : E) : E := .ite (.cmp .lss r (.int .i64 (.ofNat 0))) s (.ite (.cmp .lss (.int .i64 (.ofNat 15)) r) s (.bin .or .u32 s (.shf .shl .u32 (.int .u32 (.ofNat 1)) r)))
def addW2 (s r : E) : E := .bin .or .u32 s (.bin .and .u32 (.shf .shl .u32 (.int .u32 (.ofNat 1)) (.conv .u64 r)) (.int .u32 (.ofNat 65535)))
noncomputable def DW : List (Nat × Def) := [(21, .fn (sortsP g21.ps) V21), (1021, .lp (sortsP (lp21_l.ins.map (·.2))) lp21_l.mu V21_l (badE lp21_l))]
theorem dsDW : DS phB DW := DS.put (DS.put (DS.nil _) ok21_l) ok21
theorem with1 : evS cxW DW 300 (.cmp .eql (.app 21 0 (toL (varsE 3))) (addW1 (.var 0) (elW 0))) [] ((varsE 3).set 1 (.int .i64 (.ofNat 1))) [] = true := by kernel_rfl
theorem with2 : evS cxW DW 300 (.cmp .eql (.app 21 0 (toL (varsE 3))) (addW1 (addW1 (.var 0) (elW 0)) (elW 1))) [] ((varsE 3).set 1 (.int .i64 (.ofNat 2))) [] = true := by kernel_rfl
theorem add_den {ρ : Nat → Value} {φ : Nat → List Value → List Value} {s r : E} (hs : So.has (.int .u32) (s.den ρ φ)) (hr : So.has (.int .i64) (r.den ρ φ)) : (addW1 s r).den ρ φ = (addW2 s r).den ρ φ ∧ So.has (.int .u32) ((addW1 s r).den ρ φ) := by
  obtain ⟨v, hv, hv1, hv2⟩ := hs
  obtain ⟨x, hx, hx1, hx2⟩ := hr
  simp only [lowOf, highOf] at hv1 hv2 hx1 hx2
  have wu : IntKind.u64.wrap x = x % 18446744073709551616 := by simp [IntKind.wrap, IntKind.bits, IntKind.signed]
  have key := withV v x hv1 (by omega) hx1 hx2
  have e : (addW1 s r).den ρ φ = (addW2 s r).den ρ φ := by
    simp only [addW1, addW2, E.den, hv, hx, vint_int, icmp, ibin, vbool_bool, wu]
    simp only [Int.ofNat_eq_natCast]
    show _ = Value.int .u32 (bits .or .u32 v (bits .and .u32 (ishf .shl .u32 1 (x % 18446744073709551616)) 65535))
    rw [← key]
    by_cases h1 : x < 0
    · simp [h1]
    · by_cases h2 : 15 < x
      · simp [h1, h2]
      · simp [h1, h2]
  refine ⟨e, ?_⟩
  rw [e]
  have h := E.so_has (Γ := [.int .u32, .int .i64]) (S := fun _ _ => .any) (ρ := fun i => if i = 0 then .int .u32 v else if i = 1 then .int .i64 x else undef) (φ := fun _ _ => []) ⟨fun i => by
    match i with
    | 0 => exact ⟨v, rfl, hv1, hv2⟩
    | 1 => exact ⟨x, rfl, hx1, hx2⟩
    | _ + 2 => trivial, fun _ _ _ => trivial⟩ (addW2 (.var 0) (.var 1))
  have h2 : (addW2 s r).den ρ φ = (addW2 (.var 0) (.var 1)).den (fun i => if i = 0 then .int .u32 v else if i = 1 then .int .i64 x else undef) (fun _ _ => []) := by
    simp only [addW2, E.den, hv, hx]
    simp
  rw [h2]
  exact h
theorem with_at {n : Nat} {y1 y2 : E} (hx : evS cxW DW 300 (.cmp .eql (.app 21 0 (toL (varsE 3))) y1) [] ((varsE 3).set 1 (.int .i64 (.ofNat n))) [] = true) (hyl : y1.lt 3 = true)
    (hy : ∀ ρ, So.has (.int .u32) (ρ 0) → y1.den ρ phB = y2.den ρ phB ∧ So.has (.int .u32) (y1.den ρ phB)) (fl : List Value) (h : (E.cmp .eql (.var 1) (.int .i64 (.ofNat n))).den (atS ssW fl) phB = .bool true) : phB 21 fl = [y2.den (atS ssW fl) phB] := by
  have F : Fits ssW (symS syB) (atS ssW fl) phB := ⟨fun i => coe_has _ _, enB.fit⟩
  obtain ⟨m, hm, _⟩ := F.var 1
  have hmn : m = Int.ofNat n := by
    simp only [E.den, hm, vint_int, icmp, Value.bool.injEq, beq_iff_eq] at h
    exact h
  subst hmn
  have key := evS_at (cx := cxW) (N := 3) (v := 1) F (fun g hg => absurd hg (by simp [cxW])) dsDW (by decide) hm (by kernel_rfl) hx
  have hag : ∀ i, i < 3 → asV (atS ssW fl) phB (varsE 3) i = atS ssW fl i := fun i hi => asV_vars _ _ hi
  obtain ⟨hy1, hy2⟩ := hy (atS ssW fl) (F.var 0)
  simp only [E.den, icmp, Value.bool.injEq, beq_iff_eq] at key
  have hd : (toL (varsE 3)).dens (asV (atS ssW fl) phB (varsE 3)) phB = (varsE 3).map (·.den (atS ssW fl) phB) := by rw [toL_dens, vars_dens]
  have hov : phB 21 fl = phB 21 ((varsE 3).map (·.den (atS ssW fl) phB)) := ok_vars (ss := ssW) (V := V21) ok21 (by kernel_rfl) fl
  rw [hd, (lt_den phB hag y1 hyl).1, ← hov] at key
  have hlen := VT.len_vals (n := 1) (T := V21) (atS ssW fl) phB (by kernel_rfl)
  have h0 : phB 21 fl = VT.vals (atS ssW fl) phB V21 := ok21 fl
  rw [← h0] at hlen
  have hfit := enB.fit 21 0 fl
  rw [show symS syB 21 0 = .int .u32 by kernel_rfl] at hfit
  rw [one_of hlen]
  obtain ⟨a, ha, _⟩ := hfit
  obtain ⟨b, hb, _⟩ := hy2
  rw [ha, hb] at key
  rw [ha, ← hy1, hb]
  simp only [vint_int] at key
  rw [key]
theorem el_has (i : Nat) (ρ : Nat → Value) (φ : Nat → List Value → List Value) : So.has (.int .i64) ((elW i).den ρ φ) := coe_has _ _
noncomputable def V21c : VT := .ite (.cmp .eql (.var 1) (.int .i64 (.ofNat 1))) (.leaf [addW2 (.var 0) (elW 0)]) (.ite (.cmp .eql (.var 1) (.int .i64 (.ofNat 2))) (.leaf [addW2 (addW2 (.var 0) (elW 0)) (elW 1)]) V21)
theorem add2_eq {ρ : Nat → Value} (h : So.has (.int .u32) (ρ 0)) : (addW1 (addW1 (.var 0) (elW 0)) (elW 1)).den ρ phB = (addW2 (addW2 (.var 0) (elW 0)) (elW 1)).den ρ phB ∧ So.has (.int .u32) ((addW1 (addW1 (.var 0) (elW 0)) (elW 1)).den ρ phB) := by
  have a1 := add_den (φ := phB) (s := .var 0) (r := elW 0) h (el_has 0 ρ phB)
  have a2 := add_den (φ := phB) (s := addW1 (.var 0) (elW 0)) (r := elW 1) a1.2 (el_has 1 ρ phB)
  refine ⟨a2.1.trans ?_, a2.2⟩
  unfold addW2 at *
  simp only [E.den] at a1 ⊢
  rw [a1.1]
theorem ok21c : (Def.fn ssW V21c).ok phB 21 :=
  case_ok (case_ok ok21 _ _ (with_at (n := 2) with2 (by kernel_rfl) (fun _ h => add2_eq h))) _ _ (with_at (n := 1) with1 (by kernel_rfl) (fun ρ h => add_den h (el_has 0 ρ phB)))

end Go.Proofs.Ytbhhfbenajcinaa
