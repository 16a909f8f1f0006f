import Derived.Test.YtbhhfbenajcinaaSXx
import Derived.KernelRfl
import Derived.Test.YtbhhfbenajcinaaMc
import Derived.Test.YtbhhfbenajcinaaSj
namespace Go.Proofs.Ytbhhfbenajcinaa
open Go Go.SX Go.Proofs
/-! The program's Bound and the document's -/
theorem ok_back {φ : Nat → List Value → List Value} {s K : Nat} {ss : List So} {V : VT} {G : List Value → List Value} (h : (Def.fn ss V).ok (updF φ K G) s) (hs : s ≠ K) (hn : V.noSym K = true) : (Def.fn ss V).ok φ s := fun fl => by
  have := h fl
  rwa [updF_ne φ hs, VT.noSym_vals _ φ K G hn] at this
theorem ok_fwd {φ : Nat → List Value → List Value} {s K : Nat} {ss : List So} {V : VT} {G : List Value → List Value} (h : (Def.fn ss V).ok φ s) (hs : s ≠ K) (hn : V.noSym K = true) : (Def.fn ss V).ok (updF φ K G) s := fun fl => by
  rw [updF_ne φ hs, VT.noSym_vals _ φ K G hn]
  exact h fl
theorem ok15d : (Def.fn ssI (.leaf [.app 8 0 (toL (varsE 20))])).ok ph14 15 := ok_fwd (K := 14) (ok_back (K := 5000) ok15c (by decide) (by kernel_rfl)) (by decide) (by kernel_rfl)
noncomputable def DBd : List (Nat × Def) := [(13, .fn (sortsP g13.ps) V13), (14, .fn (sortsP g14.ps) V14), (15, .fn ssI (.leaf [.app 8 0 (toL (varsE 20))])), (32, .fn (sortsP g32.ps) V32), (30, .fn (sortsP g30.ps) V30)]
theorem dsDBd : DS ph14 DBd := DS.put (DS.put (DS.put (DS.put (DS.put (DS.nil _) (DS.get ds14 (by kernel_rfl))) (DS.get ds14 (by kernel_rfl))) ok15d) (DS.get ds14 (by kernel_rfl))) (DS.get ds14 (by kernel_rfl))
noncomputable def ssB : List So := sortsP g13.ps
noncomputable def cxBd : Cx := ⟨Try.prog, ssB, [], [], sy14⟩
noncomputable def wordsE : E := match V30 with
  | .leaf es => toL es
  | _ => .nil
def opE (k : Nat) : E := .el (.var 1) (.bin .sub .i64 (.var 0) (.int .i64 (.ofNat k))) 20 0 (.int .i64)
noncomputable def wE (k : Nat) (w : ByteArray) : E := .seq (.idx (opE k) wordsE) (.val (.string w))
def jccB : ByteArray := ⟨#[106, 99, 99]⟩
def cmpB : ByteArray := ⟨#[99, 109, 112]⟩
noncomputable def factB (a b : Bool) : Facts := [(.cmp .eql (opE 1) (.int .i64 36), a), (wE 1 jccB, a), (.cmp .eql (opE 2) (.int .i64 8), b), (wE 2 cmpB, b)]
noncomputable def sameB : E := .ite (.beq (.app 13 2 (toL (varsE 2))) (.app 14 2 (toL (varsE 2)))) (.ite (.cmp .eql (.app 13 0 (toL (varsE 2))) (.app 14 0 (toL (varsE 2)))) (.cmp .eql (.app 13 1 (toL (varsE 2))) (.app 14 1 (toL (varsE 2)))) (.bool false)) (.bool false)
theorem bd_tt : evS cxBd DBd 2000 sameB [] (varsE 2) (factB true true) = true := by kernel_rfl
theorem bd_tf : evS cxBd DBd 2000 sameB [] (varsE 2) (factB true false) = true := by kernel_rfl
theorem bd_ft : evS cxBd DBd 2000 sameB [] (varsE 2) (factB false true) = true := by kernel_rfl
theorem bd_ff : evS cxBd DBd 2000 sameB [] (varsE 2) (factB false false) = true := by kernel_rfl
end Go.Proofs.Ytbhhfbenajcinaa
