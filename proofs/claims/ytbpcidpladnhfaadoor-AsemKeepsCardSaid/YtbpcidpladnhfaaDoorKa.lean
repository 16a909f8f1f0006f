/- Layer 22: what an instruction leaves as it was: what carries it out. -/
import Derived.Test.YtbpcidpladnhfaaDoorAa
import Derived.Test.YtbpcidpladnhfaaDoorQn
namespace Go.Proofs.YtbpcidpladnhfaaDoor
open Go Go.Proofs Go.RowKit Go.CX Go.SX Go.CX.Cp
def syK : List (Nat × List So) := [(8, [.bool]), (9, [.bool])]
noncomputable def cxK : Cx := ⟨Tryd.prog, ssC ++ (ssE ++ [.int .u64]), [], [], syK⟩
set_option maxRecDepth 100000
theorem get_sum : sumR syK (getM 33) 1 31 = true := by kernel_rfl
theorem set_sum : sumR syK (setM 36) 1 31 = true := by kernel_rfl
theorem hold_sum : sumR syK (holdM 34) 1 16 = true := by kernel_rfl
/-- Whether an operation writes D. -/
def deB (k : Nat) : Bool := hasB k [100, 101]
noncomputable def hasQ (cx : Cx) (f : FuncId) : ExtT := fun g args _ n _ => if Nat.beq g f then (match args with
  | [.one ⟨false, [.e (.int .i64 (.ofNat k))]⟩, .one ⟨false, [.e (.val (.string s))]⟩] => if eqBytes s.data.toList [100, 101] && Nat.ble 1 k && Nat.ble k 47 then some (.ok ⟨.one ⟨false, [.e (.bool (deB k))]⟩, [], n⟩) else none
  | [.one ⟨false, [.e x]⟩, .one ⟨false, [.e (.val (.string s))]⟩] => if eqBytes s.data.toList [100, 101] && (cx.so x == .int .i64) then some (.ok ⟨.one ⟨false, [.e (.app 8 0 (toL [x]))]⟩, [], n⟩) else none
  | _ => none) else none
noncomputable def extK : ExtT := orX (orX (orX (smX cxK (getM 33)) (smX cxK (setM 36))) (orX (smX cxK (holdM 34)) (hasQ cxK 10))) (orX (conX cxK ⟨13, 9, psE⟩) (trueX 11))
noncomputable def esKA : List E := (List.range 11).map fun i => .var (i + 43)
noncomputable def esK (k : Nat) : List E := if Nat.beq k 0 then esKA else .int .i64 (Int.ofNat k) :: (List.range 10).map fun i => .var (i + 44)
noncomputable def keepR (k : Nat) : Bool := endsC cxK extK 3000 10 3 [cpuC, .one ⟨true, (esK k).map .e⟩, .one ⟨false, [.e (.var 54)]⟩] 60 [(.app 9 0 (toL (esK k)), !Nat.beq k 0)] (sureK cxK sameR 300)
end Go.Proofs.YtbpcidpladnhfaaDoor
