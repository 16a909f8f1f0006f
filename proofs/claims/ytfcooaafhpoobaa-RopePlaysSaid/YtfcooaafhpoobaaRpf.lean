/- Walks of layer 2: a call that is not too great. -/
import Derived.Test.YtfcooaafhpoobaaRpe
import Derived.Test.YtfcooaafhpoobaaRpb
namespace Go.Proofs.Ytfcooaafhpoobaa
open Go.RowKit Rp Go.Maps
open Cq (U64 I64 isW)

/-- a call -/
def opV (k w n m : Int) (L B : Value) (S : ByteArray) : Value := .agg #[.int .i64 k, .int .i64 w, .int .i64 n, .int .i64 m, L, B, .string S]
def cutS (S : ByteArray) : ByteArray := if S.size ≤ 40 then S else S.extract 0 40
def cutN (n m : Nat) : Nat := if n ≤ m then n else m
theorem cutS_le (S : ByteArray) : (cutS S).size ≤ 40 := by
  unfold cutS
  split
  · assumption
  · rw [ByteArray.size_extract]; omega
theorem cutN_le (n m : Nat) : cutN n m ≤ m ∧ cutN n m ≤ n := by unfold cutN; split <;> omega
set_option maxHeartbeats 2000000 in
set_option maxRecDepth 100000 in
theorem small_any (k w n m : Int) (AL : Option Addr) (lL cL : Nat) (AB : Option Addr) (lB cB : Nat) (S : ByteArray) (W : World) (hL : lL ≤ cL) (hL2 : cL ≤ maxLen) (hB : lB ≤ cB) (hB2 : cB ≤ maxLen) (hS : S.size ≤ maxLen) :
    Calls Try.prog 45 #[opV k w n m (.slice AL lL cL) (.slice AB lB cB) S] W fun e W' => e = .returned (opV k w n m (.slice AL (cutN lL 6) cL) (.slice AB (cutN lB 40) cB) (cutS S)) ∧ Below W.heap.size W W' := by
  unfold opV
  unfold maxLen at hL2 hB2 hS
  by_cases h1 : lL ≤ 6
  all_goals by_cases h2 : lB ≤ 40
  all_goals by_cases h3 : S.size ≤ 40
  all_goals
    first | rw [show cutN lL 6 = lL from if_pos h1] | rw [show cutN lL 6 = 6 from if_neg h1]
    first | rw [show cutN lB 40 = lB from if_pos h2] | rw [show cutN lB 40 = 40 from if_neg h2]
    first | rw [show cutS S = S from if_pos h3] | rw [show cutS S = S.extract 0 40 from if_neg h3]
    go_enter Try.func45, Try.ntmps45
    go_wp2_with fail
    exact bodyPost_ret (v := opV k w n m _ _ _) (by simp [opV, results, Try.results45, go_sem]) rfl ⟨rfl, ((Below.refl _ _).alloc (Nat.le_refl _) _).alloc (by simp) _⟩
end Go.Proofs.Ytfcooaafhpoobaa
