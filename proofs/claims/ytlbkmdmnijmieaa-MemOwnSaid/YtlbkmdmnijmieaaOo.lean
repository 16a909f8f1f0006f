/- Layer 9 (memory): a step of the law, by another thread, whatever it is. -/
import Derived.Test.YtlbkmdmnijmieaaOn
namespace Go.Proofs.Ytlbkmdmnijmieaa
open Go Go.RowKit Rp Go.Maps
open Cq (U64 I64 isW nb mask)

theorem step_any {N Br g gr : Nat} {B : Bs} {v vr : Value} {Lr : List Ar} {i : Nat} {q : Sto} {W : World} (h : OI N B W g v i q) (hN : N < 900) (hi : i < 8) (hr : RS Br W gr vr noRows Lr) (hF : ∀ k, MBlk gr vr Lr k → B.f k) (hB : B.b ≤ Br)
    (kd T : Int) (hT : T ≠ i) (nr : Bool) (ix at' w vv : Int) (hat : U64 at') (hix : I64 ix) (hvv : U64 vv) :
    Calls Try.prog 14 #[.pointer (some ⟨g, 0, none⟩), .pointer (some ⟨gr, 0, none⟩), .agg #[.int .i64 kd, .int .i64 T, .bool nr, .int .i64 ix, .int .u64 at', .int .i64 w, .int .u64 vv]] W fun e W' => BV e ∧ OuV N B W g v i q W' := by
  by_cases hx : kd < 0 ∨ 9 < kd
  · exact step_x h hN hi hr hF hB kd T hT nr ix at' w vv hat hix hvv hx
  have hk : kd = 0 ∨ kd = 1 ∨ kd = 2 ∨ kd = 3 ∨ kd = 4 ∨ kd = 5 ∨ kd = 6 ∨ kd = 7 ∨ kd = 8 ∨ kd = 9 := by omega
  rcases hk with rfl | rfl | rfl | rfl | rfl | rfl | rfl | rfl | rfl | rfl
  · exact step_load0 h hN hi hr hF hB T hT nr ix at' w vv hat hix hvv
  · exact step_load1 h hN hi hr hF hB T hT nr ix at' w vv hat hix hvv
  · exact step_store2 h hN hi hr hF hB T hT nr ix at' w vv hat hix hvv
  · exact step_store3 h hN hi hr hF hB T hT nr ix at' w vv hat hix hvv
  · exact step_put h hN hi hr hF hB T hT nr ix at' w vv hat hix hvv
  · exact step_drain h hN hi hr hF hB T hT nr ix at' w vv hat hix hvv
  · exact step_flush h hN hi hr hF hB T hT nr ix at' w vv hat hix hvv
  · exact step_own h hN hi hr hF hB T hT nr ix at' w vv hat hix hvv
  · exact step_may h hN hi hr hF hB T hT nr ix at' w vv hat hix hvv
  · exact step_byte h hN hi hr hF hB T hT nr ix at' w vv hat hix hvv
end Go.Proofs.Ytlbkmdmnijmieaa
