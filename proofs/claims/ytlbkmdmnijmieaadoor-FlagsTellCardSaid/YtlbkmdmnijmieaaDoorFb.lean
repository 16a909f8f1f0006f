/- Plain mathematics of layer 8: products and quotients. -/
import Derived.Test.YtlbkmdmnijmieaaDoorFa
import Derived.Test.YtlbkmdmnijmieaaDoorBitv
namespace Cq
open Go

/-! products: both halves -/
def pHi (a b : Int) (s : Bool) (w : Int) : Int := if s then shi (sx a w) (sx b w) else mhi (zx a w * zx b w)
def pLo (a b : Int) (s : Bool) (w : Int) : Int := if s then mlo (sx a w * sx b w) else mlo (zx a w * zx b w)
theorem pHi_u64 (a b : Int) (s : Bool) (w : Int) : U64 (pHi a b s w) := by
  unfold pHi; split
  · exact shi_u64 _ _
  · exact mhi_u64 (zx_u64 w) (zx_u64 w)
theorem pLo_u64 (a b : Int) (s : Bool) (w : Int) : U64 (pLo a b s w) := by
  unfold pLo; split <;> exact mlo_u64 _
def pUp (a b : Int) (s : Bool) (w : Int) : Int := if w = 8 then pHi a b s w else zx (pLo a b s w / 2 ^ nb w) w
theorem pUp_u64 (a b : Int) (s : Bool) (w : Int) : U64 (pUp a b s w) := by
  unfold pUp; split
  · exact pHi_u64 _ _ _ _
  · exact zx_u64 w
def pOver (a b : Int) (s : Bool) (w : Int) : Bool := pUp a b s w != (if s && neg (zx (pLo a b s w) w) w then mask w else 0)
theorem or_parts {x y : Int} (m : Nat) (hx : 0 ≤ x ∧ x < 2 ^ m) (hy : U64 y) (hd : y % 2 ^ m = 0) (hm : m ≤ 64) : bits .or .u64 x y = x + y := by
  have ⟨p, q⟩ := pow_le m hm
  unfold U64 at hy
  rw [u64_or x y hx.1 (by omega) hy.1 hy.2, Nat.or_comm]
  have e1 : y.toNat % 2 ^ m = 0 := by
    have : ((y.toNat % 2 ^ m : Nat) : Int) = 0 := by
      rw [Int.natCast_emod, Int.natCast_pow, Int.toNat_of_nonneg hy.1]; exact hd
    omega
  have e2 : x.toNat < 2 ^ m := by
    have : ((x.toNat : Nat) : Int) < ((2 ^ m : Nat) : Int) := by rw [Int.natCast_pow, Int.toNat_of_nonneg hx.1]; exact hx.2
    omega
  rw [nat_join m _ _ e1 e2]; omega
theorem up_1 {h l : Int} (hl : U64 l) : zx (bits .or .u64 (l / 256) (IntKind.u64.wrap (h * 72057594037927936))) 1 = zx (l / 2 ^ 8) 1 := by
  unfold U64 at hl
  rw [or_parts 56 (by omega) (u64_wrap _) (by rw [IntKind.wrap_u64]; omega) (by decide), IntKind.wrap_u64]
  unfold zx; rw [show nb 1 = 8 from rfl]; omega
theorem up_2 {h l : Int} (hl : U64 l) : zx (bits .or .u64 (l / 65536) (IntKind.u64.wrap (h * 281474976710656))) 2 = zx (l / 2 ^ 16) 2 := by
  unfold U64 at hl
  rw [or_parts 48 (by omega) (u64_wrap _) (by rw [IntKind.wrap_u64]; omega) (by decide), IntKind.wrap_u64]
  unfold zx; rw [show nb 2 = 16 from rfl]; omega
theorem up_4 {h l : Int} (hl : U64 l) : zx (bits .or .u64 (l / 4294967296) (IntKind.u64.wrap (h * 4294967296))) 4 = zx (l / 2 ^ 32) 4 := by
  unfold U64 at hl
  rw [or_parts 32 (by omega) (u64_wrap _) (by rw [IntKind.wrap_u64]; omega) (by decide), IntKind.wrap_u64]
  unfold zx; rw [show nb 4 = 32 from rfl]; omega
theorem up_8 {h : Int} (hh : U64 h) : zx (bits .or .u64 0 h) 8 = h := by
  rw [or_parts 0 (by decide) hh (by rw [Int.pow_zero, Int.emod_one]) (by decide)]
  unfold zx; rw [show nb 8 = 64 from rfl]; unfold U64 at hh; omega
theorem up_8' {h l : Int} (hh : U64 h) (hl : U64 l) : zx (bits .or .u64 (l / 18446744073709551616) (IntKind.u64.wrap h)) 8 = h := by
  have e : l / 18446744073709551616 = 0 := by unfold U64 at hl; omega
  rw [e, wrap_of_u64 hh]; exact up_8 hh
theorem zx8 {h : Int} (hh : U64 h) : zx h 8 = h := by
  unfold zx; rw [show nb 8 = 64 from rfl]; unfold U64 at hh; omega

/-! quotients -/
def isQ (w : Int) : Bool := w == 1 || w == 2 || w == 4
theorem isQ_cases {w : Int} (h : isQ w = true) : w = 1 ∨ w = 2 ∨ w = 4 := by simp [isQ] at h; omega
/-- the number of two halves -/
def qN (hi lo w : Int) : Int := zx hi w * 2 ^ nb w + zx lo w
theorem qN_bd {w : Int} (hi lo : Int) (h : isQ w = true) : 0 ≤ qN hi lo w ∧ qN hi lo w < 2 ^ (2 * nb w) ∧ U64 (qN hi lo w) := by
  have h1 := zx_lt hi w
  have h2 := zx_lt lo w
  unfold qN U64
  rcases isQ_cases h with rfl | rfl | rfl <;> simp [nb] at * <;> omega
theorem qN_or {w : Int} (hi lo : Int) (h : isQ w = true) : bits .or .u64 (IntKind.u64.wrap (zx hi w * 2 ^ nb w)) (zx lo w) = qN hi lo w := by
  have h1 := zx_lt hi w
  have h2 := zx_lt lo w
  have hn : nb w ≤ 32 := by rcases isQ_cases h with rfl | rfl | rfl <;> decide
  have e : IntKind.u64.wrap (zx hi w * 2 ^ nb w) = zx hi w * 2 ^ nb w := wrap_of_u64 (by
    unfold U64; rcases isQ_cases h with rfl | rfl | rfl <;> simp [nb] at * <;> omega)
  have hu : U64 (zx hi w * 2 ^ nb w) := by rw [← e]; exact u64_wrap _
  have hc : bits .or .u64 (zx hi w * 2 ^ nb w) (zx lo w) = bits .or .u64 (zx lo w) (zx hi w * 2 ^ nb w) := by
    show IntKind.u64.wrap _ = IntKind.u64.wrap _
    rw [BitVec.or_comm]
  rw [e, hc, or_parts (nb w) h2 hu (Int.mul_emod_left _ _) (by omega)]
  unfold qN; omega
theorem qN_sum {w : Int} (hi lo : Int) (h : isQ w = true) : IntKind.u64.wrap (IntKind.u64.wrap (zx hi w * 2 ^ nb w) + zx lo w) = qN hi lo w := by
  have hu := (qN_bd hi lo h).2.2
  rw [IntKind.wrap_u64, IntKind.wrap_u64]
  unfold U64 qN at *
  omega
theorem zx_qN {w : Int} (hi lo : Int) (h : isQ w = true) : zx (qN hi lo w) (2 * w) = qN hi lo w := by
  have ⟨h1, h2, _⟩ := qN_bd hi lo h
  unfold zx
  generalize qN hi lo w = x at *
  rcases isQ_cases h with rfl | rfl | rfl <;> simp [nb] at * <;> omega
theorem neg_qN {w : Int} (hi lo : Int) (h : isQ w = true) : neg (qN hi lo w) (2 * w) = neg hi w := by
  have hw : isW w = true := by rcases isQ_cases h with rfl | rfl | rfl <;> decide
  have hw2 : isW (2 * w) = true := by rcases isQ_cases h with rfl | rfl | rfl <;> decide
  rw [neg_ge _ hw, neg_ge _ hw2, zx_qN hi lo h]
  have h1 := zx_lt hi w
  have h2 := zx_lt lo w
  unfold qN
  rcases isQ_cases h with rfl | rfl | rfl <;> simp [nb] at * <;> omega
end Cq
