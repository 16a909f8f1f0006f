/- Layer 21: the code's Decode, by contract. -/
import Derived.Test.YtclhmilecdjbiaaDoorQye
namespace Go.Proofs.YtclhmilecdjbiaaDoor
open Go Go.Proofs Go.RowKit Go.CX Go.SX Go.CX.A64
noncomputable def decW (c : Nat) (_ : Facts) : CX.SV → Bool
  | .tup [⟨true, cs⟩, ⟨false, [.e (.bool b)]⟩] => (match exsC cs with
    | some es => eqEs es (if Nat.beq c 0 then readE (.var 0) else zeroE) && b == Nat.beq c 0
    | none => false)
  | _ => false
noncomputable def decodeR (c : Nat) : Bool := endsC (cxX [.int .u32]) (extX [.int .u32]) 3000 0 21 [argW] 60 (wordF (.var 0) c) (decW c)
set_option maxRecDepth 100000
theorem decode_0 : decodeR 0 = true := by kernel_rfl
theorem decode_1 : decodeR 1 = true := by kernel_rfl
theorem decode_2 : decodeR 2 = true := by kernel_rfl
theorem decode_ends {V c : Nat} (hV : V < 4294967296) (hf : Facts.hold (rhoE (vsW V)) phX (wordF (.var 0) c)) (hr : decodeR c = true) (w : World) (hT : TabsA w) :
    Calls Tryd.prog 21 #[.int .u32 (V : Int)] w fun e w' => e = .returned (.tuple #[.agg (if c = 0 then readS V else zeroL).toArray, .bool (decide (c = 0))]) ∧ Below w.heap.size w w' := by
  have hs : All2 So.has [.int .u32] (vsW V) := ⟨⟨(V : Int), rfl, by show (0 : Int) ≤ (V : Int); omega, by show (V : Int) ≤ 4294967295; omega⟩, trivial⟩
  have hx : (E.var 0).den (rhoE (vsW V)) phX = .int .u32 (V : Int) := rhoW V
  obtain ⟨v, fs', g1, g2, g3⟩ := endsC_ok (cx := cxX [.int .u32]) rfl (namesOk_spec names_ok) (fitsX hs) hf (args := [argW]) (xs := [.int .u32 (V : Int)]) ⟨rfl, trivial⟩ hr
  unfold decW at g2
  split at g2
  · rename_i cs b
    split at g2
    · rename_i es hes
      rw [Bool.and_eq_true] at g2
      have he := eqEs_eq g2.1
      have hb : b = Nat.beq c 0 := by simpa using g2.2
      refine Calls.mono (g3 w (fun v hv => by simp [cxX] at hv) (extX_ok hT)) ?_
      rintro e w' ⟨y, β', rfl, ⟨vs, rfl, hvs⟩, hbl⟩
      match vs, hvs with
      | [y1, y2], ⟨⟨us, k1, k2⟩, k3, _⟩ =>
        have k3 : y2 = .bool b := k3
        have hus := all2_dens hes k2
        rw [he] at hus
        by_cases hc : c = 0
        · subst hc
          rw [show Nat.beq 0 0 = true from rfl, if_pos rfl, read_den hx] at hus
          rw [k1, k3, hus, hb, if_pos rfl]
          exact ⟨rfl, hbl⟩
        · rw [show Nat.beq c 0 = false from nbeq_no hc] at hus hb
          have hus : us = zeroL := hus
          rw [k1, k3, hus, hb, if_neg hc, decide_eq_false hc]
          exact ⟨rfl, hbl⟩
    · cases g2
  · cases g2
/-- Both Decodes answer the same of any word. -/
theorem adecode_any {V : Nat} (hV : V < 4294967296) (w : World) (hT : TabsA w) : Calls Tryd.prog 21 #[.int .u32 (V : Int)] w fun e w' => e = .returned (.tuple #[.agg (if mB V = true then readS V else zeroL).toArray, .bool (mB V)]) ∧ Below w.heap.size w w' := by
  have hx : (E.var 0).den (rhoE (vsW V)) phX = .int .u32 (V : Int) := rhoW V
  have hm := match_den hx
  obtain ⟨c, hc, hf, h0⟩ := word_cases hV hx
  have hr : decodeR c = true := by
    have : c = 0 ∨ c = 1 ∨ c = 2 := by omega
    rcases this with rfl | rfl | rfl
    · exact decode_0
    · exact decode_1
    · exact decode_2
  have hd := decode_ends hV hf hr w hT
  cases hq : mB V
  · have hne : c ≠ 0 := by
      intro e
      subst e
      have := hf _ List.mem_cons_self
      have this : (matchE (.var 0)).den (rhoE (vsW V)) phX = .bool true := this
      rw [hm, hq] at this
      cases this
    rw [if_neg hne, decide_eq_false hne] at hd
    exact hd
  · rw [h0 hq] at hd
    exact hd
end Go.Proofs.YtclhmilecdjbiaaDoor
