/- Layer 23: a Const, worked: all runs. -/
import Derived.Test.YthcncbbnjbhdkaaGreatDoorSka0
import Derived.Test.YthcncbbnjbhdkaaGreatDoorSka1
import Derived.Test.YthcncbbnjbhdkaaGreatDoorSka2
import Derived.Test.YthcncbbnjbhdkaaGreatDoorSka3
import Derived.Test.YthcncbbnjbhdkaaGreatDoorSr
import Derived.Test.YthcncbbnjbhdkaaGreatDoorSyz
import Derived.KernelRfl
namespace Go.Proofs.YthcncbbnjbhdkaaGreatDoor
open Go Go.Proofs Go.RowKit Go.CX Go.SX Go.CX.Cp
theorem constK_all : ∀ (y : Bool) (a b c d : Nat), a < 3 → b < 3 → c < 3 → d < 3 → constK y [a, b, c, d] = true := by
  intro y a b c d ha hb hc hd
  match y, a, b, c, d with
  | false, 0, 0, 0, 0 => exact constK_f_0000
  | false, 0, 0, 0, 1 => exact constK_f_0001
  | false, 0, 0, 0, 2 => exact constK_f_0002
  | false, 0, 0, 1, 0 => exact constK_f_0010
  | false, 0, 0, 1, 1 => exact constK_f_0011
  | false, 0, 0, 1, 2 => exact constK_f_0012
  | false, 0, 0, 2, 0 => exact constK_f_0020
  | false, 0, 0, 2, 1 => exact constK_f_0021
  | false, 0, 0, 2, 2 => exact constK_f_0022
  | false, 0, 1, 0, 0 => exact constK_f_0100
  | false, 0, 1, 0, 1 => exact constK_f_0101
  | false, 0, 1, 0, 2 => exact constK_f_0102
  | false, 0, 1, 1, 0 => exact constK_f_0110
  | false, 0, 1, 1, 1 => exact constK_f_0111
  | false, 0, 1, 1, 2 => exact constK_f_0112
  | false, 0, 1, 2, 0 => exact constK_f_0120
  | false, 0, 1, 2, 1 => exact constK_f_0121
  | false, 0, 1, 2, 2 => exact constK_f_0122
  | false, 0, 2, 0, 0 => exact constK_f_0200
  | false, 0, 2, 0, 1 => exact constK_f_0201
  | false, 0, 2, 0, 2 => exact constK_f_0202
  | false, 0, 2, 1, 0 => exact constK_f_0210
  | false, 0, 2, 1, 1 => exact constK_f_0211
  | false, 0, 2, 1, 2 => exact constK_f_0212
  | false, 0, 2, 2, 0 => exact constK_f_0220
  | false, 0, 2, 2, 1 => exact constK_f_0221
  | false, 0, 2, 2, 2 => exact constK_f_0222
  | false, 1, 0, 0, 0 => exact constK_f_1000
  | false, 1, 0, 0, 1 => exact constK_f_1001
  | false, 1, 0, 0, 2 => exact constK_f_1002
  | false, 1, 0, 1, 0 => exact constK_f_1010
  | false, 1, 0, 1, 1 => exact constK_f_1011
  | false, 1, 0, 1, 2 => exact constK_f_1012
  | false, 1, 0, 2, 0 => exact constK_f_1020
  | false, 1, 0, 2, 1 => exact constK_f_1021
  | false, 1, 0, 2, 2 => exact constK_f_1022
  | false, 1, 1, 0, 0 => exact constK_f_1100
  | false, 1, 1, 0, 1 => exact constK_f_1101
  | false, 1, 1, 0, 2 => exact constK_f_1102
  | false, 1, 1, 1, 0 => exact constK_f_1110
  | false, 1, 1, 1, 1 => exact constK_f_1111
  | false, 1, 1, 1, 2 => exact constK_f_1112
  | false, 1, 1, 2, 0 => exact constK_f_1120
  | false, 1, 1, 2, 1 => exact constK_f_1121
  | false, 1, 1, 2, 2 => exact constK_f_1122
  | false, 1, 2, 0, 0 => exact constK_f_1200
  | false, 1, 2, 0, 1 => exact constK_f_1201
  | false, 1, 2, 0, 2 => exact constK_f_1202
  | false, 1, 2, 1, 0 => exact constK_f_1210
  | false, 1, 2, 1, 1 => exact constK_f_1211
  | false, 1, 2, 1, 2 => exact constK_f_1212
  | false, 1, 2, 2, 0 => exact constK_f_1220
  | false, 1, 2, 2, 1 => exact constK_f_1221
  | false, 1, 2, 2, 2 => exact constK_f_1222
  | false, 2, 0, 0, 0 => exact constK_f_2000
  | false, 2, 0, 0, 1 => exact constK_f_2001
  | false, 2, 0, 0, 2 => exact constK_f_2002
  | false, 2, 0, 1, 0 => exact constK_f_2010
  | false, 2, 0, 1, 1 => exact constK_f_2011
  | false, 2, 0, 1, 2 => exact constK_f_2012
  | false, 2, 0, 2, 0 => exact constK_f_2020
  | false, 2, 0, 2, 1 => exact constK_f_2021
  | false, 2, 0, 2, 2 => exact constK_f_2022
  | false, 2, 1, 0, 0 => exact constK_f_2100
  | false, 2, 1, 0, 1 => exact constK_f_2101
  | false, 2, 1, 0, 2 => exact constK_f_2102
  | false, 2, 1, 1, 0 => exact constK_f_2110
  | false, 2, 1, 1, 1 => exact constK_f_2111
  | false, 2, 1, 1, 2 => exact constK_f_2112
  | false, 2, 1, 2, 0 => exact constK_f_2120
  | false, 2, 1, 2, 1 => exact constK_f_2121
  | false, 2, 1, 2, 2 => exact constK_f_2122
  | false, 2, 2, 0, 0 => exact constK_f_2200
  | false, 2, 2, 0, 1 => exact constK_f_2201
  | false, 2, 2, 0, 2 => exact constK_f_2202
  | false, 2, 2, 1, 0 => exact constK_f_2210
  | false, 2, 2, 1, 1 => exact constK_f_2211
  | false, 2, 2, 1, 2 => exact constK_f_2212
  | false, 2, 2, 2, 0 => exact constK_f_2220
  | false, 2, 2, 2, 1 => exact constK_f_2221
  | false, 2, 2, 2, 2 => exact constK_f_2222
  | true, 0, 0, 0, 0 => exact constK_t_0000
  | true, 0, 0, 0, 1 => exact constK_t_0001
  | true, 0, 0, 0, 2 => exact constK_t_0002
  | true, 0, 0, 1, 0 => exact constK_t_0010
  | true, 0, 0, 1, 1 => exact constK_t_0011
  | true, 0, 0, 1, 2 => exact constK_t_0012
  | true, 0, 0, 2, 0 => exact constK_t_0020
  | true, 0, 0, 2, 1 => exact constK_t_0021
  | true, 0, 0, 2, 2 => exact constK_t_0022
  | true, 0, 1, 0, 0 => exact constK_t_0100
  | true, 0, 1, 0, 1 => exact constK_t_0101
  | true, 0, 1, 0, 2 => exact constK_t_0102
  | true, 0, 1, 1, 0 => exact constK_t_0110
  | true, 0, 1, 1, 1 => exact constK_t_0111
  | true, 0, 1, 1, 2 => exact constK_t_0112
  | true, 0, 1, 2, 0 => exact constK_t_0120
  | true, 0, 1, 2, 1 => exact constK_t_0121
  | true, 0, 1, 2, 2 => exact constK_t_0122
  | true, 0, 2, 0, 0 => exact constK_t_0200
  | true, 0, 2, 0, 1 => exact constK_t_0201
  | true, 0, 2, 0, 2 => exact constK_t_0202
  | true, 0, 2, 1, 0 => exact constK_t_0210
  | true, 0, 2, 1, 1 => exact constK_t_0211
  | true, 0, 2, 1, 2 => exact constK_t_0212
  | true, 0, 2, 2, 0 => exact constK_t_0220
  | true, 0, 2, 2, 1 => exact constK_t_0221
  | true, 0, 2, 2, 2 => exact constK_t_0222
  | true, 1, 0, 0, 0 => exact constK_t_1000
  | true, 1, 0, 0, 1 => exact constK_t_1001
  | true, 1, 0, 0, 2 => exact constK_t_1002
  | true, 1, 0, 1, 0 => exact constK_t_1010
  | true, 1, 0, 1, 1 => exact constK_t_1011
  | true, 1, 0, 1, 2 => exact constK_t_1012
  | true, 1, 0, 2, 0 => exact constK_t_1020
  | true, 1, 0, 2, 1 => exact constK_t_1021
  | true, 1, 0, 2, 2 => exact constK_t_1022
  | true, 1, 1, 0, 0 => exact constK_t_1100
  | true, 1, 1, 0, 1 => exact constK_t_1101
  | true, 1, 1, 0, 2 => exact constK_t_1102
  | true, 1, 1, 1, 0 => exact constK_t_1110
  | true, 1, 1, 1, 1 => exact constK_t_1111
  | true, 1, 1, 1, 2 => exact constK_t_1112
  | true, 1, 1, 2, 0 => exact constK_t_1120
  | true, 1, 1, 2, 1 => exact constK_t_1121
  | true, 1, 1, 2, 2 => exact constK_t_1122
  | true, 1, 2, 0, 0 => exact constK_t_1200
  | true, 1, 2, 0, 1 => exact constK_t_1201
  | true, 1, 2, 0, 2 => exact constK_t_1202
  | true, 1, 2, 1, 0 => exact constK_t_1210
  | true, 1, 2, 1, 1 => exact constK_t_1211
  | true, 1, 2, 1, 2 => exact constK_t_1212
  | true, 1, 2, 2, 0 => exact constK_t_1220
  | true, 1, 2, 2, 1 => exact constK_t_1221
  | true, 1, 2, 2, 2 => exact constK_t_1222
  | true, 2, 0, 0, 0 => exact constK_t_2000
  | true, 2, 0, 0, 1 => exact constK_t_2001
  | true, 2, 0, 0, 2 => exact constK_t_2002
  | true, 2, 0, 1, 0 => exact constK_t_2010
  | true, 2, 0, 1, 1 => exact constK_t_2011
  | true, 2, 0, 1, 2 => exact constK_t_2012
  | true, 2, 0, 2, 0 => exact constK_t_2020
  | true, 2, 0, 2, 1 => exact constK_t_2021
  | true, 2, 0, 2, 2 => exact constK_t_2022
  | true, 2, 1, 0, 0 => exact constK_t_2100
  | true, 2, 1, 0, 1 => exact constK_t_2101
  | true, 2, 1, 0, 2 => exact constK_t_2102
  | true, 2, 1, 1, 0 => exact constK_t_2110
  | true, 2, 1, 1, 1 => exact constK_t_2111
  | true, 2, 1, 1, 2 => exact constK_t_2112
  | true, 2, 1, 2, 0 => exact constK_t_2120
  | true, 2, 1, 2, 1 => exact constK_t_2121
  | true, 2, 1, 2, 2 => exact constK_t_2122
  | true, 2, 2, 0, 0 => exact constK_t_2200
  | true, 2, 2, 0, 1 => exact constK_t_2201
  | true, 2, 2, 0, 2 => exact constK_t_2202
  | true, 2, 2, 1, 0 => exact constK_t_2210
  | true, 2, 2, 1, 1 => exact constK_t_2211
  | true, 2, 2, 1, 2 => exact constK_t_2212
  | true, 2, 2, 2, 0 => exact constK_t_2220
  | true, 2, 2, 2, 1 => exact constK_t_2221
  | true, 2, 2, 2, 2 => exact constK_t_2222
  | _, n + 3, _, _, _ => omega
  | _, _, n + 3, _, _ => omega
  | _, _, _, n + 3, _ => omega
  | _, _, _, _, n + 3 => omega
end Go.Proofs.YthcncbbnjbhdkaaGreatDoor

/- Layer 23: a step's value, worked in some registers: what it is, whichever they are. -/
namespace Go.Proofs.YthcncbbnjbhdkaaGreatDoor
open Go Go.Proofs Go.RowKit Go.CX Go.SX Go.CX.Cp
def i64B (p : Int) : Prop := -9223372036854775808 ≤ p ∧ p ≤ 9223372036854775807
/-- The registers may be, and those that are read are unlike. -/
def goodB (p0 p1 p2 p3 : Int) : Bool := decide (0 ≤ p0 ∧ p0 < 31 ∧ 0 ≤ p1 ∧ p1 < 31 ∧ 0 ≤ p2 ∧ p2 < 31 ∧ 0 ≤ p3 ∧ p3 < 31 ∧ p1 ≠ p2 ∧ p2 ≠ p3 ∧ p3 ≠ p1)
def psV (p0 p1 p2 p3 : Int) : List Value := [.int .i64 p0, .int .i64 p1, .int .i64 p2, .int .i64 p3]
def ss3 : List So := [.int .u64, .int .u64, .int .u64]
def ss4 : List So := [.int .i64, .int .i64, .int .i64, .int .i64]
section
variable {ov ws : List Value} (ho : All2 So.has ssO ov) (hw : All2 So.has ss3 ws)
 include ho hw
theorem fitsK {p0 p1 p2 p3 : Int} (h0 : i64B p0) (h1 : i64B p1) (h2 : i64B p2) (h3 : i64B p3) : Fits cxK.Γ cxK.S (rho (ov ++ (ws ++ psV p0 p1 p2 p3))) phX :=
  ⟨fun i => all2_get (all2_app ho (all2_app hw (show All2 So.has ss4 (psV p0 p1 p2 p3) from ⟨⟨p0, rfl, h0.1, h0.2⟩, ⟨p1, rfl, h1.1, h1.2⟩, ⟨p2, rfl, h2.1, h2.2⟩, ⟨p3, rfl, h3.1, h3.2⟩, trivial⟩))) i, fitX⟩
theorem at_lo {ps : List Value} {i : Nat} (hi : i < 9) : rho (ov ++ (ws ++ ps)) i = ov.getD i undef := by
  have _ := hw
  have hl : ov.length = 9 := ho.length.symm
  show (ov ++ _).getD i undef = _
  rw [List.getD_eq_getElem?_getD, List.getD_eq_getElem?_getD, List.getElem?_append_left (by omega)]
theorem at_mid {ps : List Value} {i : Nat} (hi : i < 3) : rho (ov ++ (ws ++ ps)) (9 + i) = ws.getD i undef := by
  have hl : ov.length = 9 := ho.length.symm
  have hl3 : ws.length = 3 := hw.length.symm
  show (ov ++ _).getD (9 + i) undef = _
  rw [List.getD_eq_getElem?_getD, List.getD_eq_getElem?_getD, List.getElem?_append_right (by omega), hl, Nat.add_sub_cancel_left, List.getElem?_append_left (by omega)]
theorem at_hi {ps : List Value} {i : Nat} : rho (ov ++ (ws ++ ps)) (12 + i) = ps.getD i undef := by
  have hl : ov.length = 9 := ho.length.symm
  have hl3 : ws.length = 3 := hw.length.symm
  show (ov ++ _).getD (12 + i) undef = _
  rw [List.getD_eq_getElem?_getD, List.getD_eq_getElem?_getD, List.getElem?_append_right (by omega), List.getElem?_append_right (by omega), hl, hl3]
  congr 2
  omega
theorem argsK_is {o : List E} {p0 p1 p2 p3 : Int} (h : o.map (·.den (rho (ov ++ (ws ++ psV p0 p1 p2 p3))) phX) = ov) : All2 (CX.SV.is (rho (ov ++ (ws ++ psV p0 p1 p2 p3))) phX fun _ => none) (argsK o) [.agg ov.toArray, .agg ws.toArray, .agg (psV p0 p1 p2 p3).toArray] := by
  have hh : ∀ {ρ : Nat → Value} (es : List E) (vs : List Value), es.map (·.den ρ phX) = vs → All2 (CX.SC.is ρ phX fun _ => none) (es.map .e) vs := by
    intro ρ es
    induction es with
    | nil => intro vs h; subst h; trivial
    | cons e es ih => intro vs h; subst h; exact ⟨rfl, ih _ rfl⟩
  have hl3 : ws.length = 3 := hw.length.symm
  refine ⟨⟨ov, rfl, hh o ov h⟩, ⟨ws, rfl, ?_⟩, ⟨psV p0 p1 p2 p3, rfl, ?_⟩, trivial⟩
  · refine hh [.var 9, .var 10, .var 11] ws ?_
    show [rho _ 9, rho _ 10, rho _ 11] = ws
    rw [show (9 : Nat) = 9 + 0 from rfl, show (10 : Nat) = 9 + 1 from rfl, show (11 : Nat) = 9 + 2 from rfl, at_mid ho hw (by decide), at_mid ho hw (by decide), at_mid ho hw (by decide)]
    match ws, hl3 with
    | [a, b, c], _ => rfl
  · refine hh [.var 12, .var 13, .var 14, .var 15] _ ?_
    show [rho _ 12, rho _ 13, rho _ 14, rho _ 15] = _
    rw [show (12 : Nat) = 12 + 0 from rfl, show (13 : Nat) = 12 + 1 from rfl, show (14 : Nat) = 12 + 2 from rfl, show (15 : Nat) = 12 + 3 from rfl, at_hi ho hw, at_hi ho hw, at_hi ho hw, at_hi ho hw]
    rfl
end
theorem vwK_ok {W : World} (hT : TabsA W) {ρ : Nat → Value} : ∀ v ∈ cxK.vw, VwC v ρ W := by
  intro v hv
  refine Or.inl (hT.vw v ?_)
  have hv : v = rowsV := List.mem_singleton.1 hv
  rw [hv]
  exact List.mem_cons_self
theorem extK_ok {ms ds : List Pt} {ws : Base} (hm : ExtOk ws cxK phX (ptsX cxK ms)) (hd : ExtOk ws cxK phX (ptsX cxK ds)) : ExtOk ws cxK phX (extK ms ds) :=
  orX_ok (orX_ok (enc_ext rfl fun _ => rfl) (orX_ok hm hd)) (orX_ok (getC_ok (sum_ok (cx := cxK) rfl rgetX_sum)) (sum_ok (cx := cxK) rfl rsetX_sum))
theorem nil_ok {ws : Base} : ExtOk ws cxK phX (ptsX cxK []) := ext0_ok _ _ _
/-- It is there, and it is this. -/
theorem work_good {ms ds : List Pt} {o : List E} {fs : Facts} {t : E} {ρ : Nat → Value} {xs : List Value} (F : Fits cxK.Γ cxK.S ρ phX) (hf : fs.hold ρ phX) (hg : goodF.hold ρ phX) (ha : All2 (CX.SV.is ρ phX fun _ => none) (argsK o) xs)
    (h : leafK fs (treeK ms ds o (fs ++ goodF)) = some t) (W : World) (hT : TabsA W) (hm : ∀ ws : Base, ExtOk ws cxK phX (ptsX cxK ms)) (hd : ∀ ws : Base, ExtOk ws cxK phX (ptsX cxK ds)) :
    Calls Tryz.prog 29 xs.toArray W fun e W' => e = .returned (.tuple #[t.den ρ phX, .bool true]) ∧ Below W.heap.size W W' := by
  refine tree_sound (cx := cxK) (ext := extK ms ds) (n := 3000) (D := 10) rfl (namesOk_spec names_ok) (vwK_ok hT) (extK_ok (hm _) (hd _)) F ha 60 (fs ++ goodF) (hold_app hf hg) ?_
  unfold leafK at h
  split at h
  · rename_i t' b heq
    split at h
    · rename_i hc
      simp only [Option.some.injEq] at h
      subst h
      simp only [Bool.and_eq_true] at hc
      have hb := decK_sound F hf (eq_of_beq hc.2.2)
      unfold treeK at heq
      rw [heq]
      intro x β' w' hx hbl
      obtain ⟨vs, h1, h2⟩ := hx
      match vs, h2 with
      | [u, v], ⟨g1, g2, _⟩ =>
        have g1 : u = t'.den ρ phX := g1
        have g2 : v = b.den ρ phX := g2
        rw [h1, g1, g2, hb]
        exact ⟨rfl, hbl⟩
    · cases h
  · cases h
/-- There is none. -/
theorem work_no {o : List E} {fs : Facts} {ρ : Nat → Value} {xs : List Value} (F : Fits cxK.Γ cxK.S ρ phX) (hf : fs.hold ρ phX) (ha : All2 (CX.SV.is ρ phX fun _ => none) (argsK o) xs) (h : noR o fs = true) (W : World) (hT : TabsA W) :
    Calls Tryz.prog 29 xs.toArray W fun e W' => e = .returned (.tuple #[.int .u64 0, .bool false]) ∧ Below W.heap.size W W' := by
  unfold noR at h
  obtain ⟨v, fs', h1, h2, h3⟩ := endsC_ok (cx := cxK) rfl (namesOk_spec names_ok) F hf ha h
  refine (h3 W (vwK_ok hT) (extK_ok nil_ok nil_ok)).mono ?_
  rintro e w' ⟨x, β', rfl, hx, hb⟩
  refine ⟨?_, hb⟩
  unfold noneK at h2
  split at h2
  · rename_i t b
    rw [Bool.and_eq_true] at h2
    have hb := decK_sound F h1 (eq_of_beq h2.2)
    obtain ⟨vs, g1, g2⟩ := hx
    match vs, g2 with
    | [u, v], ⟨k1, k2, _⟩ =>
      have k1 : u = t.den ρ phX := k1
      have k2 : v = b.den ρ phX := k2
      rw [g1, k1, k2, hb, E.eqv_eq h2.1]
      rfl
  · cases h2
/-- A step is worked, or not, whichever the registers. -/
def Wk (ov ws : List Value) : Prop := ∃ (V : Value) (m : Bool), (So.int .u64).has V ∧ ∀ p0 p1 p2 p3 : Int, i64B p0 → i64B p1 → i64B p2 → i64B p3 → ∀ W : World, TabsA W →
  Calls Tryz.prog 29 #[.agg ov.toArray, .agg ws.toArray, .agg (psV p0 p1 p2 p3).toArray] W fun e W' => e = .returned (.tuple #[if m && goodB p0 p1 p2 p3 then V else .int .u64 0, .bool (m && goodB p0 p1 p2 p3)]) ∧ Below W.heap.size W W'
section
variable {ov ws : List Value} (ho : All2 So.has ssO ov) (hw : All2 So.has ss3 ws)
 include ho hw
theorem any_den {ps : List Value} : opAny.map (·.den (rho (ov ++ (ws ++ ps))) phX) = ov := by
  have hl : ov.length = 9 := ho.length.symm
  show [rho _ 0, rho _ 1, rho _ 2, rho _ 3, rho _ 4, rho _ 5, rho _ 6, rho _ 7, rho _ 8] = ov
  rw [at_lo ho hw (by decide), at_lo ho hw (by decide), at_lo ho hw (by decide), at_lo ho hw (by decide), at_lo ho hw (by decide), at_lo ho hw (by decide), at_lo ho hw (by decide), at_lo ho hw (by decide), at_lo ho hw (by decide)]
  match ov, hl with
  | [a, b, c, d, e, f, g, h, i], _ => rfl
variable {p0 p1 p2 p3 : Int}
theorem lt_den0 {p : Int} {i : Nat} (hi : (psV p0 p1 p2 p3).getD i undef = .int .i64 p) (k : Nat) : (ixLt (.var (12 + i)) k).den (rho (ov ++ (ws ++ psV p0 p1 p2 p3))) phX = .bool (decide (p < (k : Int))) := by
  show Value.bool (decide (vint (rho _ (12 + i)) < Int.ofNat k)) = _
  rw [at_hi ho hw, hi]
  rfl
theorem reg_hold {p : Int} {i : Nat} (hi : (psV p0 p1 p2 p3).getD i undef = .int .i64 p) (h : 0 ≤ p ∧ p < 31) : Facts.hold (rho (ov ++ (ws ++ psV p0 p1 p2 p3))) phX (regK (12 + i)) :=
  hold_cons _ ((lt_den0 ho hw hi 0).trans (dFalse (by omega))) (hold_cons _ ((lt_den0 ho hw hi 31).trans (dTrue (by omega))) hold_nil)
theorem lo_hold {p : Int} {i : Nat} (hi : (psV p0 p1 p2 p3).getD i undef = .int .i64 p) (h : p < 0) : Facts.hold (rho (ov ++ (ws ++ psV p0 p1 p2 p3))) phX [(ixLt (.var (12 + i)) 0, true)] :=
  hold_cons _ ((lt_den0 ho hw hi 0).trans (dTrue (by omega))) hold_nil
theorem hi_hold {p : Int} {i : Nat} (hi : (psV p0 p1 p2 p3).getD i undef = .int .i64 p) (h : 31 ≤ p) : Facts.hold (rho (ov ++ (ws ++ psV p0 p1 p2 p3))) phX [(ixLt (.var (12 + i)) 0, false), (ixLt (.var (12 + i)) 31, false)] :=
  hold_cons _ ((lt_den0 ho hw hi 0).trans (dFalse (by omega))) (hold_cons _ ((lt_den0 ho hw hi 31).trans (dFalse (by omega))) hold_nil)
theorem eq_den {p q : Int} {i j : Nat} (hi : (psV p0 p1 p2 p3).getD i undef = .int .i64 p) (hj : (psV p0 p1 p2 p3).getD j undef = .int .i64 q) (b : Bool) (h : (p = q) ↔ b = true) : Facts.hold (rho (ov ++ (ws ++ psV p0 p1 p2 p3))) phX [(.cmp .eql (.var (12 + i)) (.var (12 + j)), b)] := by
  refine hold_cons _ ?_ hold_nil
  show Value.bool (vint (rho _ (12 + i)) == vint (rho _ (12 + j))) = .bool b
  rw [at_hi ho hw, at_hi ho hw, hi, hj]
  congr 1
  show (p == q) = b
  cases b
  · have : ¬ p = q := fun e => by cases h.1 e
    simpa using this
  · have := h.2 rfl
    simpa using this
theorem good_hold (h : goodB p0 p1 p2 p3 = true) : goodF.hold (rho (ov ++ (ws ++ psV p0 p1 p2 p3))) phX := by
  have h := of_decide_eq_true h
  obtain ⟨a0, b0, a1, b1, a2, b2, a3, b3, c1, c2, c3⟩ := h
  exact hold_app (reg_hold ho hw (i := 0) rfl ⟨a0, b0⟩) (hold_app (reg_hold ho hw (i := 1) rfl ⟨a1, b1⟩) (hold_app (reg_hold ho hw (i := 2) rfl ⟨a2, b2⟩) (hold_app (reg_hold ho hw (i := 3) rfl ⟨a3, b3⟩)
    (hold_app (eq_den ho hw (i := 1) (j := 2) rfl rfl false (by simp [c1])) (hold_app (eq_den ho hw (i := 2) (j := 3) rfl rfl false (by simp [c2])) (eq_den ho hw (i := 3) (j := 1) rfl rfl false (by simp [c3])))))))
/-- Registers that may not be. -/
theorem work_bad (h0 : i64B p0) (h1 : i64B p1) (h2 : i64B p2) (h3 : i64B p3) (hb : goodB p0 p1 p2 p3 = false) (W : World) (hT : TabsA W) :
    Calls Tryz.prog 29 #[.agg ov.toArray, .agg ws.toArray, .agg (psV p0 p1 p2 p3).toArray] W fun e W' => e = .returned (.tuple #[.int .u64 0, .bool false]) ∧ Below W.heap.size W W' := by
  have F := fitsK ho hw h0 h1 h2 h3
  have go : ∀ {fs : Facts}, noR opAny fs = true → fs.hold (rho (ov ++ (ws ++ psV p0 p1 p2 p3))) phX → Calls Tryz.prog 29 #[.agg ov.toArray, .agg ws.toArray, .agg (psV p0 p1 p2 p3).toArray] W fun e W' => e = .returned (.tuple #[.int .u64 0, .bool false]) ∧ Below W.heap.size W W' :=
    fun hr hf => work_no F hf (argsK_is ho hw (any_den ho hw)) hr W hT
  by_cases c1 : p1 < 0
  · exact go noK_1l (lo_hold ho hw (i := 1) rfl c1)
  by_cases c2 : 31 ≤ p1
  · exact go noK_1h (hi_hold ho hw (i := 1) rfl c2)
  have r1 := reg_hold ho hw (p0 := p0) (p1 := p1) (p2 := p2) (p3 := p3) (i := 1) rfl (show 0 ≤ p1 ∧ p1 < 31 by omega)
  by_cases c3 : p1 = p2
  · exact go noK_1e (hold_app r1 (eq_den ho hw (i := 1) (j := 2) rfl rfl true (by simp [c3])))
  have a1 : apart1.hold (rho (ov ++ (ws ++ psV p0 p1 p2 p3))) phX := hold_app r1 (eq_den ho hw (i := 1) (j := 2) rfl rfl false (by simp [c3]))
  by_cases c4 : p2 < 0
  · exact go noK_2l (hold_app a1 (lo_hold ho hw (i := 2) rfl c4))
  by_cases c5 : 31 ≤ p2
  · exact go noK_2h (hold_app a1 (hi_hold ho hw (i := 2) rfl c5))
  have r2 := reg_hold ho hw (p0 := p0) (p1 := p1) (p2 := p2) (p3 := p3) (i := 2) rfl (show 0 ≤ p2 ∧ p2 < 31 by omega)
  by_cases c6 : p2 = p3
  · exact go noK_2e (hold_app a1 (hold_app r2 (eq_den ho hw (i := 2) (j := 3) rfl rfl true (by simp [c6]))))
  have a2 : apart2.hold (rho (ov ++ (ws ++ psV p0 p1 p2 p3))) phX := hold_app a1 (hold_app r2 (eq_den ho hw (i := 2) (j := 3) rfl rfl false (by simp [c6])))
  by_cases c7 : p3 < 0
  · exact go noK_3l (hold_app a2 (lo_hold ho hw (i := 3) rfl c7))
  by_cases c8 : 31 ≤ p3
  · exact go noK_3h (hold_app a2 (hi_hold ho hw (i := 3) rfl c8))
  have r3 := reg_hold ho hw (p0 := p0) (p1 := p1) (p2 := p2) (p3 := p3) (i := 3) rfl (show 0 ≤ p3 ∧ p3 < 31 by omega)
  by_cases c9 : p3 = p1
  · exact go noK_3e (hold_app a2 (hold_app r3 (eq_den ho hw (i := 3) (j := 1) rfl rfl true (by simp [c9]))))
  have a3 : apart3.hold (rho (ov ++ (ws ++ psV p0 p1 p2 p3))) phX := hold_app a2 (hold_app r3 (eq_den ho hw (i := 3) (j := 1) rfl rfl false (by simp [c9])))
  by_cases c10 : p0 < 0
  · exact go noK_0l (hold_app a3 (lo_hold ho hw (i := 0) rfl c10))
  by_cases c11 : 31 ≤ p0
  · exact go noK_0h (hold_app a3 (hi_hold ho hw (i := 0) rfl c11))
  · exfalso
    have : goodB p0 p1 p2 p3 = true := decide_eq_true (by omega)
    rw [this] at hb
    cases hb
omit p0 p1 p2 p3
theorem wk_yes {ms ds : List Pt} {o : List E} {fs : Facts} (hr : workR ms ds o fs = true) (hm : ∀ ws : Base, ExtOk ws cxK phX (ptsX cxK ms)) (hd : ∀ ws : Base, ExtOk ws cxK phX (ptsX cxK ds))
    (hov : ∀ ps : List Value, o.map (·.den (rho (ov ++ (ws ++ ps))) phX) = ov) (hf : ∀ ps : List Value, fs.hold (rho (ov ++ (ws ++ ps))) phX) : Wk ov ws := by
  unfold workR at hr
  cases hq : leafK fs (treeK ms ds o (fs ++ goodF)) with
  | none => rw [hq] at hr; cases hr
  | some t =>
    have z : i64B 0 := ⟨by decide, by decide⟩
    have ht : t.lt 12 = true ∧ (cxK.so t == .int .u64) = true := by
      unfold leafK at hq
      split at hq
      · split at hq
        · rename_i hc
          simp only [Option.some.injEq] at hq
          subst hq
          simp only [Bool.and_eq_true] at hc
          exact ⟨hc.1, hc.2.1⟩
        · cases hq
      · cases hq
    obtain ⟨n, hn, hr1, hr2⟩ := so_num (fitsK ho hw z z z z) (eq_of_beq ht.2)
    refine ⟨t.den (rho (ov ++ (ws ++ psV 0 0 0 0))) phX, true, ⟨n, hn, hr1, hr2⟩, fun p0 p1 p2 p3 h0 h1 h2 h3 W hT => ?_⟩
    cases hg : goodB p0 p1 p2 p3 with
    | false => exact work_bad ho hw h0 h1 h2 h3 hg W hT
    | true =>
      have := work_good (fitsK ho hw h0 h1 h2 h3) (hf _) (good_hold ho hw hg) (argsK_is ho hw (hov _)) hq W hT hm hd
      have e : t.den (rho (ov ++ (ws ++ psV p0 p1 p2 p3))) phX = t.den (rho (ov ++ (ws ++ psV 0 0 0 0))) phX := by
        refine (lt_den phX (fun i hi => ?_) t ht.1).1
        by_cases h9 : i < 9
        · rw [at_lo ho hw h9, at_lo ho hw h9]
        · rw [show i = 9 + (i - 9) by omega, at_mid ho hw (by omega), at_mid ho hw (by omega)]
      rw [e] at this
      exact this
theorem wk_no {o : List E} {fs : Facts} (hr : noR o (fs ++ goodF) = true) (hov : ∀ ps : List Value, o.map (·.den (rho (ov ++ (ws ++ ps))) phX) = ov) (hf : ∀ ps : List Value, fs.hold (rho (ov ++ (ws ++ ps))) phX) : Wk ov ws := by
  refine ⟨.int .u64 0, false, ⟨0, rfl, by decide, by decide⟩, fun p0 p1 p2 p3 h0 h1 h2 h3 W hT => ?_⟩
  rw [Bool.false_and, if_neg (by simp)]
  cases hg : goodB p0 p1 p2 p3 with
  | false => exact work_bad ho hw h0 h1 h2 h3 hg W hT
  | true => exact work_no (fitsK ho hw h0 h1 h2 h3) (hold_app (hf _) (good_hold ho hw hg)) (argsK_is ho hw (hov _)) hr W hT
end
end Go.Proofs.YthcncbbnjbhdkaaGreatDoor

/- Layer 23: a step's value is the same whichever registers it is worked in: what the law is run with. -/
namespace Go.Proofs.YthcncbbnjbhdkaaGreatDoor
open Go Go.Proofs Go.RowKit Go.CX Go.SX Go.CX.Cp
def syL : List (Nat × List So) := [(60, [.int .u64]), (61, [.bool])]
def psL : List (Bool × List So) := [(true, ssO), (true, ss3), (true, ss4)]
noncomputable def cxL : Cx := ⟨Tryz.prog, ssO ++ (ss3 ++ (ss4 ++ ss4)), [], [], syL⟩
def kindsB (k : Nat) : Bool := Nat.beq k 1 || (Nat.beq k 4 || (Nat.beq k 5 || Nat.beq k 6))
/-- A step of a kind that has a value is worked. -/
def workX (cx : Cx) : ExtT := fun g args _ n _ => if Nat.beq g 29 then (match flatC cx psL args with
  | some (.int .i64 (.ofNat k) :: es) => if kindsB k then some (.ok ⟨.tup [⟨false, [.e (.ite (.app 61 0 (toL (.int .i64 (.ofNat k) :: es))) (.app 60 0 (toL ((.int .i64 (.ofNat k) :: es).take 12))) (.int .u64 0))]⟩, ⟨false, [.e (.app 61 0 (toL (.int .i64 (.ofNat k) :: es)))]⟩], [], n⟩) else none
  | _ => none) else none
noncomputable def extL : ExtT := orX (workX cxL) (trueX 16)
def argsL (o : List E) : List CX.SV := [.one ⟨true, o.map .e⟩, .one ⟨true, [.e (.var 9), .e (.var 10), .e (.var 11)]⟩, .one ⟨true, [.e (.var 12), .e (.var 13), .e (.var 14), .e (.var 15)]⟩, .one ⟨true, [.e (.var 16), .e (.var 17), .e (.var 18), .e (.var 19)]⟩]
noncomputable def lawR (o : List E) (fs : Facts) : Bool := endsC cxL extL 3000 10 5 (argsL o) 60 fs (sureE cxL sameR 300)
set_option maxRecDepth 100000
theorem lawk_lo : lawR opAny [(ixLt (.var 0) 1, true)] = true := by kernel_rfl
theorem lawk_hi : lawR opAny [(ixLt (.var 0) 1, false), (ixLt (.var 0) 14, false)] = true := by kernel_rfl
theorem lawk_1 : lawR (opKind 1) [] = true := by kernel_rfl
theorem lawk_2 : lawR (opKind 2) [] = true := by kernel_rfl
theorem lawk_3 : lawR (opKind 3) [] = true := by kernel_rfl
theorem lawk_4 : lawR (opKind 4) [] = true := by kernel_rfl
theorem lawk_5 : lawR (opKind 5) [] = true := by kernel_rfl
theorem lawk_6 : lawR (opKind 6) [] = true := by kernel_rfl
theorem lawk_7 : lawR (opKind 7) [] = true := by kernel_rfl
theorem lawk_8 : lawR (opKind 8) [] = true := by kernel_rfl
theorem lawk_9 : lawR (opKind 9) [] = true := by kernel_rfl
theorem lawk_10 : lawR (opKind 10) [] = true := by kernel_rfl
theorem lawk_11 : lawR (opKind 11) [] = true := by kernel_rfl
theorem lawk_12 : lawR (opKind 12) [] = true := by kernel_rfl
theorem lawk_13 : lawR (opKind 13) [] = true := by kernel_rfl
end Go.Proofs.YthcncbbnjbhdkaaGreatDoor

/- Layer 23: a step's value, worked: every step that has one. -/
namespace Go.Proofs.YthcncbbnjbhdkaaGreatDoor
open Go Go.Proofs Go.RowKit Go.CX Go.SX Go.CX.Cp
def OV (k f w a b c n : Int) (sg : Bool) (d : Int) : List Value := [.int .i64 k, .int .i64 f, .int .i64 w, .int .i64 a, .int .i64 b, .int .i64 c, .int .u64 n, .bool sg, .int .i64 d]
theorem one_ok {p : Pt} {ws : Base} (h : ExtOk ws cxK phX (ptX cxK p)) : ExtOk ws cxK phX (ptsX cxK [p]) := orX_ok h (ext0_ok _ _ _)
theorem two_ok {p q : Pt} {ws : Base} (h : ExtOk ws cxK phX (ptX cxK p)) (g : ExtOk ws cxK phX (ptX cxK q)) : ExtOk ws cxK phX (ptsX cxK [p, q]) := orX_ok h (orX_ok g (ext0_ok _ _ _))
theorem mayK {i : In} {ws : Base} (h : mayT syX i = true) : ExtOk ws cxK phX (ptX cxK (mayP i)) := mayY (cx := cxK) rfl rfl h
theorem doneK {i : In} {ws : Base} (hj : mayT syX i = true) (h : doneY i = true) : ExtOk ws cxK phX (ptX cxK (doneP i)) := doneY_ok (cx := cxK) rfl rfl hj h
section
variable {k f w a b c n : Int} {sg : Bool} {d : Int} {ws : List Value} (ho : All2 So.has ssO (OV k f w a b c n sg d)) (hw : All2 So.has ss3 ws)
 include ho hw
theorem at_v {ps : List Value} {i : Nat} (hi : i < 9) : rho (OV k f w a b c n sg d ++ (ws ++ ps)) i = (OV k f w a b c n sg d).getD i undef := at_lo ho hw hi
theorem den_i {ps : List Value} {v : Nat} {x : Int} (hv : v < 9) (hx : (OV k f w a b c n sg d).getD v undef = .int .i64 x) (y : Nat) : (eq0 v (iE y)).den (rho (OV k f w a b c n sg d ++ (ws ++ ps))) phX = .bool (decide (x = (y : Int))) := by
  show Value.bool (vint (rho _ v) == Int.ofNat y) = _
  rw [at_v ho hw hv, hx]
  show Value.bool (x == (y : Int)) = _
  congr 1
theorem den_u {ps : List Value} : (eq0 6 (uE 0)).den (rho (OV k f w a b c n sg d ++ (ws ++ ps))) phX = .bool (decide (n = 0)) := by
  show Value.bool (vint (rho _ 6) == 0) = _
  rw [at_v ho hw (by decide)]
  show Value.bool (n == 0) = _
  congr 1
theorem den_l {ps : List Value} (y : Nat) : (ixLt (.var 1) y).den (rho (OV k f w a b c n sg d ++ (ws ++ ps))) phX = .bool (decide (f < (y : Int))) := by
  show Value.bool (decide (vint (rho _ 1) < Int.ofNat y)) = _
  rw [at_v ho hw (by decide)]
  rfl
theorem den_b {ps : List Value} : (E.var 7).den (rho (OV k f w a b c n sg d ++ (ws ++ ps))) phX = .bool sg := at_v ho hw (i := 7) (by decide)
theorem kind_den {m : Nat} (hk : k = (m : Int)) (ps : List Value) : (opKind m).map (·.den (rho (OV k f w a b c n sg d ++ (ws ++ ps))) phX) = OV k f w a b c n sg d := by
  subst hk
  show [Value.int .i64 (m : Int), rho _ 1, rho _ 2, rho _ 3, rho _ 4, rho _ 5, rho _ 6, rho _ 7, rho _ 8] = _
  rw [at_v ho hw (by decide), at_v ho hw (by decide), at_v ho hw (by decide), at_v ho hw (by decide), at_v ho hw (by decide), at_v ho hw (by decide), at_v ho hw (by decide), at_v ho hw (by decide)]
  rfl
theorem wk_bad {m : Nat} {fs : Facts} (hk : k = (m : Int)) (h : badK m fs = true) (hf : ∀ ps : List Value, fs.hold (rho (OV k f w a b c n sg d ++ (ws ++ ps))) phX) : Wk (OV k f w a b c n sg d) ws :=
  wk_no ho hw (o := opKind m) (fs := fs) h (kind_den ho hw hk) hf
theorem in_hold {ps : List Value} (h : 1 ≤ f ∧ f < 17) : Facts.hold (rho (OV k f w a b c n sg d ++ (ws ++ ps))) phX (inF 1 17) :=
  hold_cons _ ((den_l ho hw 1).trans (dFalse (by omega))) (hold_cons _ ((den_l ho hw 17).trans (dTrue (by omega))) hold_nil)
theorem isW_hold {ps : List Value} (b1 b2 b4 b8 : Bool) (h1 : w = 1 ↔ b1 = true) (h2 : w = 2 ↔ b2 = true) (h4 : w = 4 ↔ b4 = true) (h8 : w = 8 ↔ b8 = true) : Facts.hold (rho (OV k f w a b c n sg d ++ (ws ++ ps))) phX (isW [b1, b2, b4, b8]) := by
  have e : ∀ (y : Nat) (q : Bool), (w = (y : Int) ↔ q = true) → (eq0 2 (iE y)).den (rho (OV k f w a b c n sg d ++ (ws ++ ps))) phX = .bool q := by
    intro y q h
    rw [den_i ho hw (v := 2) (x := w) (by decide) rfl y]
    congr 1
    cases q
    · exact decide_eq_false fun e => by cases h.1 e
    · exact decide_eq_true (h.2 rfl)
  exact hold_cons _ (e 1 b1 h1) (hold_cons _ (e 2 b2 h2) (hold_cons _ (e 4 b4 h4) (hold_cons _ (e 8 b8 h8) hold_nil)))
theorem wk_4 (hk : k = 4) : Wk (OV k f w a b c n sg d) ws := by
  by_cases c1 : f < 1
  · exact wk_bad ho hw (m := 4) hk badK_4a fun ps => hold_cons _ ((den_l ho hw 1).trans (dTrue (by omega))) hold_nil
  by_cases c2 : 17 ≤ f
  · exact wk_bad ho hw (m := 4) hk badK_4b fun ps => hold_cons _ ((den_l ho hw 1).trans (dFalse (by omega))) (hold_cons _ ((den_l ho hw 17).trans (dFalse (by omega))) hold_nil)
  have hin : ∀ ps : List Value, Facts.hold (rho (OV k f w a b c n sg d ++ (ws ++ ps))) phX (inF 1 17) := fun ps => in_hold ho hw (by omega)
  by_cases c3 : w = 0
  case neg => exact wk_bad ho hw (m := 4) hk badK_4c fun ps => hold_app (hin ps) (hold_cons _ ((den_i ho hw (v := 2) (x := w) (by decide) rfl 0).trans (dFalse (by omega))) hold_nil)
  by_cases c4 : n = 0
  case neg => exact wk_bad ho hw (m := 4) hk badK_4d fun ps => hold_app (hin ps) (hold_cons _ ((den_i ho hw (v := 2) (x := w) (by decide) rfl 0).trans (dTrue (by omega))) (hold_cons _ ((den_u ho hw).trans (dFalse (by omega))) hold_nil))
  by_cases c5 : d = 0
  case neg => exact wk_bad ho hw (m := 4) hk badK_4e fun ps => hold_app (hin ps) (hold_cons _ ((den_i ho hw (v := 2) (x := w) (by decide) rfl 0).trans (dTrue (by omega))) (hold_cons _ ((den_u ho hw).trans (dTrue (by omega))) (hold_cons _ ((den_i ho hw (v := 8) (x := d) (by decide) rfl 0).trans (dFalse (by omega))) hold_nil)))
  cases sg with
  | true => exact wk_bad ho hw (m := 4) hk badK_4f fun ps => hold_app (hin ps) (hold_cons _ ((den_i ho hw (v := 2) (x := w) (by decide) rfl 0).trans (dTrue (by omega))) (hold_cons _ ((den_u ho hw).trans (dTrue (by omega))) (hold_cons _ ((den_i ho hw (v := 8) (x := d) (by decide) rfl 0).trans (dTrue (by omega))) (hold_cons _ (den_b ho hw) hold_nil))))
  | false =>
    subst hk c3 c4 c5
    obtain ⟨m, rfl⟩ := Int.eq_ofNat_of_zero_le (show 0 ≤ f by omega)
    have hov : ∀ ps : List Value, (opAlu m).map (·.den (rho (OV 4 (m : Int) 0 a b c 0 false 0 ++ (ws ++ ps))) phX) = OV 4 (m : Int) 0 a b c 0 false 0 := by
      intro ps
      show [Value.int .i64 4, .int .i64 (m : Int), .int .i64 0, rho _ 3, rho _ 4, rho _ 5, .int .u64 0, .bool false, .int .i64 0] = _
      rw [at_v ho hw (by decide), at_v ho hw (by decide), at_v ho hw (by decide)]
      rfl
    match m, c1, c2, ho, hov with
    | 0, c1, _, _, _ => exact absurd (show ((0 : Nat) : Int) < 1 by decide) c1
    | 1, _, _, ho, hov => exact wk_yes ho hw aluK_1 (fun _ => one_ok (mayK mayX_bin_5)) (fun _ => one_ok (doneK mayX_bin_5 doneX_bin_5)) hov fun _ => hold_nil
    | 2, _, _, ho, hov => exact wk_yes ho hw aluK_2 (fun _ => one_ok (mayK mayX_bin_6)) (fun _ => one_ok (doneK mayX_bin_6 doneX_bin_6)) hov fun _ => hold_nil
    | 3, _, _, ho, hov => exact wk_yes ho hw aluK_3 (fun _ => one_ok (mayK mayX_bin_9)) (fun _ => one_ok (doneK mayX_bin_9 doneX_bin_9)) hov fun _ => hold_nil
    | 4, _, _, ho, hov => exact wk_yes ho hw aluK_4 (fun _ => one_ok (mayK mayX_bin_10)) (fun _ => one_ok (doneK mayX_bin_10 doneX_bin_10)) hov fun _ => hold_nil
    | 5, _, _, ho, hov => exact wk_yes ho hw aluK_5 (fun _ => one_ok (mayK mayX_bin_11)) (fun _ => one_ok (doneK mayX_bin_11 doneX_bin_11)) hov fun _ => hold_nil
    | 6, _, _, ho, hov => exact wk_yes ho hw aluK_6 (fun _ => one_ok (mayK mayX_madd)) (fun _ => one_ok (doneK mayX_madd doneX_madd)) hov fun _ => hold_nil
    | 7, _, _, ho, hov => exact wk_yes ho hw aluK_7 (fun _ => one_ok (mayK mayX_do3_21)) (fun _ => one_ok (doneK mayX_do3_21 doneX_do3_21)) hov fun _ => hold_nil
    | 8, _, _, ho, hov => exact wk_yes ho hw aluK_8 (fun _ => one_ok (mayK mayX_do3_22)) (fun _ => one_ok (doneK mayX_do3_22 doneX_do3_22)) hov fun _ => hold_nil
    | 9, _, _, ho, hov => exact wk_yes ho hw aluK_9 (fun _ => one_ok (mayK mayX_do3_23)) (fun _ => one_ok (doneK mayX_do3_23 doneX_do3_23)) hov fun _ => hold_nil
    | 10, _, _, ho, hov => exact wk_yes ho hw aluK_10 (fun _ => one_ok (mayK mayX_do3_24)) (fun _ => one_ok (doneK mayX_do3_24 doneX_do3_24)) hov fun _ => hold_nil
    | 11, _, _, ho, hov => exact wk_yes ho hw aluK_11 (fun _ => one_ok (mayK mayX_do3_25)) (fun _ => one_ok (doneK mayX_do3_25 doneX_do3_25)) hov fun _ => hold_nil
    | 12, _, _, ho, hov => exact wk_yes ho hw aluK_12 (fun _ => one_ok (mayK mayX_do3_26)) (fun _ => one_ok (doneK mayX_do3_26 doneX_do3_26)) hov fun _ => hold_nil
    | 13, _, _, ho, hov => exact wk_yes ho hw aluK_13 (fun _ => one_ok (mayK mayX_do3_27)) (fun _ => one_ok (doneK mayX_do3_27 doneX_do3_27)) hov fun _ => hold_nil
    | 14, _, _, ho, hov => exact wk_yes ho hw aluK_14 (fun _ => two_ok (mayK mayX_subs) (mayK mayX_csinc_1)) (fun _ => two_ok (doneK mayX_subs doneX_subs) (doneK mayX_csinc_1 doneX_csinc_1)) hov fun _ => hold_nil
    | 15, _, _, ho, hov => exact wk_yes ho hw aluK_15 (fun _ => two_ok (mayK mayX_subs) (mayK mayX_csinc_2)) (fun _ => two_ok (doneK mayX_subs doneX_subs) (doneK mayX_csinc_2 doneX_csinc_2)) hov fun _ => hold_nil
    | 16, _, _, ho, hov => exact wk_yes ho hw aluK_16 (fun _ => two_ok (mayK mayX_subs) (mayK mayX_csinc_10)) (fun _ => two_ok (doneK mayX_subs doneX_subs) (doneK mayX_csinc_10 doneX_csinc_10)) hov fun _ => hold_nil
    | m + 17, _, c2, _, _ => exact absurd (show (17 : Int) ≤ ((m + 17 : Nat) : Int) by omega) c2
theorem wk_6 (hk : k = 6) : Wk (OV k f w a b c n sg d) ws := by
  by_cases c1 : f = 0
  case neg => exact wk_bad ho hw (m := 6) hk badK_6a fun ps => (hold_cons _ ((den_i ho hw (v := 1) (x := f) (by decide) rfl 0).trans (dFalse (by omega))) hold_nil)
  by_cases c3 : w = 0
  case neg => exact wk_bad ho hw (m := 6) hk badK_6b fun ps => (hold_cons _ ((den_i ho hw (v := 1) (x := f) (by decide) rfl 0).trans (dTrue (by omega))) (hold_cons _ ((den_i ho hw (v := 2) (x := w) (by decide) rfl 0).trans (dFalse (by omega))) hold_nil))
  by_cases c4 : n = 0
  case neg => exact wk_bad ho hw (m := 6) hk badK_6c fun ps => (hold_cons _ ((den_i ho hw (v := 1) (x := f) (by decide) rfl 0).trans (dTrue (by omega))) (hold_cons _ ((den_i ho hw (v := 2) (x := w) (by decide) rfl 0).trans (dTrue (by omega))) (hold_cons _ ((den_u ho hw).trans (dFalse (by omega))) hold_nil)))
  by_cases c5 : d = 0
  case neg => exact wk_bad ho hw (m := 6) hk badK_6d fun ps => (hold_cons _ ((den_i ho hw (v := 1) (x := f) (by decide) rfl 0).trans (dTrue (by omega))) (hold_cons _ ((den_i ho hw (v := 2) (x := w) (by decide) rfl 0).trans (dTrue (by omega))) (hold_cons _ ((den_u ho hw).trans (dTrue (by omega))) (hold_cons _ ((den_i ho hw (v := 8) (x := d) (by decide) rfl 0).trans (dFalse (by omega))) hold_nil))))
  cases sg with
  | true => exact wk_bad ho hw (m := 6) hk badK_6e fun ps => (hold_cons _ ((den_i ho hw (v := 1) (x := f) (by decide) rfl 0).trans (dTrue (by omega))) (hold_cons _ ((den_i ho hw (v := 2) (x := w) (by decide) rfl 0).trans (dTrue (by omega))) (hold_cons _ ((den_u ho hw).trans (dTrue (by omega))) (hold_cons _ ((den_i ho hw (v := 8) (x := d) (by decide) rfl 0).trans (dTrue (by omega))) (hold_cons _ (den_b ho hw) hold_nil)))))
  | false =>
    subst hk c1 c3 c4 c5
    refine wk_yes ho hw selK (fun _ => two_ok (mayK mayX_subs0) (mayK mayX_csel)) (fun _ => two_ok (doneK mayX_subs0 doneX_subs0) (doneK mayX_csel doneX_csel)) (fun ps => ?_) fun _ => hold_nil
    show [Value.int .i64 6, .int .i64 0, .int .i64 0, rho _ 3, rho _ 4, rho _ 5, .int .u64 0, .bool false, .int .i64 0] = _
    rw [at_v ho hw (by decide), at_v ho hw (by decide), at_v ho hw (by decide)]
    rfl
theorem wk_5 (hk : k = 5) : Wk (OV k f w a b c n sg d) ws := by
  by_cases c1 : f = 0
  case neg => exact wk_bad ho hw (m := 5) hk badK_5a fun ps => (hold_cons _ ((den_i ho hw (v := 1) (x := f) (by decide) rfl 0).trans (dFalse (by omega))) hold_nil)
  have hov : ∀ (v : Nat) (ps : List Value), k = 5 → f = 0 → w = (v : Int) → n = 0 → d = 0 → (opExt v sg).map (·.den (rho (OV k f w a b c n sg d ++ (ws ++ ps))) phX) = OV k f w a b c n sg d := by
    intro v ps e1 e2 e3 e4 e5
    subst e1 e2 e3 e4 e5
    show [Value.int .i64 5, .int .i64 0, .int .i64 (v : Int), rho _ 3, rho _ 4, rho _ 5, .int .u64 0, .bool sg, .int .i64 0] = _
    rw [at_v ho hw (by decide), at_v ho hw (by decide), at_v ho hw (by decide)]
    rfl
  by_cases w1 : w = 1
  · by_cases c4 : n = 0
    case neg => exact wk_bad ho hw (m := 5) hk badK_5c1 fun ps => hold_cons _ ((den_i ho hw (v := 1) (x := f) (by decide) rfl 0).trans (dTrue (by omega))) (hold_app (isW_hold ho hw true false false false (by simp; omega) (by simp; omega) (by simp; omega) (by simp; omega)) (hold_cons _ ((den_u ho hw).trans (dFalse (by omega))) hold_nil))
    by_cases c5 : d = 0
    case neg => exact wk_bad ho hw (m := 5) hk badK_5d1 fun ps => hold_cons _ ((den_i ho hw (v := 1) (x := f) (by decide) rfl 0).trans (dTrue (by omega))) (hold_app (isW_hold ho hw true false false false (by simp; omega) (by simp; omega) (by simp; omega) (by simp; omega)) (hold_cons _ ((den_u ho hw).trans (dTrue (by omega))) (hold_cons _ ((den_i ho hw (v := 8) (x := d) (by decide) rfl 0).trans (dFalse (by omega))) hold_nil)))
    have hv := fun ps => hov 1 ps hk c1 w1 c4 c5
    cases sg with
    | false => exact wk_yes ho hw extK_1_f (fun _ => one_ok (mayK mayX_fld_7_f)) (fun _ => one_ok (doneK mayX_fld_7_f doneX_fld_7_f)) hv fun _ => hold_nil
    | true => exact wk_yes ho hw extK_1_t (fun _ => one_ok (mayK mayX_fld_7_t)) (fun _ => one_ok (doneK mayX_fld_7_t doneX_fld_7_t)) hv fun _ => hold_nil
  by_cases w2 : w = 2
  · by_cases c4 : n = 0
    case neg => exact wk_bad ho hw (m := 5) hk badK_5c2 fun ps => hold_cons _ ((den_i ho hw (v := 1) (x := f) (by decide) rfl 0).trans (dTrue (by omega))) (hold_app (isW_hold ho hw false true false false (by simp; omega) (by simp; omega) (by simp; omega) (by simp; omega)) (hold_cons _ ((den_u ho hw).trans (dFalse (by omega))) hold_nil))
    by_cases c5 : d = 0
    case neg => exact wk_bad ho hw (m := 5) hk badK_5d2 fun ps => hold_cons _ ((den_i ho hw (v := 1) (x := f) (by decide) rfl 0).trans (dTrue (by omega))) (hold_app (isW_hold ho hw false true false false (by simp; omega) (by simp; omega) (by simp; omega) (by simp; omega)) (hold_cons _ ((den_u ho hw).trans (dTrue (by omega))) (hold_cons _ ((den_i ho hw (v := 8) (x := d) (by decide) rfl 0).trans (dFalse (by omega))) hold_nil)))
    have hv := fun ps => hov 2 ps hk c1 w2 c4 c5
    cases sg with
    | false => exact wk_yes ho hw extK_2_f (fun _ => one_ok (mayK mayX_fld_15_f)) (fun _ => one_ok (doneK mayX_fld_15_f doneX_fld_15_f)) hv fun _ => hold_nil
    | true => exact wk_yes ho hw extK_2_t (fun _ => one_ok (mayK mayX_fld_15_t)) (fun _ => one_ok (doneK mayX_fld_15_t doneX_fld_15_t)) hv fun _ => hold_nil
  by_cases w4 : w = 4
  · by_cases c4 : n = 0
    case neg => exact wk_bad ho hw (m := 5) hk badK_5c4 fun ps => hold_cons _ ((den_i ho hw (v := 1) (x := f) (by decide) rfl 0).trans (dTrue (by omega))) (hold_app (isW_hold ho hw false false true false (by simp; omega) (by simp; omega) (by simp; omega) (by simp; omega)) (hold_cons _ ((den_u ho hw).trans (dFalse (by omega))) hold_nil))
    by_cases c5 : d = 0
    case neg => exact wk_bad ho hw (m := 5) hk badK_5d4 fun ps => hold_cons _ ((den_i ho hw (v := 1) (x := f) (by decide) rfl 0).trans (dTrue (by omega))) (hold_app (isW_hold ho hw false false true false (by simp; omega) (by simp; omega) (by simp; omega) (by simp; omega)) (hold_cons _ ((den_u ho hw).trans (dTrue (by omega))) (hold_cons _ ((den_i ho hw (v := 8) (x := d) (by decide) rfl 0).trans (dFalse (by omega))) hold_nil)))
    have hv := fun ps => hov 4 ps hk c1 w4 c4 c5
    cases sg with
    | false => exact wk_yes ho hw extK_4_f (fun _ => one_ok (mayK mayX_fld_31_f)) (fun _ => one_ok (doneK mayX_fld_31_f doneX_fld_31_f)) hv fun _ => hold_nil
    | true => exact wk_yes ho hw extK_4_t (fun _ => one_ok (mayK mayX_fld_31_t)) (fun _ => one_ok (doneK mayX_fld_31_t doneX_fld_31_t)) hv fun _ => hold_nil
  by_cases w8 : w = 8
  · by_cases c4 : n = 0
    case neg => exact wk_bad ho hw (m := 5) hk badK_5c8 fun ps => hold_cons _ ((den_i ho hw (v := 1) (x := f) (by decide) rfl 0).trans (dTrue (by omega))) (hold_app (isW_hold ho hw false false false true (by simp; omega) (by simp; omega) (by simp; omega) (by simp; omega)) (hold_cons _ ((den_u ho hw).trans (dFalse (by omega))) hold_nil))
    by_cases c5 : d = 0
    case neg => exact wk_bad ho hw (m := 5) hk badK_5d8 fun ps => hold_cons _ ((den_i ho hw (v := 1) (x := f) (by decide) rfl 0).trans (dTrue (by omega))) (hold_app (isW_hold ho hw false false false true (by simp; omega) (by simp; omega) (by simp; omega) (by simp; omega)) (hold_cons _ ((den_u ho hw).trans (dTrue (by omega))) (hold_cons _ ((den_i ho hw (v := 8) (x := d) (by decide) rfl 0).trans (dFalse (by omega))) hold_nil)))
    have hv := fun ps => hov 8 ps hk c1 w8 c4 c5
    cases sg with
    | false => exact wk_yes ho hw extK_8_f (fun _ => one_ok (mayK mayX_fld_63_f)) (fun _ => one_ok (doneK mayX_fld_63_f doneX_fld_63_f)) hv fun _ => hold_nil
    | true => exact wk_yes ho hw extK_8_t (fun _ => one_ok (mayK mayX_fld_63_t)) (fun _ => one_ok (doneK mayX_fld_63_t doneX_fld_63_t)) hv fun _ => hold_nil
  exact wk_bad ho hw (m := 5) hk badK_5b fun ps => hold_cons _ ((den_i ho hw (v := 1) (x := f) (by decide) rfl 0).trans (dTrue (by omega))) (isW_hold ho hw false false false false (by simp; omega) (by simp; omega) (by simp; omega) (by simp; omega))
theorem wk_1 (hk : k = 1) (hu : 0 ≤ n ∧ n ≤ 18446744073709551615) : Wk (OV k f w a b c n sg d) ws := by
  by_cases c1 : f = 0
  case neg => exact wk_bad ho hw (m := 1) hk badK_1a fun ps => (hold_cons _ ((den_i ho hw (v := 1) (x := f) (by decide) rfl 0).trans (dFalse (by omega))) hold_nil)
  by_cases c3 : w = 0
  case neg => exact wk_bad ho hw (m := 1) hk badK_1b fun ps => (hold_cons _ ((den_i ho hw (v := 1) (x := f) (by decide) rfl 0).trans (dTrue (by omega))) (hold_cons _ ((den_i ho hw (v := 2) (x := w) (by decide) rfl 0).trans (dFalse (by omega))) hold_nil))
  by_cases c5 : d = 0
  case neg => exact wk_bad ho hw (m := 1) hk badK_1d fun ps => (hold_cons _ ((den_i ho hw (v := 1) (x := f) (by decide) rfl 0).trans (dTrue (by omega))) (hold_cons _ ((den_i ho hw (v := 2) (x := w) (by decide) rfl 0).trans (dTrue (by omega))) (hold_cons _ ((den_i ho hw (v := 8) (x := d) (by decide) rfl 0).trans (dFalse (by omega))) hold_nil)))
  cases sg with
  | true => exact wk_bad ho hw (m := 1) hk badK_1e fun ps => (hold_cons _ ((den_i ho hw (v := 1) (x := f) (by decide) rfl 0).trans (dTrue (by omega))) (hold_cons _ ((den_i ho hw (v := 2) (x := w) (by decide) rfl 0).trans (dTrue (by omega))) (hold_cons _ ((den_i ho hw (v := 8) (x := d) (by decide) rfl 0).trans (dTrue (by omega))) (hold_cons _ (den_b ho hw) hold_nil))))
  | false =>
    subst hk c1 c3 c5
    obtain ⟨m, rfl⟩ := Int.eq_ofNat_of_zero_le hu.1
    have ln : m < 18446744073709551616 := by omega
    refine wk_yes ho hw (o := opConst) (fs := clsK (encP (m : Int)).2 [kind m 0, kind m 1, kind m 2, kind m 3]) (constK_all (encP (m : Int)).2 _ _ _ _ (kind_lt m 0) (kind_lt m 1) (kind_lt m 2) (kind_lt m 3)) (fun _ => maysX_ok (cx := cxK) rfl rfl) (fun _ => donesX_ok (cx := cxK) rfl rfl) (fun ps => ?_) (fun ps => ?_)
    · show [Value.int .i64 1, .int .i64 0, .int .i64 0, rho _ 3, rho _ 4, rho _ 5, rho _ 6, .bool false, .int .i64 0] = _
      rw [at_v ho hw (by decide), at_v ho hw (by decide), at_v ho hw (by decide), at_v ho hw (by decide)]
      rfl
    · have h6 : rho (OV 1 0 0 a b c (m : Int) false 0 ++ (ws ++ ps)) 6 = .int .u64 (m : Int) := at_v ho hw (i := 6) (by decide)
      have h1 : rhoS sg6 (rho (OV 1 0 0 a b c (m : Int) false 0 ++ (ws ++ ps))) phX 1 = .int .u64 (m : Int) := h6
      intro p hp
      unfold clsK at hp
      obtain ⟨q, hq, rfl⟩ := List.mem_map.1 hp
      show (sbE sg6 q.1).den _ phX = .bool q.2
      rw [(sbE_den (show sg6.all notCons = true from rfl) q.1).1]
      refine hold_app (a := encF (encP (m : Int)).2) ?_ (cls_hold h1 ln) q hq
      refine hold_cons _ ?_ hold_nil
      show (phS 4 (E.dens _ phX (toL [n1]))).getD 1 undef = _
      rw [toL_dens]
      show Value.bool (encP (vint (rhoS sg6 (rho (OV 1 0 0 a b c (m : Int) false 0 ++ (ws ++ ps))) phX 1))).2 = _
      rw [h1]
      rfl
end
end Go.Proofs.YthcncbbnjbhdkaaGreatDoor

/- Layer 23: a step's value is the same whichever registers it is worked in: the law. -/
namespace Go.Proofs.YthcncbbnjbhdkaaGreatDoor
open Go Go.Proofs Go.RowKit Go.CX Go.SX Go.CX.Cp
noncomputable def valW (ov ws : List Value) : Value := open Classical in if h : Wk ov ws then Classical.choose h else .int .u64 0
noncomputable def mayW (ov ws : List Value) : Bool := open Classical in if h : Wk ov ws then Classical.choose (Classical.choose_spec h) else false
theorem wk_spec {ov ws : List Value} (h : Wk ov ws) : (So.int .u64).has (valW ov ws) ∧ ∀ p0 p1 p2 p3 : Int, i64B p0 → i64B p1 → i64B p2 → i64B p3 → ∀ W : World, TabsA W →
    Calls Tryz.prog 29 #[.agg ov.toArray, .agg ws.toArray, .agg (psV p0 p1 p2 p3).toArray] W fun e W' => e = .returned (.tuple #[if mayW ov ws && goodB p0 p1 p2 p3 then valW ov ws else .int .u64 0, .bool (mayW ov ws && goodB p0 p1 p2 p3)]) ∧ Below W.heap.size W W' := by
  unfold valW mayW
  rw [dif_pos h, dif_pos h]
  exact Classical.choose_spec (Classical.choose_spec h)
def pAt (fl : List Value) (i : Nat) : Int := vint (fl.getD i undef)
noncomputable def phL (f : Nat) (fl : List Value) : List Value := match f with
  | 60 => [fixS (.int .u64) (valW (fl.take 9) (fl.drop 9))]
  | 61 => [.bool (mayW (fl.take 9) ((fl.drop 9).take 3) && goodB (pAt fl 12) (pAt fl 13) (pAt fl 14) (pAt fl 15))]
  | _ => []
theorem fitL : ∀ f j args, (symS syL f j).has ((phL f args).getD j undef) := by
  intro f j args
  by_cases h60 : f = 60
  · subst h60; match j with
    | 0 => exact fixS_has u64_zero _
    | j + 1 => exact trivial
  by_cases h61 : f = 61
  · subst h61; match j with
    | 0 => exact ⟨_, rfl⟩
    | j + 1 => exact trivial
  have nb : ∀ k, ¬ f = k → Nat.beq k f = false := fun k h => by
    cases hq : Nat.beq k f
    · rfl
    · exact absurd (Nat.eq_of_beq_eq_true hq).symm h
  have : lookA f syL = none := by
    unfold syL
    simp only [lookA, nb 60 h60, nb 61 h61, Bool.false_eq_true, if_false]
  unfold symS
  rw [this]; exact trivial
theorem cons_of {s : So} {ss : List So} {fl : List Value} (h : All2 So.has (s :: ss) fl) : ∃ v r, fl = v :: r ∧ s.has v ∧ All2 So.has ss r := by
  cases fl with
  | nil => exact h.elim
  | cons v r => exact ⟨v, r, rfl, h.1, h.2⟩
theorem nil_of {fl : List Value} (h : All2 So.has [] fl) : fl = [] := by
  cases fl with
  | nil => rfl
  | cons _ _ => exact h.elim
theorem cells9 {ov : List Value} (h : All2 So.has ssO ov) : ∃ k f w a b c n sg d, ov = OV k f w a b c n sg d ∧ 0 ≤ n ∧ n ≤ 18446744073709551615 := by
  obtain ⟨_, r1, rfl, ⟨k, rfl, _⟩, h1⟩ := cons_of h
  obtain ⟨_, r2, rfl, ⟨f, rfl, _⟩, h2⟩ := cons_of h1
  obtain ⟨_, r3, rfl, ⟨w, rfl, _⟩, h3⟩ := cons_of h2
  obtain ⟨_, r4, rfl, ⟨a, rfl, _⟩, h4⟩ := cons_of h3
  obtain ⟨_, r5, rfl, ⟨b, rfl, _⟩, h5⟩ := cons_of h4
  obtain ⟨_, r6, rfl, ⟨c, rfl, _⟩, h6⟩ := cons_of h5
  obtain ⟨_, r7, rfl, ⟨n, rfl, n0, n1⟩, h7⟩ := cons_of h6
  obtain ⟨_, r8, rfl, ⟨sg, rfl⟩, h8⟩ := cons_of h7
  obtain ⟨_, r9, rfl, ⟨d, rfl, _⟩, h9⟩ := cons_of h8
  rw [nil_of h9]
  exact ⟨k, f, w, a, b, c, n, sg, d, rfl, n0, n1⟩
theorem wk_any {ov ws : List Value} (ho : All2 So.has ssO ov) (hw : All2 So.has ss3 ws) {m : Nat} (hk : kindsB m = true) (h0 : ov.getD 0 undef = .int .i64 (m : Int)) : Wk ov ws := by
  obtain ⟨k, f, w, a, b, c, n, sg, d, rfl, hu⟩ := cells9 ho
  have h0 : Value.int .i64 k = .int .i64 (m : Int) := h0
  have e : k = (m : Int) := by injection h0
  unfold kindsB at hk
  simp only [Bool.or_eq_true] at hk
  rcases hk with h | h | h | h
  all_goals
    have h := Nat.eq_of_beq_eq_true h
    subst h
  · exact wk_1 ho hw e hu
  · exact wk_4 ho hw e
  · exact wk_5 ho hw e
  · exact wk_6 ho hw e
theorem four_of {f3 : List Value} (h : All2 So.has ss4 f3) : ∃ p0 p1 p2 p3, f3 = psV p0 p1 p2 p3 ∧ i64B p0 ∧ i64B p1 ∧ i64B p2 ∧ i64B p3 := by
  obtain ⟨_, r1, rfl, ⟨a, rfl, a0, a1⟩, h1⟩ := cons_of h
  obtain ⟨_, r2, rfl, ⟨b, rfl, b0, b1⟩, h2⟩ := cons_of h1
  obtain ⟨_, r3, rfl, ⟨c, rfl, c0, c1⟩, h3⟩ := cons_of h2
  obtain ⟨_, r4, rfl, ⟨d, rfl, d0, d1⟩, h4⟩ := cons_of h3
  rw [nil_of h4]
  exact ⟨a, b, c, d, rfl, ⟨a0, a1⟩, ⟨b0, b1⟩, ⟨c0, c1⟩, ⟨d0, d1⟩⟩
theorem workX_ok {ws : Base} (hT : TabsA ws.toWorld) : ExtOk ws cxL phL (workX cxL) := by
  intro g svs B n0 fs d hd ρ β w xs N F hf hW hn ha
  unfold workX at hd
  split at hd
  · rename_i he
    have he := Nat.eq_of_beq_eq_true he
    subst he
    split at hd
    · rename_i k es hes
      split at hd
      · rename_i hk
        simp only [Option.some.injEq, CX.OR.ok.injEq] at hd
        generalize hE : E.int .i64 (.ofNat k) :: es = E0 at hes hd
        obtain ⟨f1, r1, e1, hs1, hx1, hr1⟩ : ∃ f1 f2, E0.map (·.den ρ phL) = f1 ++ f2 ∧ All2 So.has ssO f1 ∧ (∃ x xs', xs = x :: xs' ∧ x = .agg f1.toArray ∧ packs [(true, ss3), (true, ss4)] xs' f2) := by
          have hp := flatC_is F hes ha
          match xs, hp with
          | x :: xs', ⟨f1, f2, h1, h2, h3, h4⟩ => exact ⟨f1, f2, h1, h2, x, xs', rfl, h3, h4⟩
        obtain ⟨xs', hxs, hx1, hp2⟩ := hr1
        obtain ⟨f2, r2, e2, hs2, y, ys, hys, hy, hp3⟩ : ∃ f2 r2, r1 = f2 ++ r2 ∧ All2 So.has ss3 f2 ∧ ∃ y ys, xs' = y :: ys ∧ y = .agg f2.toArray ∧ packs [(true, ss4)] ys r2 := by
          match xs', hp2 with
          | y :: ys, ⟨f1, f2, h1, h2, h3, h4⟩ => exact ⟨f1, f2, h1, h2, y, ys, rfl, h3, h4⟩
        obtain ⟨f3, e3, hs3, z, hzs, hz⟩ : ∃ f3, r2 = f3 ∧ All2 So.has ss4 f3 ∧ ∃ z, ys = [z] ∧ z = .agg f3.toArray := by
          match ys, hp3 with
          | z :: zs, ⟨f1, f2, h1, h2, h3, h4⟩ =>
            match zs, h4 with
            | [], h4 =>
              have h4 : f2 = [] := h4
              exact ⟨f1, by rw [h1, h4, List.append_nil], h2, z, rfl, h3⟩
        obtain ⟨p0, p1, p2, p3, e4, hp0, hp1, hp2', hp3'⟩ := four_of hs3
        subst hzs hz hys hy hxs e3
        have hx1' := hx1
        subst hx1'
        have hl1 : f1.length = 9 := hs1.length.symm
        have hl2 : f2.length = 3 := hs2.length.symm
        have hall : E0.map (·.den ρ phL) = f1 ++ (f2 ++ r2) := by rw [e1, e2]
        have hfirst : f1.getD 0 undef = .int .i64 (k : Int) := by
          have : (E0.map (·.den ρ phL)).getD 0 undef = .int .i64 (k : Int) := by rw [← hE]; rfl
          rw [hall, List.getD_eq_getElem?_getD, List.getElem?_append_left (by omega)] at this
          rw [List.getD_eq_getElem?_getD]
          exact this
        have hwk := wk_any hs1 hs2 hk hfirst
        obtain ⟨hv, hcall⟩ := wk_spec hwk
        have a61 : (E.app 61 0 (toL E0)).den ρ phL = .bool (mayW f1 f2 && goodB p0 p1 p2 p3) := by
          show (phL 61 (E.dens ρ phL (toL E0))).getD 0 undef = _
          rw [toL_dens, hall, e4]
          show Value.bool _ = _
          have t1 : (f1 ++ (f2 ++ psV p0 p1 p2 p3)).take 9 = f1 := by rw [← hl1, List.take_left]
          have t2 : ((f1 ++ (f2 ++ psV p0 p1 p2 p3)).drop 9).take 3 = f2 := by rw [← hl1, List.drop_left, ← hl2, List.take_left]
          have t3 : ∀ i, pAt (f1 ++ (f2 ++ psV p0 p1 p2 p3)) (12 + i) = vint ((psV p0 p1 p2 p3).getD i undef) := by
            intro i
            unfold pAt
            rw [List.getD_eq_getElem?_getD, List.getElem?_append_right (by omega), List.getElem?_append_right (by omega), hl1, hl2, List.getD_eq_getElem?_getD]
            congr 3
            omega
          have u0 := t3 0
          have u1 := t3 1
          have u2 := t3 2
          have u3 := t3 3
          rw [t1, t2, show (12 : Nat) = 12 + 0 from rfl, u0, show (13 : Nat) = 12 + 1 from rfl, u1, show (14 : Nat) = 12 + 2 from rfl, u2, show (15 : Nat) = 12 + 3 from rfl, u3]
          rfl
        have a60 : (E.app 60 0 (toL (E0.take 12))).den ρ phL = valW f1 f2 := by
          show (phL 60 (E.dens ρ phL (toL (E0.take 12)))).getD 0 undef = _
          rw [toL_dens, List.map_take, hall]
          have t0 : (f1 ++ (f2 ++ r2)).take 12 = f1 ++ f2 := by
            rw [← List.append_assoc, show (12 : Nat) = (f1 ++ f2).length by rw [List.length_append]; omega, List.take_left]
          rw [t0]
          show fixS (.int .u64) (valW ((f1 ++ f2).take 9) ((f1 ++ f2).drop 9)) = _
          rw [← hl1, List.take_left, List.drop_left]
          exact fixS_id hv
        have hin : Enters cxL.P 29 := enters Tryz.func29 (c := Tryz.f29.body.getD .skip) (by kernel_rfl) (by kernel_rfl)
        refine ⟨hin _ _, ?_⟩
        subst e4
        refine (hcall p0 p1 p2 p3 hp0 hp1 hp2' hp3' w (hT.same hW.base.1)).mono ?_
        rintro e w' ⟨rfl, hb⟩
        subst hd
        refine ⟨_, β, rfl, Ext.refl _, Newer.refl _ _ _, hW.grow hb, ⟨_, rfl, ?_, ?_, trivial⟩⟩
        · show _ = (E.ite (.app 61 0 (toL E0)) (.app 60 0 (toL (E0.take 12))) (.int .u64 0)).den ρ phL
          show _ = (if vbool ((E.app 61 0 (toL E0)).den ρ phL) then (E.app 60 0 (toL (E0.take 12))).den ρ phL else Value.int .u64 0)
          rw [a61, a60]
          rfl
        · exact a61.symm
      · cases hd
    · cases hd
  · cases hd
theorem law_places {ov ws pv qv : List Value} (ho : All2 So.has ssO ov) (hw : All2 So.has ss3 ws) (hp : All2 So.has ss4 pv) (hq : All2 So.has ss4 qv) (W : World) (hT : TabsA W) :
    Calls Tryz.prog 5 #[.agg ov.toArray, .agg ws.toArray, .agg pv.toArray, .agg qv.toArray] W fun e W' => e = .returned (.bool true) ∧ Below W.heap.size W W' := by
  have hall : All2 So.has (ssO ++ (ss3 ++ (ss4 ++ ss4))) (ov ++ (ws ++ (pv ++ qv))) := all2_app ho (all2_app hw (all2_app hp hq))
  have l1 : ov.length = 9 := ho.length.symm
  have l2 : ws.length = 3 := hw.length.symm
  have l3 : pv.length = 4 := hp.length.symm
  have l4 : qv.length = 4 := hq.length.symm
  have F : Fits cxL.Γ cxL.S (rho (ov ++ (ws ++ (pv ++ qv)))) phL := ⟨fun i => all2_get hall i, fitL⟩
  obtain ⟨ρ, hρ⟩ : ∃ ρ, ρ = rho (ov ++ (ws ++ (pv ++ qv))) := ⟨_, rfl⟩
  rw [← hρ] at F
  have g1 : ∀ i, i < 9 → ρ (0 + i) = ov.getD i undef := fun i hi => by
    rw [hρ]; show (ov ++ _).getD (0 + i) undef = _
    rw [Nat.zero_add, List.getD_eq_getElem?_getD, List.getD_eq_getElem?_getD, List.getElem?_append_left (by omega)]
  have g2 : ∀ i, i < ws.length → ρ (9 + i) = ws.getD i undef := fun i hi => by
    rw [hρ]; show (ov ++ _).getD (9 + i) undef = _
    rw [List.getD_eq_getElem?_getD, List.getD_eq_getElem?_getD, List.getElem?_append_right (by omega), l1, Nat.add_sub_cancel_left, List.getElem?_append_left (by omega)]
  have g3 : ∀ i, i < pv.length → ρ (12 + i) = pv.getD i undef := fun i hi => by
    rw [hρ]; show (ov ++ _).getD (12 + i) undef = _
    rw [List.getD_eq_getElem?_getD, List.getD_eq_getElem?_getD, List.getElem?_append_right (by omega), List.getElem?_append_right (by omega), l1, l2, show 12 + i - 9 - 3 = i by omega, List.getElem?_append_left (by omega)]
  have g4 : ∀ i, i < qv.length → ρ (16 + i) = qv.getD i undef := fun i hi => by
    rw [hρ]; show (ov ++ _).getD (16 + i) undef = _
    rw [List.getD_eq_getElem?_getD, List.getD_eq_getElem?_getD, List.getElem?_append_right (by omega), List.getElem?_append_right (by omega), List.getElem?_append_right (by omega), l1, l2, l3, show 16 + i - 9 - 3 - 4 = i by omega]
  clear hρ
  have v2 := vars_is (ρ := ρ) (φ := phL) (β := fun _ => none) ws 9 g2
  have v3 := vars_is (ρ := ρ) (φ := phL) (β := fun _ => none) pv 12 g3
  have v4 := vars_is (ρ := ρ) (φ := phL) (β := fun _ => none) qv 16 g4
  rw [l2] at v2
  rw [l3] at v3
  rw [l4] at v4
  have key : ∀ (o : List E) (fs : Facts), lawR o fs = true → fs.hold ρ phL → o.map (·.den ρ phL) = ov → Calls Tryz.prog 5 #[.agg ov.toArray, .agg ws.toArray, .agg pv.toArray, .agg qv.toArray] W fun e W' => e = .returned (.bool true) ∧ Below W.heap.size W W' := by
    intro o fs hr hf hov
    have hh : ∀ (es : List E) (vs : List Value), es.map (·.den ρ phL) = vs → All2 (CX.SC.is ρ phL fun _ => none) (es.map .e) vs := by
      intro es
      induction es with
      | nil => intro vs h; subst h; trivial
      | cons e es ih => intro vs h; subst h; exact ⟨rfl, ih _ rfl⟩
    exact law_byE (cx := cxL) rfl (namesOk_spec names_ok) F sameR_ok hf (args := argsL o) (xs := [.agg ov.toArray, .agg ws.toArray, .agg pv.toArray, .agg qv.toArray]) ⟨⟨ov, rfl, hh o ov hov⟩, ⟨ws, rfl, v2⟩, ⟨pv, rfl, v3⟩, ⟨qv, rfl, v4⟩, trivial⟩ hr W (fun v hv => by simp [cxL] at hv) (orX_ok (workX_ok hT) (trueA_ok rfl hT))
  obtain ⟨k, f, w, a, b, c, n, sg, d, rfl, _⟩ := cells9 ho
  have e0 : ρ 0 = .int .i64 k := g1 0 (by decide)
  have e1 : ρ 1 = .int .i64 f := g1 1 (by decide)
  have e2 : ρ 2 = .int .i64 w := g1 2 (by decide)
  have e3 : ρ 3 = .int .i64 a := g1 3 (by decide)
  have e4 : ρ 4 = .int .i64 b := g1 4 (by decide)
  have e5 : ρ 5 = .int .i64 c := g1 5 (by decide)
  have e6 : ρ 6 = .int .u64 n := g1 6 (by decide)
  have e7 : ρ 7 = .bool sg := g1 7 (by decide)
  have e8 : ρ 8 = .int .i64 d := g1 8 (by decide)
  have lt : ∀ y : Nat, (ixLt (.var 0) y).den ρ phL = .bool (decide (k < (y : Int))) := fun y => by
    show Value.bool (decide (vint (ρ 0) < Int.ofNat y)) = _
    rw [e0]; rfl
  have hany : opAny.map (·.den ρ phL) = OV k f w a b c n sg d := by
    show [ρ 0, ρ 1, ρ 2, ρ 3, ρ 4, ρ 5, ρ 6, ρ 7, ρ 8] = _
    rw [e0, e1, e2, e3, e4, e5, e6, e7, e8]; rfl
  by_cases c1 : k < 1
  · exact key opAny _ lawk_lo (hold_cons _ ((lt 1).trans (dTrue (by omega))) hold_nil) hany
  by_cases c2 : 14 ≤ k
  · exact key opAny _ lawk_hi (hold_cons _ ((lt 1).trans (dFalse (by omega))) (hold_cons _ ((lt 14).trans (dFalse (by omega))) hold_nil)) hany
  obtain ⟨m, rfl⟩ := Int.eq_ofNat_of_zero_le (show 0 ≤ k by omega)
  have hk : (opKind m).map (·.den ρ phL) = OV (m : Int) f w a b c n sg d := by
    show [Value.int .i64 (m : Int), ρ 1, ρ 2, ρ 3, ρ 4, ρ 5, ρ 6, ρ 7, ρ 8] = _
    rw [e1, e2, e3, e4, e5, e6, e7, e8]; rfl
  match m, c1, c2, hk with
  | 0, c1, _, _ => exact absurd (show ((0 : Nat) : Int) < 1 by decide) c1
  | 1, _, _, hk => exact key _ _ lawk_1 hold_nil hk
  | 2, _, _, hk => exact key _ _ lawk_2 hold_nil hk
  | 3, _, _, hk => exact key _ _ lawk_3 hold_nil hk
  | 4, _, _, hk => exact key _ _ lawk_4 hold_nil hk
  | 5, _, _, hk => exact key _ _ lawk_5 hold_nil hk
  | 6, _, _, hk => exact key _ _ lawk_6 hold_nil hk
  | 7, _, _, hk => exact key _ _ lawk_7 hold_nil hk
  | 8, _, _, hk => exact key _ _ lawk_8 hold_nil hk
  | 9, _, _, hk => exact key _ _ lawk_9 hold_nil hk
  | 10, _, _, hk => exact key _ _ lawk_10 hold_nil hk
  | 11, _, _, hk => exact key _ _ lawk_11 hold_nil hk
  | 12, _, _, hk => exact key _ _ lawk_12 hold_nil hk
  | 13, _, _, hk => exact key _ _ lawk_13 hold_nil hk
  | m + 14, _, c2, _ => exact absurd (show (14 : Int) ≤ ((m + 14 : Nat) : Int) by omega) c2
end Go.Proofs.YthcncbbnjbhdkaaGreatDoor
