/- CX: fields that lie apart are read back from their word. -/
import Derived.Test.YtclhmilecdjbiaaDoorCXlw
namespace Go.CX
open Go Go.RowKit Go.SX
/-- The bits that fields take. -/
def maskFl : Fl → Nat
  | [] => 0
  | p :: fl => Nat.lor ((2 ^ p.2.1 - 1) * 2 ^ p.2.2) (maskFl fl)
def apartFl : Fl → Bool
  | [] => true
  | p :: fl => Nat.beq (Nat.land ((2 ^ p.2.1 - 1) * 2 ^ p.2.2) (maskFl fl)) 0 && Nat.ble (p.2.1 + p.2.2) 32 && apartFl fl
section
variable {ρ : Nat → Value} {φ : Nat → List Value → List Value}
theorem fld_within {p : E × Nat × Nat} : Within (fldV ρ φ p) (BitVec.ofNat 32 ((2 ^ p.2.1 - 1) * 2 ^ p.2.2)) := by
  have := within_shl (within_and (w32 (vint (p.1.den ρ φ))) (BitVec.ofNat 32 (2 ^ p.2.1 - 1))) p.2.2
  have e : (BitVec.ofNat 32 (2 ^ p.2.1 - 1)) <<< p.2.2 = BitVec.ofNat 32 ((2 ^ p.2.1 - 1) * 2 ^ p.2.2) := by
    rw [shl_mul]; simp [BitVec.ofNat_mul]
  rw [e] at this; exact this
theorem fld_bit {p : E × Nat × Nat} {i : Nat} (hi : i < p.2.1) (h32 : p.2.1 + p.2.2 ≤ 32) : (fldV ρ φ p).getLsbD (p.2.2 + i) = (w32 (vint (p.1.den ρ φ))).getLsbD i := by
  unfold fldV
  rw [BitVec.getLsbD_shiftLeft]
  have e : p.2.2 + i - p.2.2 = i := by omega
  rw [e, BitVec.getLsbD_and, BitVec.getLsbD_ofNat, Nat.testBit_two_pow_sub_one]
  have h1 : p.2.2 + i < 32 := by omega
  have h2 : i < 32 := by omega
  simp [h1, h2, hi]
theorem mask_bit {p : E × Nat × Nat} {i : Nat} (hi : i < p.2.1) (h32 : p.2.1 + p.2.2 ≤ 32) : (BitVec.ofNat 32 ((2 ^ p.2.1 - 1) * 2 ^ p.2.2)).getLsbD (p.2.2 + i) = true := by
  rw [BitVec.getLsbD_ofNat, Nat.testBit_mul_two_pow]
  have h1 : p.2.2 + i < 32 := by omega
  have e : p.2.2 + i - p.2.2 = i := by omega
  rw [e, Nat.testBit_two_pow_sub_one]
  simp [h1, hi]
theorem sum_apart : ∀ {fl : Fl}, apartFl fl = true → Within (sumW (fl.map (fldV ρ φ))) (BitVec.ofNat 32 (maskFl fl)) ∧
    ∀ p ∈ fl, ∀ i, i < p.2.1 → (sumW (fl.map (fldV ρ φ))).getLsbD (p.2.2 + i) = (w32 (vint (p.1.den ρ φ))).getLsbD i ∧ (BitVec.ofNat 32 (maskFl fl)).getLsbD (p.2.2 + i) = true
  | [], _ => ⟨within_of fun i hi => by simp [sumW] at hi, fun p hp => by simp at hp⟩
  | p :: fl, h => by
    unfold apartFl at h
    simp only [Bool.and_eq_true] at h
    obtain ⟨⟨h1, h2⟩, h3⟩ := h
    have h2 := Nat.le_of_ble_eq_true h2
    obtain ⟨hw, hb⟩ := sum_apart h3
    have hap := land_zero h1
    have hor := or_apart (fld_within (ρ := ρ) (φ := φ) (p := p)) hw hap
    have hs : sumW ((p :: fl).map (fldV ρ φ)) = fldV ρ φ p ||| sumW (fl.map (fldV ρ φ)) := hor.1.symm
    have hm : BitVec.ofNat 32 (maskFl (p :: fl)) = BitVec.ofNat 32 ((2 ^ p.2.1 - 1) * 2 ^ p.2.2) ||| BitVec.ofNat 32 (maskFl fl) := (lor_ofNat _ _).symm
    rw [hs, hm]
    refine ⟨hor.2, fun q hq i hi => ?_⟩
    rcases List.mem_cons.1 hq with rfl | hq
    · have hmb := mask_bit hi h2
      refine ⟨?_, by rw [BitVec.getLsbD_or, hmb, Bool.true_or]⟩
      rw [BitVec.getLsbD_or, fld_bit hi h2]
      have hno := apart_bit hap _ hmb
      cases hc : (sumW (fl.map (fldV ρ φ))).getLsbD (q.2.2 + i)
      · rw [Bool.or_false]
      · rw [within_bit hw _ hc] at hno; cases hno
    · obtain ⟨g1, g2⟩ := hb q hq i hi
      refine ⟨?_, by rw [BitVec.getLsbD_or, g2, Bool.or_true]⟩
      rw [BitVec.getLsbD_or, g1]
      cases hc : (fldV ρ φ p).getLsbD (q.2.2 + i)
      · rw [Bool.false_or]
      · have := apart_bit hap _ (within_bit fld_within _ hc)
        rw [this] at g2; cases g2
/-- Constant and fields lie apart. -/
def apartW (c : Nat) (fl : Fl) : Bool := apartFl fl && smallFl fl && Nat.beq (Nat.land c (maskFl fl)) 0 && Nat.blt (c + topFl fl) 4294967296
theorem wordI_bits {c : Nat} {fl : Fl} (h : apartW c fl = true) : w32 (wordI ρ φ c fl) = BitVec.ofNat 32 c ||| sumW (fl.map (fldV ρ φ)) := by
  unfold apartW at h
  simp only [Bool.and_eq_true] at h
  obtain ⟨⟨⟨h1, h2⟩, h3⟩, _⟩ := h
  obtain ⟨hw, _⟩ := sum_apart (ρ := ρ) (φ := φ) h1
  rw [(or_apart (within_refl (BitVec.ofNat 32 c)) hw (land_zero h3)).1]
  unfold wordI
  rw [w32_add, sumW_I h2, show w32 (c : Int) = BitVec.ofNat 32 c from w32_nat c]
/-- A field read back. -/
theorem word_field {c : Nat} {fl : Fl} (h : apartW c fl = true) {p : E × Nat × Nat} (hp : p ∈ fl) {i : Nat} (hi : i < p.2.1) : (w32 (wordI ρ φ c fl)).getLsbD (p.2.2 + i) = (w32 (vint (p.1.den ρ φ))).getLsbD i := by
  rw [wordI_bits h]
  unfold apartW at h
  simp only [Bool.and_eq_true] at h
  obtain ⟨⟨⟨h1, _⟩, h3⟩, _⟩ := h
  obtain ⟨_, hb⟩ := sum_apart (ρ := ρ) (φ := φ) h1
  obtain ⟨g1, g2⟩ := hb p hp i hi
  rw [BitVec.getLsbD_or, g1]
  cases hc : (BitVec.ofNat 32 c).getLsbD (p.2.2 + i)
  · rw [Bool.false_or]
  · have := apart_bit (land_zero h3) _ hc
    rw [this] at g2; cases g2
/-- Where no field is, the word is the constant. -/
theorem word_const {c : Nat} {fl : Fl} (h : apartW c fl = true) : w32 (wordI ρ φ c fl) &&& ~~~ (BitVec.ofNat 32 (maskFl fl)) = BitVec.ofNat 32 c := by
  rw [wordI_bits h]
  unfold apartW at h
  simp only [Bool.and_eq_true] at h
  obtain ⟨⟨⟨h1, _⟩, h3⟩, _⟩ := h
  obtain ⟨hw, _⟩ := sum_apart (ρ := ρ) (φ := φ) h1
  apply BitVec.eq_of_getLsbD_eq
  intro i hi
  rw [BitVec.getLsbD_and, BitVec.getLsbD_or, BitVec.getLsbD_not]
  cases hm : (BitVec.ofNat 32 (maskFl fl)).getLsbD i
  · cases hs : (sumW (fl.map (fldV ρ φ))).getLsbD i
    · simp [hi]
    · have := within_bit hw i hs
      rw [this] at hm; cases hm
  · cases hc : (BitVec.ofNat 32 c).getLsbD i
    · simp
    · have := apart_bit (land_zero h3) i hc
      rw [this] at hm; cases hm
/-- Equal fields, as numbers. -/
theorem field_same {x y : Int} {k : Nat} (hk : k ≤ 32) (h : ∀ i, i < k → (w32 x).getLsbD i = (w32 y).getLsbD i) : x % 2 ^ k = y % 2 ^ k := by
  have e : w32 x &&& BitVec.ofNat 32 (2 ^ k - 1) = w32 y &&& BitVec.ofNat 32 (2 ^ k - 1) := by
    apply BitVec.eq_of_getLsbD_eq
    intro i hi
    rw [BitVec.getLsbD_and, BitVec.getLsbD_and, BitVec.getLsbD_ofNat, Nat.testBit_two_pow_sub_one]
    by_cases hik : i < k
    · rw [h i hik]
    · simp [hik]
  rw [field_mod x k hk, field_mod y k hk] at e
  have hp : (0 : Int) < 2 ^ k := Int.pow_pos (by omega)
  have h32 : (2 : Int) ^ k ≤ 4294967296 := by
    have : (2 : Nat) ^ k ≤ 2 ^ 32 := Nat.pow_le_pow_right (by omega) hk
    have : ((2 ^ k : Nat) : Int) ≤ ((2 ^ 32 : Nat) : Int) := by exact_mod_cast this
    rw [pow_cast] at this
    exact this
  have h1 := Int.emod_nonneg x (Int.ne_of_gt hp)
  have h2 := Int.emod_lt_of_pos x hp
  have h3 := Int.emod_nonneg y (Int.ne_of_gt hp)
  have h4 := Int.emod_lt_of_pos y hp
  exact w32_inj ⟨h1, by omega⟩ ⟨h3, by omega⟩ e
end
section
variable {ρ ρ' : Nat → Value} {φ : Nat → List Value → List Value}
/-- One word, one field. -/
theorem word_fields {c : Nat} {fl : Fl} (h : apartW c fl = true) (hw : wordI ρ φ c fl = wordI ρ' φ c fl) {p : E × Nat × Nat} (hp : p ∈ fl) : vint (p.1.den ρ φ) % 2 ^ p.2.1 = vint (p.1.den ρ' φ) % 2 ^ p.2.1 := by
  have hsm : p.2.1 ≤ 32 := by
    have h' := h
    unfold apartW at h'
    simp only [Bool.and_eq_true] at h'
    exact Nat.le_of_ble_eq_true (List.all_eq_true.1 h'.1.1.2 p hp)
  refine field_same hsm fun i hi => ?_
  rw [← word_field h hp hi, ← word_field h hp hi, hw]
/-- Two constants that differ where neither has fields. -/
def unlike (c c' m m' : Nat) : Bool := !(Nat.beq (Nat.land (Nat.xor c c') (4294967295 - Nat.lor m m' % 4294967296)) 0)
theorem words_unlike {c c' : Nat} {fl fl' : Fl} (h : apartW c fl = true) (h' : apartW c' fl' = true) (hd : unlike c c' (maskFl fl) (maskFl fl') = true) : wordI ρ φ c fl ≠ wordI ρ' φ c' fl' := by
  intro hw
  have e1 := word_const (ρ := ρ) (φ := φ) h
  have e2 := word_const (ρ := ρ') (φ := φ) h'
  rw [← hw] at e2
  have e3 : BitVec.ofNat 32 c &&& ~~~ (BitVec.ofNat 32 (maskFl fl) ||| BitVec.ofNat 32 (maskFl fl')) = BitVec.ofNat 32 c' &&& ~~~ (BitVec.ofNat 32 (maskFl fl) ||| BitVec.ofNat 32 (maskFl fl')) := by
    rw [← e1, ← e2]
    apply BitVec.eq_of_getLsbD_eq
    intro i hi
    simp only [BitVec.getLsbD_and, BitVec.getLsbD_not, BitVec.getLsbD_or]
    cases (w32 (wordI ρ φ c fl)).getLsbD i <;> cases (BitVec.ofNat 32 (maskFl fl)).getLsbD i <;> cases (BitVec.ofNat 32 (maskFl fl')).getLsbD i <;> simp
  unfold unlike at hd
  have hd : ¬ Nat.land (Nat.xor c c') (4294967295 - Nat.lor (maskFl fl) (maskFl fl') % 4294967296) = 0 := by
    intro hz
    rw [hz] at hd
    exact absurd hd (by decide)
  apply hd
  have e4 : (BitVec.ofNat 32 c ^^^ BitVec.ofNat 32 c') &&& ~~~ (BitVec.ofNat 32 (maskFl fl) ||| BitVec.ofNat 32 (maskFl fl')) = 0#32 := by
    apply BitVec.eq_of_getLsbD_eq
    intro i hi
    have := congrArg (·.getLsbD i) e3
    simp only [BitVec.getLsbD_and] at this
    rw [BitVec.getLsbD_and, BitVec.getLsbD_xor, BitVec.getLsbD_zero]
    revert this
    cases (BitVec.ofNat 32 c).getLsbD i <;> cases (BitVec.ofNat 32 c').getLsbD i <;> cases (~~~ (BitVec.ofNat 32 (maskFl fl) ||| BitVec.ofNat 32 (maskFl fl'))).getLsbD i <;> simp
  have e5 := congrArg BitVec.toNat e4
  rw [BitVec.toNat_and, BitVec.toNat_xor, BitVec.toNat_not, BitVec.toNat_or] at e5
  simp only [BitVec.toNat_ofNat] at e5
  have hc : c % 2 ^ 32 = c := by
    unfold apartW at h; simp only [Bool.and_eq_true] at h; have := blt_lt h.2; exact Nat.mod_eq_of_lt (by omega)
  have hc' : c' % 2 ^ 32 = c' := by
    unfold apartW at h'; simp only [Bool.and_eq_true] at h'; have := blt_lt h'.2; exact Nat.mod_eq_of_lt (by omega)
  rw [hc, hc'] at e5
  have hor : (maskFl fl % 2 ^ 32 ||| maskFl fl' % 2 ^ 32) = Nat.lor (maskFl fl) (maskFl fl') % 4294967296 := (Nat.or_mod_two_pow (a := maskFl fl) (b := maskFl fl') (n := 32)).symm
  rw [hor] at e5
  exact e5
end
end Go.CX
/- CX: fields of a word, by symbol 5: what is known of them; the ways part where a field must be known. -/
namespace Go.CX
open Go Go.RowKit Go.SX
section
variable {ρ : Nat → Value} {φ : Nat → List Value → List Value} {cx : Cx}
def fldE (x : E) (a n : Nat) : E := .app 5 0 (toL [x, .int .i64 (Int.ofNat a), .int .i64 (Int.ofNat n)])
/-- The number that a term is known to be. -/
def knownF (t : E) : Facts → Option Nat
  | [] => none
  | p :: fs => match p with
    | (.cmp .eql y (.int .u32 (.ofNat c)), true) => if E.eqv y t then some c else knownF t fs
    | _ => knownF t fs
/-- The first number, of k from c on, that it may be. -/
def openC (fs : Facts) (t : E) : Nat → Nat → Option Nat
  | 0, _ => none
  | k + 1, c => match fs.look (.cmp .eql t (.int .u32 (Int.ofNat c))) with
    | some false => openC fs t k (c + 1)
    | _ => some c
def fldLit (k : IntKind) (c : Nat) : E := .int k (Int.ofNat c)
def fldTerm (k : IntKind) (t : E) : E := match k with
  | .u32 => t
  | k => .conv k t
def bitsX (cx : Cx) (f : FuncId) (k : IntKind) (ctl : Nat → Nat → Bool) : ExtT := fun g args _ nx fs => if Nat.beq g f then (match args with
  | [.one ⟨false, [.e x]⟩, .one ⟨false, [.e (.int .i64 (.ofNat a))]⟩, .one ⟨false, [.e (.int .i64 (.ofNat n))]⟩] =>
    if (cx.so x == .int .u32) && Nat.ble 1 n && Nat.ble n 31 && Nat.ble (a + n) 32 then
      (match knownF (fldE x a n) fs with
      | some c => some (.ok ⟨.one ⟨false, [.e (fldLit k c)]⟩, [], nx⟩)
      | none => if ctl a n then (match openC fs (fldE x a n) (2 ^ n - 1) 0 with
        | some c => some (.split (.cmp .eql (fldE x a n) (.int .u32 (Int.ofNat c))))
        | none => some (.ok ⟨.one ⟨false, [.e (fldLit k (2 ^ n - 1))]⟩, [], nx⟩))
        else some (.ok ⟨.one ⟨false, [.e (fldTerm k (fldE x a n))]⟩, [], nx⟩))
    else none
  | _ => none) else none
/-- What symbol 5 means. -/
def Flds (φ : Nat → List Value → List Value) : Prop := ∀ v a n : Nat, v < 4294967296 → (φ 5 [.int .u32 (Int.ofNat v), .int .i64 (Int.ofNat a), .int .i64 (Int.ofNat n)]).getD 0 undef = .int .u32 (Int.ofNat (v / 2 ^ a % 2 ^ n))
theorem knownF_ok {t : E} {V : Nat} (ht : t.den ρ φ = .int .u32 (Int.ofNat V)) : ∀ {fs : Facts} {c : Nat}, fs.hold ρ φ → knownF t fs = some c → V = c
  | [], _, _, h => by simp [knownF] at h
  | p :: fs, c, hf, h => by
    have rest : knownF t fs = some c → V = c := fun h => knownF_ok ht (fun q hq => hf q (List.mem_cons_of_mem _ hq)) h
    unfold knownF at h
    split at h
    · rename_i y c'
      split at h
      · rename_i he
        simp only [Option.some.injEq] at h
        subst h
        have hp := hf _ List.mem_cons_self
        rw [E.eqv_eq he] at hp
        have hp : Value.bool (vint (t.den ρ φ) == Int.ofNat c') = .bool true := hp
        rw [ht] at hp
        have hp := eq_of_beq (Value.bool.inj hp)
        exact Int.ofNat.inj hp
      · exact rest h
    · exact rest h
theorem openC_none {fs : Facts} {t : E} {V : Nat} (ht : t.den ρ φ = .int .u32 (Int.ofNat V)) (hf : fs.hold ρ φ) : ∀ {k c : Nat}, openC fs t k c = none → ∀ d, c ≤ d → d < c + k → V ≠ d
  | 0, c, _, d, h1, h2 => by omega
  | k + 1, c, h, d, h1, h2 => by
    unfold openC at h
    split at h
    · rename_i hl
      by_cases e : d = c
      · subst e
        have hp := Facts.look_sound ρ φ hf hl
        have hp : Value.bool (vint (t.den ρ φ) == Int.ofNat d) = .bool false := hp
        rw [ht] at hp
        have hp := Value.bool.inj hp
        intro e
        subst e
        simp at hp
      · exact openC_none ht hf h d (by omega) (by omega)
    · exact absurd h (by simp)
theorem bitsX_ok {ws : Base} {f : FuncId} {k : IntKind} {ctl : Nat → Nat → Bool} (hk : k = .u32 ∨ k = .i64) (hφ : Flds φ) (hin : Enters cx.P f)
    (hc : ∀ (w : World) (v a n : Nat), v < 4294967296 → 1 ≤ n → n ≤ 31 → a + n ≤ 32 → Calls cx.P f #[.int .u32 (Int.ofNat v), .int .i64 (Int.ofNat a), .int .i64 (Int.ofNat n)] w fun e w' => e = .returned (.int k (Int.ofNat (v / 2 ^ a % 2 ^ n))) ∧ Below w.heap.size w w') :
    ExtOk ws cx φ (bitsX cx f k ctl) := by
  intro g svs B nx fs d h ρ β w xs N F hf hW hnn ha
  unfold bitsX at h
  split at h
  · rename_i he
    have he := Nat.eq_of_beq_eq_true he
    subst he
    split at h
    · rename_i x a n
      split at h
      · rename_i hcond
        simp only [Bool.and_eq_true] at hcond
        obtain ⟨⟨⟨hso, hn1⟩, hn31⟩, han⟩ := hcond
        have hn1 := Nat.le_of_ble_eq_true hn1
        have han := Nat.le_of_ble_eq_true han
        have hn31 := Nat.le_of_ble_eq_true hn31
        obtain ⟨m, hm, m0, m1⟩ := so_num F (so_eq hso)
        have m0 : 0 ≤ m := m0
        have m1 : m ≤ 4294967295 := m1
        obtain ⟨v, rfl⟩ := Int.eq_ofNat_of_zero_le m0
        have ht : (fldE x a n).den ρ φ = .int .u32 (Int.ofNat (v / 2 ^ a % 2 ^ n)) := by
          show (φ 5 (E.dens ρ φ (toL [x, .int .i64 (Int.ofNat a), .int .i64 (Int.ofNat n)]))).getD 0 undef = _
          rw [toL_dens]
          show (φ 5 [x.den ρ φ, .int .i64 (Int.ofNat a), .int .i64 (Int.ofNat n)]).getD 0 undef = _
          rw [hm]
          exact hφ v a n (by omega)
        have hlt : v / 2 ^ a % 2 ^ n < 2 ^ n := Nat.mod_lt _ (Nat.two_pow_pos n)
        match xs, ha with
        | [x1, x2, x3], ha =>
          have e1 : x1 = x.den ρ φ := ha.1
          have e2 : x2 = .int .i64 (Int.ofNat a) := ha.2.1
          have e3 : x3 = .int .i64 (Int.ofNat n) := ha.2.2.1
          rw [hm] at e1
          subst e1 e2 e3
          have fin : ∀ {e : E}, e.den ρ φ = .int k (Int.ofNat (v / 2 ^ a % 2 ^ n)) → d = ⟨.one ⟨false, [.e e]⟩, [], nx⟩ →
              (callFunc g #[.int .u32 (v : Int), .int .i64 (Int.ofNat a), .int .i64 (Int.ofNat n)]).run cx.P w = .ok (.enter g #[.int .u32 (v : Int), .int .i64 (Int.ofNat a), .int .i64 (Int.ofNat n)]) w ∧ Calls cx.P g #[.int .u32 (v : Int), .int .i64 (Int.ofNat a), .int .i64 (Int.ofNat n)] w fun e w' => ∃ x β', e = .returned x ∧ Ext β β' ∧ Newer β β' nx d.next ∧ W ρ φ ⟨N, Xof B β, B, w, ws⟩ (dlB d.dl B) β' w' ∧ d.v.is ρ φ β' x := by
            intro e he hd
            subst hd
            refine ⟨hin _ _, Calls.mono (hc w v a n (by omega) hn1 hn31 han) ?_⟩
            rintro e' w' ⟨rfl, hb⟩
            exact ⟨_, β, rfl, Ext.refl _, Newer.refl _ _ _, hW.grow hb, he.symm⟩
          split at h
          · rename_i c hkn
            simp only [Option.some.injEq, OR.ok.injEq] at h
            refine fin ?_ h.symm
            rw [knownF_ok ht hf hkn]; rfl
          · split at h
            · split at h
              · exact absurd h (by simp)
              · rename_i hop
                simp only [Option.some.injEq, OR.ok.injEq] at h
                refine fin ?_ h.symm
                have hne := openC_none ht hf hop
                have h1 : 1 ≤ 2 ^ n := Nat.one_le_two_pow
                have : v / 2 ^ a % 2 ^ n = 2 ^ n - 1 := by
                  by_cases hq : v / 2 ^ a % 2 ^ n < 2 ^ n - 1
                  · exact absurd rfl (hne _ (Nat.zero_le _) (by omega))
                  · omega
                rw [this]; rfl
            · simp only [Option.some.injEq, OR.ok.injEq] at h
              refine fin ?_ h.symm
              rcases hk with rfl | rfl
              · exact ht
              · show Value.int .i64 (IntKind.i64.wrap (vint ((fldE x a n).den ρ φ))) = _
                rw [ht]
                have : v / 2 ^ a % 2 ^ n ≤ v / 2 ^ a := Nat.mod_le _ _
                have : v / 2 ^ a ≤ v := Nat.div_le_self _ _
                have hi : IntKind.i64.wrap (Int.ofNat (v / 2 ^ a % 2 ^ n)) = Int.ofNat (v / 2 ^ a % 2 ^ n) := by
                  rw [IntKind.wrap_i64]
                  have e : Int.ofNat (v / 2 ^ a % 2 ^ n) = ((v / 2 ^ a % 2 ^ n : Nat) : Int) := rfl
                  rw [e]; omega
                exact congrArg (Value.int .i64) hi
      · exact absurd h (by simp)
    · exact absurd h (by simp)
  · exact absurd h (by simp)
end
end Go.CX
