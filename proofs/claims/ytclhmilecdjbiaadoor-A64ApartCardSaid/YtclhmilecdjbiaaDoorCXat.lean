/- CX: fields that lie apart are read back from their word. -/
import Derived.Test.YtclhmilecdjbiaaDoorCXlw
namespace Go.CX
open Go Go.RowKit Go.SX
/-- The bits that fields take. -/
def maskFl : Fl → Nat
  | [] => 0
  | p :: fl => Nat.lor ((2 ^ p.2.1 - 1) * 2 ^ p.2.2) (maskFl fl)
def apartFl : Fl → Bool
  | [] => true
  | p :: fl => Nat.beq (Nat.land ((2 ^ p.2.1 - 1) * 2 ^ p.2.2) (maskFl fl)) 0 && Nat.ble (p.2.1 + p.2.2) 32 && apartFl fl
section
variable {ρ : Nat → Value} {φ : Nat → List Value → List Value}
theorem fld_within {p : E × Nat × Nat} : Within (fldV ρ φ p) (BitVec.ofNat 32 ((2 ^ p.2.1 - 1) * 2 ^ p.2.2)) := by
  have := within_shl (within_and (w32 (vint (p.1.den ρ φ))) (BitVec.ofNat 32 (2 ^ p.2.1 - 1))) p.2.2
  have e : (BitVec.ofNat 32 (2 ^ p.2.1 - 1)) <<< p.2.2 = BitVec.ofNat 32 ((2 ^ p.2.1 - 1) * 2 ^ p.2.2) := by
    rw [shl_mul]; simp [BitVec.ofNat_mul]
  rw [e] at this; exact this
theorem fld_bit {p : E × Nat × Nat} {i : Nat} (hi : i < p.2.1) (h32 : p.2.1 + p.2.2 ≤ 32) : (fldV ρ φ p).getLsbD (p.2.2 + i) = (w32 (vint (p.1.den ρ φ))).getLsbD i := by
  unfold fldV
  rw [BitVec.getLsbD_shiftLeft]
  have e : p.2.2 + i - p.2.2 = i := by omega
  rw [e, BitVec.getLsbD_and, BitVec.getLsbD_ofNat, Nat.testBit_two_pow_sub_one]
  have h1 : p.2.2 + i < 32 := by omega
  have h2 : i < 32 := by omega
  simp [h1, h2, hi]
theorem mask_bit {p : E × Nat × Nat} {i : Nat} (hi : i < p.2.1) (h32 : p.2.1 + p.2.2 ≤ 32) : (BitVec.ofNat 32 ((2 ^ p.2.1 - 1) * 2 ^ p.2.2)).getLsbD (p.2.2 + i) = true := by
  rw [BitVec.getLsbD_ofNat, Nat.testBit_mul_two_pow]
  have h1 : p.2.2 + i < 32 := by omega
  have e : p.2.2 + i - p.2.2 = i := by omega
  rw [e, Nat.testBit_two_pow_sub_one]
  simp [h1, hi]
theorem sum_apart : ∀ {fl : Fl}, apartFl fl = true → Within (sumW (fl.map (fldV ρ φ))) (BitVec.ofNat 32 (maskFl fl)) ∧
    ∀ p ∈ fl, ∀ i, i < p.2.1 → (sumW (fl.map (fldV ρ φ))).getLsbD (p.2.2 + i) = (w32 (vint (p.1.den ρ φ))).getLsbD i ∧ (BitVec.ofNat 32 (maskFl fl)).getLsbD (p.2.2 + i) = true
  | [], _ => ⟨within_of fun i hi => by simp [sumW] at hi, fun p hp => by simp at hp⟩
  | p :: fl, h => by
    unfold apartFl at h
    simp only [Bool.and_eq_true] at h
    obtain ⟨⟨h1, h2⟩, h3⟩ := h
    have h2 := Nat.le_of_ble_eq_true h2
    obtain ⟨hw, hb⟩ := sum_apart h3
    have hap := land_zero h1
    have hor := or_apart (fld_within (ρ := ρ) (φ := φ) (p := p)) hw hap
    have hs : sumW ((p :: fl).map (fldV ρ φ)) = fldV ρ φ p ||| sumW (fl.map (fldV ρ φ)) := hor.1.symm
    have hm : BitVec.ofNat 32 (maskFl (p :: fl)) = BitVec.ofNat 32 ((2 ^ p.2.1 - 1) * 2 ^ p.2.2) ||| BitVec.ofNat 32 (maskFl fl) := (lor_ofNat _ _).symm
    rw [hs, hm]
    refine ⟨hor.2, fun q hq i hi => ?_⟩
    rcases List.mem_cons.1 hq with rfl | hq
    · have hmb := mask_bit hi h2
      refine ⟨?_, by rw [BitVec.getLsbD_or, hmb, Bool.true_or]⟩
      rw [BitVec.getLsbD_or, fld_bit hi h2]
      have hno := apart_bit hap _ hmb
      cases hc : (sumW (fl.map (fldV ρ φ))).getLsbD (q.2.2 + i)
      · rw [Bool.or_false]
      · rw [within_bit hw _ hc] at hno; cases hno
    · obtain ⟨g1, g2⟩ := hb q hq i hi
      refine ⟨?_, by rw [BitVec.getLsbD_or, g2, Bool.or_true]⟩
      rw [BitVec.getLsbD_or, g1]
      cases hc : (fldV ρ φ p).getLsbD (q.2.2 + i)
      · rw [Bool.false_or]
      · have := apart_bit hap _ (within_bit fld_within _ hc)
        rw [this] at g2; cases g2
/-- Constant and fields lie apart. -/
def apartW (c : Nat) (fl : Fl) : Bool := apartFl fl && smallFl fl && Nat.beq (Nat.land c (maskFl fl)) 0 && Nat.blt (c + topFl fl) 4294967296
theorem wordI_bits {c : Nat} {fl : Fl} (h : apartW c fl = true) : w32 (wordI ρ φ c fl) = BitVec.ofNat 32 c ||| sumW (fl.map (fldV ρ φ)) := by
  unfold apartW at h
  simp only [Bool.and_eq_true] at h
  obtain ⟨⟨⟨h1, h2⟩, h3⟩, _⟩ := h
  obtain ⟨hw, _⟩ := sum_apart (ρ := ρ) (φ := φ) h1
  rw [(or_apart (within_refl (BitVec.ofNat 32 c)) hw (land_zero h3)).1]
  unfold wordI
  rw [w32_add, sumW_I h2, show w32 (c : Int) = BitVec.ofNat 32 c from w32_nat c]
/-- A field read back. -/
theorem word_field {c : Nat} {fl : Fl} (h : apartW c fl = true) {p : E × Nat × Nat} (hp : p ∈ fl) {i : Nat} (hi : i < p.2.1) : (w32 (wordI ρ φ c fl)).getLsbD (p.2.2 + i) = (w32 (vint (p.1.den ρ φ))).getLsbD i := by
  rw [wordI_bits h]
  unfold apartW at h
  simp only [Bool.and_eq_true] at h
  obtain ⟨⟨⟨h1, _⟩, h3⟩, _⟩ := h
  obtain ⟨_, hb⟩ := sum_apart (ρ := ρ) (φ := φ) h1
  obtain ⟨g1, g2⟩ := hb p hp i hi
  rw [BitVec.getLsbD_or, g1]
  cases hc : (BitVec.ofNat 32 c).getLsbD (p.2.2 + i)
  · rw [Bool.false_or]
  · have := apart_bit (land_zero h3) _ hc
    rw [this] at g2; cases g2
/-- Where no field is, the word is the constant. -/
theorem word_const {c : Nat} {fl : Fl} (h : apartW c fl = true) : w32 (wordI ρ φ c fl) &&& ~~~ (BitVec.ofNat 32 (maskFl fl)) = BitVec.ofNat 32 c := by
  rw [wordI_bits h]
  unfold apartW at h
  simp only [Bool.and_eq_true] at h
  obtain ⟨⟨⟨h1, _⟩, h3⟩, _⟩ := h
  obtain ⟨hw, _⟩ := sum_apart (ρ := ρ) (φ := φ) h1
  apply BitVec.eq_of_getLsbD_eq
  intro i hi
  rw [BitVec.getLsbD_and, BitVec.getLsbD_or, BitVec.getLsbD_not]
  cases hm : (BitVec.ofNat 32 (maskFl fl)).getLsbD i
  · cases hs : (sumW (fl.map (fldV ρ φ))).getLsbD i
    · simp [hi]
    · have := within_bit hw i hs
      rw [this] at hm; cases hm
  · cases hc : (BitVec.ofNat 32 c).getLsbD i
    · simp
    · have := apart_bit (land_zero h3) i hc
      rw [this] at hm; cases hm
/-- Equal fields, as numbers. -/
theorem field_same {x y : Int} {k : Nat} (hk : k ≤ 32) (h : ∀ i, i < k → (w32 x).getLsbD i = (w32 y).getLsbD i) : x % 2 ^ k = y % 2 ^ k := by
  have e : w32 x &&& BitVec.ofNat 32 (2 ^ k - 1) = w32 y &&& BitVec.ofNat 32 (2 ^ k - 1) := by
    apply BitVec.eq_of_getLsbD_eq
    intro i hi
    rw [BitVec.getLsbD_and, BitVec.getLsbD_and, BitVec.getLsbD_ofNat, Nat.testBit_two_pow_sub_one]
    by_cases hik : i < k
    · rw [h i hik]
    · simp [hik]
  rw [field_mod x k hk, field_mod y k hk] at e
  have hp : (0 : Int) < 2 ^ k := Int.pow_pos (by omega)
  have h32 : (2 : Int) ^ k ≤ 4294967296 := by
    have : (2 : Nat) ^ k ≤ 2 ^ 32 := Nat.pow_le_pow_right (by omega) hk
    have : ((2 ^ k : Nat) : Int) ≤ ((2 ^ 32 : Nat) : Int) := by exact_mod_cast this
    rw [pow_cast] at this
    exact this
  have h1 := Int.emod_nonneg x (Int.ne_of_gt hp)
  have h2 := Int.emod_lt_of_pos x hp
  have h3 := Int.emod_nonneg y (Int.ne_of_gt hp)
  have h4 := Int.emod_lt_of_pos y hp
  exact w32_inj ⟨h1, by omega⟩ ⟨h3, by omega⟩ e
end
section
variable {ρ ρ' : Nat → Value} {φ : Nat → List Value → List Value}
/-- One word, one field. -/
theorem word_fields {c : Nat} {fl : Fl} (h : apartW c fl = true) (hw : wordI ρ φ c fl = wordI ρ' φ c fl) {p : E × Nat × Nat} (hp : p ∈ fl) : vint (p.1.den ρ φ) % 2 ^ p.2.1 = vint (p.1.den ρ' φ) % 2 ^ p.2.1 := by
  have hsm : p.2.1 ≤ 32 := by
    have h' := h
    unfold apartW at h'
    simp only [Bool.and_eq_true] at h'
    exact Nat.le_of_ble_eq_true (List.all_eq_true.1 h'.1.1.2 p hp)
  refine field_same hsm fun i hi => ?_
  rw [← word_field h hp hi, ← word_field h hp hi, hw]
/-- Two constants that differ where neither has fields. -/
def unlike (c c' m m' : Nat) : Bool := !(Nat.beq (Nat.land (Nat.xor c c') (4294967295 - Nat.lor m m' % 4294967296)) 0)
theorem words_unlike {c c' : Nat} {fl fl' : Fl} (h : apartW c fl = true) (h' : apartW c' fl' = true) (hd : unlike c c' (maskFl fl) (maskFl fl') = true) : wordI ρ φ c fl ≠ wordI ρ' φ c' fl' := by
  intro hw
  have e1 := word_const (ρ := ρ) (φ := φ) h
  have e2 := word_const (ρ := ρ') (φ := φ) h'
  rw [← hw] at e2
  have e3 : BitVec.ofNat 32 c &&& ~~~ (BitVec.ofNat 32 (maskFl fl) ||| BitVec.ofNat 32 (maskFl fl')) = BitVec.ofNat 32 c' &&& ~~~ (BitVec.ofNat 32 (maskFl fl) ||| BitVec.ofNat 32 (maskFl fl')) := by
    rw [← e1, ← e2]
    apply BitVec.eq_of_getLsbD_eq
    intro i hi
    simp only [BitVec.getLsbD_and, BitVec.getLsbD_not, BitVec.getLsbD_or]
    cases (w32 (wordI ρ φ c fl)).getLsbD i <;> cases (BitVec.ofNat 32 (maskFl fl)).getLsbD i <;> cases (BitVec.ofNat 32 (maskFl fl')).getLsbD i <;> simp
  unfold unlike at hd
  have hd : ¬ Nat.land (Nat.xor c c') (4294967295 - Nat.lor (maskFl fl) (maskFl fl') % 4294967296) = 0 := by
    intro hz
    rw [hz] at hd
    exact absurd hd (by decide)
  apply hd
  have e4 : (BitVec.ofNat 32 c ^^^ BitVec.ofNat 32 c') &&& ~~~ (BitVec.ofNat 32 (maskFl fl) ||| BitVec.ofNat 32 (maskFl fl')) = 0#32 := by
    apply BitVec.eq_of_getLsbD_eq
    intro i hi
    have := congrArg (·.getLsbD i) e3
    simp only [BitVec.getLsbD_and] at this
    rw [BitVec.getLsbD_and, BitVec.getLsbD_xor, BitVec.getLsbD_zero]
    revert this
    cases (BitVec.ofNat 32 c).getLsbD i <;> cases (BitVec.ofNat 32 c').getLsbD i <;> cases (~~~ (BitVec.ofNat 32 (maskFl fl) ||| BitVec.ofNat 32 (maskFl fl'))).getLsbD i <;> simp
  have e5 := congrArg BitVec.toNat e4
  rw [BitVec.toNat_and, BitVec.toNat_xor, BitVec.toNat_not, BitVec.toNat_or] at e5
  simp only [BitVec.toNat_ofNat] at e5
  have hc : c % 2 ^ 32 = c := by
    unfold apartW at h; simp only [Bool.and_eq_true] at h; have := blt_lt h.2; exact Nat.mod_eq_of_lt (by omega)
  have hc' : c' % 2 ^ 32 = c' := by
    unfold apartW at h'; simp only [Bool.and_eq_true] at h'; have := blt_lt h'.2; exact Nat.mod_eq_of_lt (by omega)
  rw [hc, hc'] at e5
  have hor : (maskFl fl % 2 ^ 32 ||| maskFl fl' % 2 ^ 32) = Nat.lor (maskFl fl) (maskFl fl') % 4294967296 := (Nat.or_mod_two_pow (a := maskFl fl) (b := maskFl fl') (n := 32)).symm
  rw [hor] at e5
  exact e5
end
end Go.CX

/- Texts in tokens: numerals are told apart, and blanks part them. -/
namespace Go.CX
open Go Go.RowKit Go.SX
theorem dec_bytes (n : Nat) : ∀ u, u < n → ∀ b ∈ Lib.decDigits u, 48 ≤ b.toNat ∧ b.toNat ≤ 57 := by
  induction n with
  | zero => intro u h; omega
  | succ n ih =>
    intro u hu b hb
    have one : ∀ r, r < 10 → ∀ b ∈ Lib.decDigits r, 48 ≤ b.toNat ∧ b.toNat ≤ 57 := by
      intro r hr b hb
      rw [Lib.decDigits_one hr, List.mem_singleton] at hb
      subst hb
      rw [UInt8.toNat_ofNat']
      omega
    by_cases h : u < 10
    · exact one u h b hb
    · rw [Lib.decDigits, dif_neg h] at hb
      rcases List.mem_append.1 hb with hb | hb
      · exact ih (u / 10) (by omega) b hb
      · have hr : u % 10 < 10 := Nat.mod_lt u (by decide)
        exact one (u % 10) hr b (by rw [Lib.decDigits_one hr]; exact hb)
theorem dec_pos (u : Nat) : Lib.decDigits u ≠ [] := by
  by_cases h : u < 10
  · rw [Lib.decDigits_one h]; simp
  · rw [Lib.decDigits, dif_neg h]; simp
theorem dec_inj (n : Nat) : ∀ u v, u < n → Lib.decDigits u = Lib.decDigits v → u = v := by
  have one : ∀ {a b : Nat}, a < 10 → b < 10 → UInt8.ofNat (48 + a) = UInt8.ofNat (48 + b) → a = b := by
    intro a b ha hb h
    have := congrArg UInt8.toNat h
    rw [UInt8.toNat_ofNat', UInt8.toNat_ofNat'] at this
    omega
  induction n with
  | zero => intro u v h; omega
  | succ n ih =>
    intro u v hu h
    have two : ∀ {a b : Nat}, a < 10 → ¬ b < 10 → Lib.decDigits a ≠ Lib.decDigits b := by
      intro a b ha hb h
      rw [Lib.decDigits_one ha] at h
      conv at h => rhs; rw [Lib.decDigits, dif_neg hb]
      have := congrArg List.length h
      rw [List.length_append] at this
      simp only [List.length_cons, List.length_nil] at this
      have : (Lib.decDigits (b / 10)).length = 0 := by omega
      exact dec_pos _ (List.length_eq_zero_iff.1 this)
    by_cases hu1 : u < 10
    · by_cases hv : v < 10
      · rw [Lib.decDigits_one hu1, Lib.decDigits_one hv] at h
        injection h with h _
        exact one hu1 hv h
      · exact absurd h (two hu1 hv)
    · by_cases hv : v < 10
      · exact absurd h.symm (two hv hu1)
      · conv at h => lhs; rw [Lib.decDigits, dif_neg hu1]
        conv at h => rhs; rw [Lib.decDigits, dif_neg hv]
        obtain ⟨h1, h2⟩ := List.append_inj' h rfl
        have e1 := ih (u / 10) (v / 10) (by omega) h1
        injection h2 with h2 _
        have e2 := one (Nat.mod_lt u (by decide)) (Nat.mod_lt v (by decide)) h2
        omega
theorem itoa_inj {n k : Int} (h : Lib.itoa n = Lib.itoa k) : n = k := by
  have neg : ∀ {n k : Int}, n < 0 → 0 ≤ k → Lib.itoa n ≠ Lib.itoa k := by
    intro n k hn hk h
    obtain ⟨u, rfl⟩ : ∃ u : Nat, n = -(u : Int) := ⟨n.natAbs, by omega⟩
    obtain ⟨v, rfl⟩ := Int.eq_ofNat_of_zero_le hk
    rw [Lib.itoa_neg u (by omega), Lib.itoa_nonneg] at h
    have := (dec_bytes (v + 1) v (by omega) 45 (by rw [← h]; exact List.mem_cons_self)).1
    exact absurd this (by decide)
  by_cases hn : n < 0
  · by_cases hk : k < 0
    · obtain ⟨u, rfl⟩ : ∃ u : Nat, n = -(u : Int) := ⟨n.natAbs, by omega⟩
      obtain ⟨v, rfl⟩ : ∃ v : Nat, k = -(v : Int) := ⟨k.natAbs, by omega⟩
      rw [Lib.itoa_neg u (by omega), Lib.itoa_neg v (by omega)] at h
      injection h with _ h
      rw [dec_inj (u + 1) u v (by omega) h]
    · exact absurd h (neg hn (by omega))
  · by_cases hk : k < 0
    · exact absurd h.symm (neg hk (by omega))
    · obtain ⟨u, rfl⟩ := Int.eq_ofNat_of_zero_le (show 0 ≤ n by omega)
      obtain ⟨v, rfl⟩ := Int.eq_ofNat_of_zero_le (show 0 ≤ k by omega)
      rw [Lib.itoa_nonneg, Lib.itoa_nonneg] at h
      rw [dec_inj (u + 1) u v (by omega) h]
/-- no blank -/
def NoB (l : List UInt8) : Prop := ∀ b ∈ l, b ≠ 32
theorem itoa_noB (n : Int) : NoB (Lib.itoa n) := by
  intro b hb e
  subst e
  by_cases h : n < 0
  · obtain ⟨u, rfl⟩ : ∃ u : Nat, n = -(u : Int) := ⟨n.natAbs, by omega⟩
    rw [Lib.itoa_neg u (by omega)] at hb
    rcases List.mem_cons.1 hb with hb | hb
    · exact absurd hb (by decide)
    · exact absurd (dec_bytes (u + 1) u (by omega) 32 hb).1 (by decide)
  · obtain ⟨u, rfl⟩ := Int.eq_ofNat_of_zero_le (show 0 ≤ n by omega)
    rw [Lib.itoa_nonneg] at hb
    exact absurd (dec_bytes (u + 1) u (by omega) 32 hb).1 (by decide)
/-- nothing, or a blank first -/
def Sep (l : List UInt8) : Prop := l = [] ∨ ∃ r, l = 32 :: r
theorem tok_split : ∀ {a a' r r' : List UInt8}, NoB a → NoB a' → Sep r → Sep r' → a ++ r = a' ++ r' → a = a' ∧ r = r'
  | [], [], r, r', _, _, _, _, h => ⟨rfl, by simpa using h⟩
  | [], b :: a', r, r', _, h2, h3, _, h => by
    exfalso
    rcases h3 with rfl | ⟨s, rfl⟩
    · simp at h
    · simp only [List.nil_append, List.cons_append, List.cons.injEq] at h
      exact h2 b List.mem_cons_self h.1.symm
  | b :: a, [], r, r', h1, _, _, h4, h => by
    exfalso
    rcases h4 with rfl | ⟨s, rfl⟩
    · simp at h
    · simp only [List.nil_append, List.cons_append, List.cons.injEq] at h
      exact h1 b List.mem_cons_self h.1
  | b :: a, b' :: a', r, r', h1, h2, h3, h4, h => by
    simp only [List.cons_append, List.cons.injEq] at h
    obtain ⟨e1, e2⟩ := tok_split (fun x hx => h1 x (List.mem_cons_of_mem _ hx)) (fun x hx => h2 x (List.mem_cons_of_mem _ hx)) h3 h4 h.2
    exact ⟨by rw [h.1, e1], e2⟩
namespace A64
def sepL (x : Lt) : List UInt8 := if x.reg then [32, 120] else [32]
/-- The numbers of letters, as a text. -/
def numsT (v : Nat → Int) (l : List Lt) : List UInt8 := l.flatMap fun x => sepL x ++ Lib.itoa (v x.cell)
theorem numsT_sep (v : Nat → Int) : ∀ l, Sep (numsT v l)
  | [] => Or.inl rfl
  | x :: l => by
    refine Or.inr ?_
    show ∃ r, (sepL x ++ Lib.itoa (v x.cell)) ++ numsT v l = 32 :: r
    unfold sepL
    split
    · exact ⟨[120] ++ Lib.itoa (v x.cell) ++ numsT v l, by simp⟩
    · exact ⟨Lib.itoa (v x.cell) ++ numsT v l, by simp⟩
theorem numsT_inj {v v' : Nat → Int} : ∀ {l : List Lt}, numsT v l = numsT v' l → ∀ x ∈ l, v x.cell = v' x.cell
  | [], _, x, hx => by simp at hx
  | y :: l, h, x, hx => by
    have h : (sepL y ++ Lib.itoa (v y.cell)) ++ numsT v l = (sepL y ++ Lib.itoa (v' y.cell)) ++ numsT v' l := h
    rw [List.append_assoc, List.append_assoc] at h
    have h := List.append_cancel_left h
    obtain ⟨e1, e2⟩ := tok_split (itoa_noB _) (itoa_noB _) (numsT_sep v l) (numsT_sep v' l) h
    rcases List.mem_cons.1 hx with rfl | hx
    · exact itoa_inj e1
    · exact numsT_inj e2 x hx
/-- The first token. -/
def headT (op m : Nat) : List UInt8 := name op ++ (if acc op then [46, UInt8.ofNat (48 + m)] else [])
end A64
end Go.CX
