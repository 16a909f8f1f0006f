/- CX: what functions answer against what is asked of them: conditions that tell the truth, words made of fields, texts. -/
import Derived.Test.YtbfemcblcdfaaaaGreatDoorCXqa
import Derived.Lib.ItoaMem
namespace Go.CX
open Go Go.RowKit Go.SX

section
variable {ρ : Nat → Value} {φ : Nat → List Value → List Value} {cx : Cx}
abbrev Conds := List (E × Bool)
def Conds.are (ρ : Nat → Value) (φ : Nat → List Value → List Value) (l : Conds) : Prop := ∀ p ∈ l, p.1.den ρ φ = .bool p.2
/-- More facts. -/
def addAll (cx : Cx) : Conds → Facts → Facts
  | [], fs => fs
  | p :: ps, fs => addAll cx ps (addF cx p.1 p.2 fs)
theorem ctSound (hct : cx.ct = []) : CtSound cx φ := by
  intro g hg
  rw [hct] at hg
  simp at hg
theorem addAll_hold (F : Fits cx.Γ cx.S ρ φ) (C : CtSound cx φ) : ∀ {ps : Conds} {fs : Facts}, fs.hold ρ φ → Conds.are ρ φ ps → (addAll cx ps fs).hold ρ φ
  | [], _, hf, _ => hf
  | p :: ps, _, hf, h => addAll_hold F C (ps := ps) (addF_hold F C p.1 p.2 hf (h p List.mem_cons_self)) fun q hq => h q (List.mem_cons_of_mem _ hq)
/-- Ends of a tree, carried on. -/
def trV (cx : Cx) : Tr → Facts → (Facts → SV → Bool) → Bool
  | .leaf v, fs, K => K fs v
  | .ite c t e, fs, K => splitB cx 60 fs c (fun fs' v => if v then trV cx t fs' K else trV cx e fs' K)
  | .stuck, _, _ => false
theorem trV_ok (C : CtSound cx φ) (F : Fits cx.Γ cx.S ρ φ) : ∀ (T : Tr) (fs : Facts) (K : Facts → SV → Bool), fs.hold ρ φ → trV cx T fs K = true →
    ∃ v fs', fs'.hold ρ φ ∧ K fs' v = true ∧ T.all ρ φ (fun u => u = v)
  | .leaf v, fs, K, hf, h => ⟨v, fs, hf, h, rfl⟩
  | .ite c t e, fs, K, hf, h => by
    unfold trV at h
    obtain ⟨b, fs1, hf1, hK, hb⟩ := splitB_ok C F 60 fs c _ hf h
    cases b
    · obtain ⟨v, fs', h1, h2, h3⟩ := trV_ok C F e fs1 K hf1 (by simpa using hK)
      exact ⟨v, fs', h1, h2, ⟨fun hc => absurd (hb.symm.trans hc) (by simp), fun _ => h3⟩⟩
    · obtain ⟨v, fs', h1, h2, h3⟩ := trV_ok C F t fs1 K hf1 (by simpa using hK)
      exact ⟨v, fs', h1, h2, ⟨fun _ => h3, fun hc => absurd (hb.symm.trans hc) (by simp)⟩⟩
  | .stuck, _, _, _, h => by simp [trV] at h
/-- What a function answers, the check of its ends. -/
def endsC (cx : Cx) (ext : ExtT) (n D : Nat) (f : FuncId) (args : List SV) (k : Nat) (fs : Facts) (K : Facts → SV → Bool) : Bool := trV cx (treeD cx ext n D f args k fs) fs K
theorem endsC_okG {ext : ExtT} {n D : Nat} {f : FuncId} {args : List SV} {xs : List Value} {k : Nat} {fs : Facts} {K : Facts → SV → Bool} (hct : cx.ct = []) (hname : ∀ (f : FuncId) (fn : Func), cx.P.funcs[f]? = some fn → (fn.name == "runtime.NumGoroutine") = false)
    (F : Fits cx.Γ cx.S ρ φ) (hf : fs.hold ρ φ) (ha : All2 (SV.is ρ φ fun _ => none) args xs) (h : endsC cx ext n D f args k fs K = true) :
    ∃ v fs', fs'.hold ρ φ ∧ K fs' v = true ∧ ∀ (w : World) (gt : GT), (∀ v ∈ cx.vw, VwC v ρ w) → ExtOk ⟨w, cx.vw, gt⟩ cx φ ext → Calls cx.P f xs.toArray w fun e w' => ∃ x β', e = .returned x ∧ v.is ρ φ β' x ∧ Below w.heap.size w w' := by
  obtain ⟨v, fs', h1, h2, h3⟩ := trV_ok (ctSound hct) F _ fs K hf h
  refine ⟨v, fs', h1, h2, fun w gt hvw hext => ?_⟩
  refine tree_sound hct hname hvw hext F ha k fs hf (Tr.all_mono (fun u hu x β' w' hx hbl => ?_) h3)
  subst hu
  exact ⟨x, β', rfl, hx, hbl⟩
theorem endsC_ok {ext : ExtT} {n D : Nat} {f : FuncId} {args : List SV} {xs : List Value} {k : Nat} {fs : Facts} {K : Facts → SV → Bool} (hct : cx.ct = []) (hname : ∀ (f : FuncId) (fn : Func), cx.P.funcs[f]? = some fn → (fn.name == "runtime.NumGoroutine") = false)
    (F : Fits cx.Γ cx.S ρ φ) (hf : fs.hold ρ φ) (ha : All2 (SV.is ρ φ fun _ => none) args xs) (h : endsC cx ext n D f args k fs K = true) :
    ∃ v fs', fs'.hold ρ φ ∧ K fs' v = true ∧ ∀ w : World, (∀ v ∈ cx.vw, VwC v ρ w) → ExtOk ⟨w, cx.vw, gt0⟩ cx φ ext → Calls cx.P f xs.toArray w fun e w' => ∃ x β', e = .returned x ∧ v.is ρ φ β' x ∧ Below w.heap.size w w' := by
  obtain ⟨v, fs', h1, h2, h3⟩ := endsC_okG hct hname F hf ha h
  exact ⟨v, fs', h1, h2, fun w hvw hext => h3 w gt0 hvw hext⟩
/-- A truth that conditions tell. -/
def tellsB (cx : Cx) (conds : Conds) (fs : Facts) (b : Bool) : Bool := if b then conds.all (fun p => decK cx fs p.1 == some p.2) else conds.any (fun p => decK cx fs p.1 == some (!p.2))
def mayC (cx : Cx) (ext : ExtT) (n D : Nat) (f : FuncId) (args : List SV) (k : Nat) (fs : Facts) (conds : Conds) : Bool := trB cx (treeD cx ext n D f args k fs) fs (tellsB cx conds)
theorem tellsB_ok (F : Fits cx.Γ cx.S ρ φ) {conds : Conds} {fs : Facts} {b : Bool} (hf : fs.hold ρ φ) (h : tellsB cx conds fs b = true) : b = true ↔ Conds.are ρ φ conds := by
  unfold tellsB at h
  cases b
  · rw [if_neg (by simp)] at h
    obtain ⟨p, hp, h⟩ := List.any_eq_true.1 h
    have := decK_sound F hf (by simpa using h : decK cx fs p.1 = some (!p.2))
    refine ⟨fun h => by simp at h, fun ha => ?_⟩
    have := (ha p hp).symm.trans this
    cases hq : p.2 <;> rw [hq] at this <;> simp at this
  · rw [if_pos rfl] at h
    refine ⟨fun _ p hp => ?_, fun _ => rfl⟩
    have := List.all_eq_true.1 h p hp
    exact decK_sound F hf (by simpa using this)
theorem mayC_ok {ext : ExtT} {n D : Nat} {f : FuncId} {args : List SV} {xs : List Value} {k : Nat} {fs : Facts} {conds : Conds} (hct : cx.ct = []) (hname : ∀ (f : FuncId) (fn : Func), cx.P.funcs[f]? = some fn → (fn.name == "runtime.NumGoroutine") = false)
    (F : Fits cx.Γ cx.S ρ φ) (hf : fs.hold ρ φ) (ha : All2 (SV.is ρ φ fun _ => none) args xs) (h : mayC cx ext n D f args k fs conds = true) :
    ∃ b, (b = true ↔ Conds.are ρ φ conds) ∧ ∀ w : World, (∀ v ∈ cx.vw, VwC v ρ w) → ExtOk ⟨w, cx.vw, gt0⟩ cx φ ext → Calls cx.P f xs.toArray w fun e w' => e = .returned (.bool b) ∧ Below w.heap.size w w' := by
  obtain ⟨b, fs1, h1, h2, h3⟩ := trB_ok (ctSound hct) F _ fs _ hf h
  refine ⟨b, tellsB_ok F h1 h2, fun w hvw hext => ?_⟩
  exact tree_sound hct hname hvw hext F ha k fs hf (Tr.all_mono (fun v hv x β' w' hx hbl => ⟨by rw [hv x β' hx], hbl⟩) h3)
end

/-! ### Words -/
section
variable {ρ : Nat → Value} {φ : Nat → List Value → List Value} {cx : Cx}
abbrev Fl := List (E × Nat × Nat)
def fldI (ρ : Nat → Value) (φ : Nat → List Value → List Value) (p : E × Nat × Nat) : Int := vint (p.1.den ρ φ) % 2 ^ p.2.1 * 2 ^ p.2.2
def sumI : List Int → Int
  | [] => 0
  | x :: xs => x + sumI xs
/-- The number that a constant and fields make. -/
def wordI (ρ : Nat → Value) (φ : Nat → List Value → List Value) (c : Nat) (fl : Fl) : Int := c + sumI (fl.map (fldI ρ φ))
theorem pow_cast (k : Nat) : ((2 ^ k : Nat) : Int) = (2 : Int) ^ k := by norm_cast
theorem field_mod (x : Int) (k : Nat) (hk : k ≤ 32) : w32 x &&& BitVec.ofNat 32 (2 ^ k - 1) = w32 (x % 2 ^ k) := by
  have hp : (0 : Int) < 2 ^ k := Int.pow_pos (by omega)
  have h1 := Int.emod_nonneg x (Int.ne_of_gt hp)
  have h2 := Int.emod_lt_of_pos x hp
  have e : w32 x = w32 (2 ^ k * (x / 2 ^ k)) + w32 (x % 2 ^ k) := by
    rw [← w32_add, Int.mul_ediv_add_emod]
  apply BitVec.eq_of_toNat_eq
  have hpn : 2 ^ k ≤ 2 ^ 32 := Nat.pow_le_pow_right (by decide) hk
  have h1' : 1 ≤ 2 ^ k := Nat.one_le_two_pow
  rw [BitVec.toNat_and, BitVec.toNat_ofNat, Nat.mod_eq_of_lt (by omega), Nat.and_two_pow_sub_one_eq_mod]
  unfold w32
  rw [BitVec.toNat_ofInt, BitVec.toNat_ofInt]
  have hd : ((2 ^ k : Nat) : Int) ∣ ((2 ^ 32 : Nat) : Int) := by
    exact_mod_cast Nat.pow_dvd_pow 2 hk
  have e32 : x % 2 ^ k % ((2 ^ 32 : Nat) : Int) = x % 2 ^ k := by
    apply Int.emod_eq_of_lt h1
    have : (2 : Int) ^ k ≤ ((2 ^ 32 : Nat) : Int) := by rw [← pow_cast]; exact_mod_cast hpn
    omega
  rw [e32]
  apply Int.ofNat.inj
  show (((x % ((2 ^ 32 : Nat) : Int)).toNat % 2 ^ k : Nat) : Int) = ((x % 2 ^ k).toNat : Int)
  rw [Int.natCast_emod, Int.toNat_of_nonneg (Int.emod_nonneg x (by decide)), Int.toNat_of_nonneg h1, Int.emod_emod_of_dvd x hd, pow_cast]
theorem fldV_I {p : E × Nat × Nat} (hk : p.2.1 ≤ 32) : fldV ρ φ p = w32 (fldI ρ φ p) := by
  unfold fldV fldI
  rw [field_mod _ _ hk, shl_mul, w32_mul, ← w32_nat]
  exact congrArg (fun z => w32 (vint (p.1.den ρ φ) % 2 ^ p.2.1) * w32 z) (pow_cast p.2.2)
def smallFl (fl : Fl) : Bool := fl.all fun p => Nat.ble p.2.1 32
theorem sumW_I : ∀ {fl : Fl}, smallFl fl = true → sumW (fl.map (fldV ρ φ)) = w32 (sumI (fl.map (fldI ρ φ)))
  | [], _ => by show (0 : W32) = w32 0; decide
  | p :: fl, h => by
    unfold smallFl at h
    rw [List.all_cons, Bool.and_eq_true] at h
    show fldV ρ φ p + sumW (fl.map (fldV ρ φ)) = w32 (fldI ρ φ p + sumI (fl.map (fldI ρ φ)))
    rw [w32_add, sumW_I h.2, fldV_I (Nat.le_of_ble_eq_true h.1)]
def topFl : Fl → Nat
  | [] => 0
  | p :: fl => (2 ^ p.2.1 - 1) * 2 ^ p.2.2 + topFl fl
theorem sumI_range : ∀ fl : Fl, 0 ≤ sumI (fl.map (fldI ρ φ)) ∧ sumI (fl.map (fldI ρ φ)) ≤ (topFl fl : Int)
  | [] => ⟨Int.le_refl 0, Int.le_refl 0⟩
  | p :: fl => by
    have := sumI_range fl
    have hp : (0 : Int) < 2 ^ p.2.1 := Int.pow_pos (by omega)
    have hq : (0 : Int) < 2 ^ p.2.2 := Int.pow_pos (by omega)
    have h1 := Int.emod_nonneg (vint (p.1.den ρ φ)) (Int.ne_of_gt hp)
    have h2 := Int.emod_lt_of_pos (vint (p.1.den ρ φ)) hp
    have g0 : 0 ≤ fldI ρ φ p := Int.mul_nonneg h1 (Int.le_of_lt hq)
    have g1 : fldI ρ φ p ≤ (((2 ^ p.2.1 - 1) * 2 ^ p.2.2 : Nat) : Int) := by
      unfold fldI
      rw [Int.natCast_mul, pow_cast, Int.ofNat_sub Nat.one_le_two_pow, pow_cast]
      refine Int.mul_le_mul_of_nonneg_right ?_ (Int.le_of_lt hq)
      simp only [Int.cast_ofNat_Int]
      omega
    show 0 ≤ fldI ρ φ p + sumI (fl.map (fldI ρ φ)) ∧ fldI ρ φ p + sumI (fl.map (fldI ρ φ)) ≤ (((2 ^ p.2.1 - 1) * 2 ^ p.2.2 + topFl fl : Nat) : Int)
    omega
def eqFl : Fl → Fl → Bool
  | [], [] => true
  | (x, k, a) :: l, (y, k', a') :: l' => E.eqv x y && Nat.beq k k' && Nat.beq a a' && eqFl l l'
  | _, _ => false
theorem eqFl_eq : ∀ {a b : Fl}, eqFl a b = true → a = b
  | [], [], _ => rfl
  | (x, k, a) :: l, (y, k', a') :: l', h => by
    simp only [eqFl, Bool.and_eq_true] at h
    obtain ⟨⟨⟨h1, h2⟩, h3⟩, h4⟩ := h
    rw [E.eqv_eq h1, Nat.eq_of_beq_eq_true h2, Nat.eq_of_beq_eq_true h3, eqFl_eq h4]
  | [], _ :: _, h => by simp [eqFl] at h
  | _ :: _, [], h => by simp [eqFl] at h
/-- The lowest bits of a quarter, as the document says them: the number, the bits. -/
def quarT : E → Option (E × Nat)
  | .bin .rem .u64 (.bin .quo .u64 (.conv .u64 y) (.int .u64 (.ofNat 4))) (.int .u64 (.ofNat m)) => some (y, Nat.log2 m)
  | _ => none
def fourF (fs : Facts) (y : E) : Bool := fs.any fun p => match p with
  | (.cmp .eql (.bin .rem .i64 z (.int .i64 (.ofNat 4))) (.int .i64 (.ofNat 0)), true) => E.eqv z y
  | _ => false
/-- One term against the fields: which field it is, the fields left. -/
def sumT (cx : Cx) (fs : Facts) : List (Int × E) → Fl → Bool
  | [], [] => true
  | [], _ :: _ => false
  | (n, x) :: l, fl => match takeF x n fl with
    | some (k, fl') => Nat.ble k 32 && lowF cx fs x && highF cx fs x (2 ^ k) && sumT cx fs l fl'
    | none => (match quarT x with
      | some (y, k) => (match takeF (.bin .quo .i64 y (.int .i64 (.ofNat 4))) n fl with
        | some (k', fl') => Nat.beq k k' && Nat.ble k 32 && E.eqv x (.bin .rem .u64 (.bin .quo .u64 (.conv .u64 y) (.int .u64 (.ofNat 4))) (.int .u64 (.ofNat (2 ^ k)))) && (cx.so y == .int .i64) && fourF fs y && sumT cx fs l fl'
        | none => false)
      | none => zeroF cx fs x && sumT cx fs l fl)
/-- A word is what the fields make. -/
def isWord (cx : Cx) (fs : Facts) (e : E) (c : Nat) (fl : Fl) : Bool := (cx.so e == .int .u32) && smallFl fl && Nat.blt (c + topFl fl) 4294967296 && ((match fieldsOf e with
    | some W => Nat.beq W.c c && eqFl W.fl fl
    | none => false) || (match sumOf e with
    | (.ofNat c', l) => Nat.beq c' c && sumT cx fs l fl
    | _ => false))
theorem quar_num {y : Int} (k : Nat) (hk : k ≤ 32) (h4 : y.tmod 4 = 0) (h0 : -9223372036854775808 ≤ y) (h1 : y ≤ 9223372036854775807) :
    (IntKind.u64.wrap ((IntKind.u64.wrap y).tdiv 4)).tmod (2 ^ k) = (IntKind.i64.wrap (y.tdiv 4)) % 2 ^ k := by
  obtain ⟨z, rfl⟩ : ∃ z, y = 4 * z := ⟨y.tdiv 4, by have := Int.mul_tdiv_add_tmod y 4; omega⟩
  have hz : (4 * z).tdiv 4 = z := Int.mul_tdiv_cancel_left z (by decide)
  have e1 : IntKind.u64.wrap (4 * z) = 4 * (z % 4611686018427387904) := by rw [IntKind.wrap_u64]; omega
  have e2 : (4 * (z % 4611686018427387904)).tdiv 4 = z % 4611686018427387904 := Int.mul_tdiv_cancel_left _ (by decide)
  have e3 : IntKind.u64.wrap (z % 4611686018427387904) = z % 4611686018427387904 := by rw [IntKind.wrap_u64]; omega
  have e4 : IntKind.i64.wrap z = z := by rw [IntKind.wrap_i64]; omega
  rw [e1, e2, e3, hz, e4]
  rw [Int.tmod_eq_emod_of_nonneg (by omega)]
  have hd : (2 : Int) ^ k ∣ 4611686018427387904 := by
    have : (2 ^ k : Nat) ∣ 2 ^ 62 := Nat.pow_dvd_pow 2 (by omega)
    have : ((2 ^ k : Nat) : Int) ∣ ((2 ^ 62 : Nat) : Int) := by exact_mod_cast this
    rw [pow_cast] at this
    exact this
  exact Int.emod_emod_of_dvd z hd
theorem sumT_ok (F : Fits cx.Γ cx.S ρ φ) {fs : Facts} (hf : fs.hold ρ φ) : ∀ {l : List (Int × E)} {fl : Fl}, sumT cx fs l fl = true → sumW (l.map (trmV ρ φ)) = sumW (fl.map (fldV ρ φ))
  | [], [], _ => rfl
  | [], _ :: _, h => by simp [sumT] at h
  | (n, x) :: l, fl, h => by
    unfold sumT at h
    split at h
    · rename_i k fl' hr
      simp only [Bool.and_eq_true] at h
      obtain ⟨⟨⟨hk, hl⟩, hh⟩, hs⟩ := h
      obtain ⟨a, ha, e⟩ := takeF_ok (ρ := ρ) (φ := φ) hr
      rw [e, ← sumT_ok F hf hs]
      show w32 n * w32 (vint (x.den ρ φ)) + _ = _
      congr 1
      have h0 := lowF_ok F hf hl
      have h1 := highF_ok F hf hh
      show _ = (w32 (vint (x.den ρ φ)) &&& BitVec.ofNat 32 (2 ^ k - 1)) <<< a
      rw [field_whole k h0 (by have := h1; exact_mod_cast this) (Nat.le_of_ble_eq_true hk), shl_mul, ha, w32_nat, BitVec.mul_comm]
    · split at h
      · rename_i y k hq
        split at h
        · rename_i k' fl' hr
          simp only [Bool.and_eq_true] at h
          obtain ⟨⟨⟨⟨⟨hkk, hk⟩, he⟩, hso⟩, h4⟩, hs⟩ := h
          have hkk := Nat.eq_of_beq_eq_true hkk
          subst hkk
          have hk := Nat.le_of_ble_eq_true hk
          obtain ⟨a, ha, e⟩ := takeF_ok (ρ := ρ) (φ := φ) hr
          rw [e, ← sumT_ok F hf hs]
          show w32 n * w32 (vint (x.den ρ φ)) + _ = _
          congr 1
          rw [fldV_I hk, E.eqv_eq he]
          obtain ⟨m, hm, m0, m1⟩ := so_num F (so_eq hso)
          have h4' : m.tmod 4 = 0 := by
            obtain ⟨p, hp, hpp⟩ := List.any_eq_true.1 h4
            have hv := hf p hp
            split at hpp
            · rename_i z
              rw [E.eqv_eq hpp] at hv
              have hv : Value.bool (ibin .rem .i64 (vint (y.den ρ φ)) 4 == 0) = .bool true := hv
              rw [hm] at hv
              injection hv with hv
              exact eq_of_beq hv
            · cases hpp
          show w32 n * w32 ((IntKind.u64.wrap ((IntKind.u64.wrap (vint (y.den ρ φ))).tdiv 4)).tmod (Int.ofNat (2 ^ k))) = w32 ((IntKind.i64.wrap ((vint (y.den ρ φ)).tdiv 4)) % 2 ^ k * 2 ^ a)
          rw [hm]
          show w32 n * w32 ((IntKind.u64.wrap ((IntKind.u64.wrap m).tdiv 4)).tmod (Int.ofNat (2 ^ k))) = w32 ((IntKind.i64.wrap (m.tdiv 4)) % 2 ^ k * 2 ^ a)
          have ek : Int.ofNat (2 ^ k) = (2 : Int) ^ k := pow_cast k
          have ea : n = (2 : Int) ^ a := by rw [ha]; exact pow_cast a
          rw [ek, quar_num k hk h4' m0 m1, ea, w32_mul, BitVec.mul_comm]
        · cases h
      · simp only [Bool.and_eq_true] at h
        show w32 n * w32 (vint (x.den ρ φ)) + _ = _
        rw [zeroF_ok F hf h.1, sumT_ok F hf h.2]
        have h0 : w32 0 = 0 := by decide
        rw [h0]; simp
theorem isWord_ok (F : Fits cx.Γ cx.S ρ φ) {fs : Facts} (hf : fs.hold ρ φ) {e : E} {c : Nat} {fl : Fl} (h : isWord cx fs e c fl = true) : e.den ρ φ = .int .u32 (wordI ρ φ c fl) ∧ 0 ≤ wordI ρ φ c fl ∧ wordI ρ φ c fl < 4294967296 := by
  unfold isWord at h
  simp only [Bool.and_eq_true] at h
  obtain ⟨⟨⟨hso, hsm⟩, htop⟩, h⟩ := h
  have htop := blt_lt htop
  have hr := sumI_range (ρ := ρ) (φ := φ) fl
  have hw : 0 ≤ wordI ρ φ c fl ∧ wordI ρ φ c fl < 4294967296 := by unfold wordI; omega
  obtain ⟨n, hn, n0, n1⟩ := so_num F (so_eq hso)
  have n0 : 0 ≤ n := n0
  have n1 : n ≤ 4294967295 := n1
  have hWI : w32 (wordI ρ φ c fl) = BitVec.ofNat 32 c + sumW (fl.map (fldV ρ φ)) := by
    unfold wordI
    rw [w32_add, sumW_I hsm, show w32 (c : Int) = BitVec.ofNat 32 c from w32_nat c]
  have key : w32 n = w32 (wordI ρ φ c fl) := by
    rw [hWI]
    have hn' : w32 (vint (e.den ρ φ)) = w32 n := by rw [hn]; rfl
    rw [← hn']
    rcases Bool.or_eq_true _ _ |>.mp h with h | h
    · split at h
      · rename_i W hW
        simp only [Bool.and_eq_true] at h
        rw [(fieldsOf_ok e hW).1, ← eqFl_eq h.2, ← Nat.eq_of_beq_eq_true h.1]
        rfl
      · cases h
    · split at h
      · rename_i c' l hS
        simp only [Bool.and_eq_true] at h
        rw [sumOf_ok e, hS]
        unfold sumV
        rw [sumT_ok F hf h.2, ← Nat.eq_of_beq_eq_true h.1]
        show w32 (Int.ofNat c') + _ = _
        rw [w32_nat]
      · cases h
  have : n = wordI ρ φ c fl := w32_inj ⟨n0, by omega⟩ hw key
  exact ⟨by rw [hn, this], hw⟩
end

/-! ### Texts -/
section
variable {ρ : Nat → Value} {φ : Nat → List Value → List Value} {cx : Cx}
inductive PT where
  | lit (b : List UInt8) | num (x : E)
def PT.txt (ρ : Nat → Value) (φ : Nat → List Value → List Value) : PT → List UInt8
  | .lit b => b
  | .num x => Lib.itoa (vint (x.den ρ φ))
def textI (ρ : Nat → Value) (φ : Nat → List Value → List Value) (l : List PT) : List UInt8 := l.flatMap (PT.txt ρ φ)
/-- Symbols 1 and 2 are texts of numbers. -/
def Nums (φ : Nat → List Value → List Value) : Prop := (∀ n, -9223372036854775808 ≤ n → n ≤ 9223372036854775807 → vstr ((φ 1 [.int .i64 n]).getD 0 undef) = Lib.itoa n) ∧ (∀ n, 0 ≤ n → n ≤ 18446744073709551615 → vstr ((φ 2 [.int .u64 n]).getD 0 undef) = Lib.itoa n)
def ptOf (cx : Cx) : E → Option PT
  | .val (.string s) => some (.lit s.toList)
  | .app f 0 (.cons x .nil) => if (Nat.beq f 1 && (cx.so x == .int .i64)) || (Nat.beq f 2 && (cx.so x == .int .u64)) then some (.num x) else none
  | _ => none
def ptsOf (cx : Cx) : List E → Option (List PT)
  | [] => some []
  | e :: es => match ptOf cx e, ptsOf cx es with
    | some p, some ps => some (p :: ps)
    | _, _ => none
def addLit (b : List UInt8) : List PT → List PT
  | .lit c :: r => .lit (b ++ c) :: r
  | r => match b with
    | [] => r
    | b => .lit b :: r
/-- A number below a hundred. -/
def litD (n : Nat) : List UInt8 := if Nat.blt n 10 then [UInt8.ofNat (48 + n)] else [UInt8.ofNat (48 + n / 10), UInt8.ofNat (48 + n % 10)]
theorem litD_ok {n : Nat} (h : n < 100) : Lib.itoa (Int.ofNat n) = litD n := by
  show Lib.itoa (n : Int) = _
  rw [Lib.itoa_nonneg]
  unfold litD
  split
  · rename_i h1
    exact Lib.decDigits_one (blt_lt h1)
  · rename_i h1
    have : ¬ n < 10 := fun h2 => h1 (Nat.ble_eq_true_of_le h2)
    exact Lib.decDigits_two this h
def numT (x : E) (r : List PT) : List PT := match x with
  | .int _ (.ofNat n) => if Nat.blt n 100 then addLit (litD n) r else .num x :: r
  | x => .num x :: r
def normT : List PT → List PT
  | [] => []
  | .lit b :: r => addLit b (normT r)
  | .num x :: r => numT x (normT r)
def eqBytes : List UInt8 → List UInt8 → Bool
  | [], [] => true
  | x :: a, y :: b => Nat.beq x.toNat y.toNat && eqBytes a b
  | _, _ => false
/-- The same number, by the facts. -/
def eqNum (cx : Cx) (fs : Facts) (x y : E) : Bool := E.eqv x y || (match x with
  | .conv .u64 z => (cx.so z == .int .i64) && E.eqv z y && (dec cx fs (.cmp .lss z (.int .i64 0)) == some false)
  | .conv .i64 z => (cx.so z == .int .u64) && E.eqv z y && (dec cx fs (.cmp .lss z (.int .u64 10)) == some true)
  | _ => false)
/-- A text in two parts: all digits but the last, and that one. -/
def tenT (cx : Cx) (fs : Facts) (x y : E) : Bool := match x with
  | .conv .i64 (.bin .quo .u64 z (.int .u64 (.ofNat 10))) => (cx.so z == .int .u64) && E.eqv z y && (dec cx fs (.cmp .lss z (.int .u64 10)) == some false)
  | _ => false
def oneT (x y : E) : Bool := match x with
  | .conv .i64 (.bin .rem .u64 z (.int .u64 (.ofNat 10))) => E.eqv z y
  | _ => false
def matchT (cx : Cx) (fs : Facts) : List PT → List PT → Bool
  | [], [] => true
  | .lit a :: l, .lit b :: r => eqBytes a b && matchT cx fs l r
  | .num x :: l, .num y :: r => if eqNum cx fs x y then matchT cx fs l r else (match l with
    | .num x2 :: l2 => tenT cx fs x y && oneT x2 y && matchT cx fs l2 r
    | _ => false)
  | _, _ => false
def scTxt (cx : Cx) : SC → Option (List PT)
  | .e x => (ptOf cx x).map fun p => [p]
  | .txt ps => ptsOf cx ps
  | _ => none
def isText (cx : Cx) (fs : Facts) (c : SC) (l : List PT) : Bool := match scTxt cx c with
  | some ps => matchT cx fs (normT ps) (normT l)
  | none => false
theorem ptOf_ok (F : Fits cx.Γ cx.S ρ φ) (hN : Nums φ) {e : E} {p : PT} (h : ptOf cx e = some p) : vstr (e.den ρ φ) = p.txt ρ φ := by
  unfold ptOf at h
  split at h
  · cases h; rfl
  · rename_i f x
    split at h
    · rename_i hc
      cases h
      show vstr ((φ f (E.dens ρ φ (.cons x .nil))).getD 0 undef) = Lib.itoa (vint (x.den ρ φ))
      have hd : E.dens ρ φ (.cons x .nil) = [x.den ρ φ] := by simp [E.dens]
      rw [hd]
      rcases Bool.or_eq_true _ _ |>.mp hc with hc | hc
      · rw [Bool.and_eq_true] at hc
        have hf := Nat.eq_of_beq_eq_true hc.1
        subst hf
        obtain ⟨n, hn, h0, h1⟩ := so_num F (so_eq hc.2)
        rw [hn]
        exact hN.1 n h0 h1
      · rw [Bool.and_eq_true] at hc
        have hf := Nat.eq_of_beq_eq_true hc.1
        subst hf
        obtain ⟨n, hn, h0, h1⟩ := so_num F (so_eq hc.2)
        rw [hn]
        exact hN.2 n h0 h1
    · cases h
  · cases h
theorem ptsOf_ok (F : Fits cx.Γ cx.S ρ φ) (hN : Nums φ) : ∀ {es : List E} {ps : List PT}, ptsOf cx es = some ps → es.flatMap (fun e => vstr (e.den ρ φ)) = textI ρ φ ps
  | [], ps, h => by simp only [ptsOf, Option.some.injEq] at h; subst h; rfl
  | e :: es, ps, h => by
    unfold ptsOf at h
    split at h
    · rename_i p ps' hp hps
      simp only [Option.some.injEq] at h
      subst h
      show vstr (e.den ρ φ) ++ es.flatMap (fun e => vstr (e.den ρ φ)) = p.txt ρ φ ++ textI ρ φ ps'
      rw [ptOf_ok F hN hp, ptsOf_ok F hN hps]
    · cases h
theorem addLit_ok (b : List UInt8) (l : List PT) : textI ρ φ (addLit b l) = b ++ textI ρ φ l := by
  unfold addLit
  split
  · rename_i c r
    show (b ++ c) ++ textI ρ φ r = b ++ (c ++ textI ρ φ r)
    rw [List.append_assoc]
  · split
    · rfl
    · rfl
theorem normT_ok : ∀ l : List PT, textI ρ φ (normT l) = textI ρ φ l
  | [] => rfl
  | .lit b :: r => by
    show textI ρ φ (addLit b (normT r)) = b ++ textI ρ φ r
    rw [addLit_ok, normT_ok r]
  | .num x :: r => by
    show textI ρ φ (numT x (normT r)) = PT.txt ρ φ (.num x) ++ textI ρ φ r
    rw [← normT_ok r]
    unfold numT
    split
    · rename_i k n
      split
      · rename_i h
        rw [addLit_ok, ← litD_ok (blt_lt h)]; rfl
      · rfl
    · rfl
theorem eqBytes_eq : ∀ {a b : List UInt8}, eqBytes a b = true → a = b
  | [], [], _ => rfl
  | x :: a, y :: b, h => by
    simp only [eqBytes, Bool.and_eq_true] at h
    rw [UInt8.toNat_inj.1 (Nat.eq_of_beq_eq_true h.1), eqBytes_eq h.2]
  | [], _ :: _, h => by simp [eqBytes] at h
  | _ :: _, [], h => by simp [eqBytes] at h
theorem dec_lss (F : Fits cx.Γ cx.S ρ φ) {fs : Facts} (hf : fs.hold ρ φ) {z : E} {k : IntKind} {m : Int} {b : Bool} (h : (dec cx fs (.cmp .lss z (.int k m)) == some b) = true) : decide (vint (z.den ρ φ) < m) = b := by
  have := dec_sound F hf (by simpa using h : dec cx fs (.cmp .lss z (.int k m)) = some b)
  have : Value.bool (decide (vint (z.den ρ φ) < m)) = .bool b := this
  injection this
theorem eqNum_ok (F : Fits cx.Γ cx.S ρ φ) {fs : Facts} (hf : fs.hold ρ φ) {x y : E} (h : eqNum cx fs x y = true) : vint (x.den ρ φ) = vint (y.den ρ φ) := by
  unfold eqNum at h
  rcases Bool.or_eq_true _ _ |>.mp h with h | h
  · rw [E.eqv_eq h]
  · split at h
    · rename_i z _
      simp only [Bool.and_eq_true] at h
      obtain ⟨⟨hs, he⟩, hd⟩ := h
      have hd := of_decide_eq_false (dec_lss F hf hd)
      obtain ⟨n, hn, n0, n1⟩ := so_num F (so_eq hs)
      have n1 : n ≤ 9223372036854775807 := n1
      rw [← E.eqv_eq he]
      show IntKind.u64.wrap (vint (z.den ρ φ)) = _
      rw [hn] at hd ⊢
      have hd : ¬ n < 0 := hd
      show IntKind.u64.wrap n = n
      rw [IntKind.wrap_u64]; omega
    · rename_i z _
      simp only [Bool.and_eq_true] at h
      obtain ⟨⟨hs, he⟩, hd⟩ := h
      have hd := of_decide_eq_true (dec_lss F hf hd)
      obtain ⟨n, hn, n0, n1⟩ := so_num F (so_eq hs)
      have n0 : 0 ≤ n := n0
      rw [← E.eqv_eq he]
      show IntKind.i64.wrap (vint (z.den ρ φ)) = _
      rw [hn] at hd ⊢
      have hd : n < 10 := hd
      show IntKind.i64.wrap n = n
      rw [IntKind.wrap_i64]; omega
    · cases h
theorem itoa_ten {n : Int} (h : 10 ≤ n) : Lib.itoa n = Lib.itoa (n / 10) ++ Lib.itoa (n % 10) := by
  obtain ⟨u, rfl⟩ := Int.eq_ofNat_of_zero_le (show 0 ≤ n by omega)
  have e1 : ((u : Int) / 10) = ((u / 10 : Nat) : Int) := by omega
  have e2 : ((u : Int) % 10) = ((u % 10 : Nat) : Int) := by omega
  rw [e1, e2, Lib.itoa_nonneg, Lib.itoa_nonneg, Lib.itoa_nonneg, Lib.decDigits, dif_neg (by omega), Lib.decDigits_one (Nat.mod_lt u (by decide))]
theorem matchT_ok (F : Fits cx.Γ cx.S ρ φ) {fs : Facts} (hf : fs.hold ρ φ) : ∀ {a b : List PT}, matchT cx fs a b = true → textI ρ φ a = textI ρ φ b
  | [], [], _ => rfl
  | .lit a :: l, .lit b :: r, h => by
    simp only [matchT, Bool.and_eq_true] at h
    show a ++ textI ρ φ l = b ++ textI ρ φ r
    rw [eqBytes_eq h.1, matchT_ok F hf h.2]
  | .num x :: l, .num y :: r, h => by
    unfold matchT at h
    split at h
    · rename_i he
      show Lib.itoa _ ++ textI ρ φ l = Lib.itoa _ ++ textI ρ φ r
      rw [eqNum_ok F hf he, matchT_ok F hf h]
    · split at h
      · rename_i x2 l2
        simp only [Bool.and_eq_true] at h
        obtain ⟨⟨ht, ho⟩, hm⟩ := h
        show Lib.itoa (vint (x.den ρ φ)) ++ (Lib.itoa (vint (x2.den ρ φ)) ++ textI ρ φ l2) = Lib.itoa (vint (y.den ρ φ)) ++ textI ρ φ r
        rw [matchT_ok F hf hm, ← List.append_assoc]
        congr 1
        unfold tenT at ht
        split at ht
        · rename_i z
          simp only [Bool.and_eq_true] at ht
          obtain ⟨⟨hs, he⟩, hd⟩ := ht
          have hd := of_decide_eq_false (dec_lss F hf hd)
          obtain ⟨n, hn, n0, n1⟩ := so_num F (so_eq hs)
          have n0 : 0 ≤ n := n0
          have n1 : n ≤ 18446744073709551615 := n1
          have hy := E.eqv_eq he
          subst hy
          unfold oneT at ho
          split at ho
          · rename_i z2
            have hz := E.eqv_eq ho
            subst hz
            show Lib.itoa (IntKind.i64.wrap (IntKind.u64.wrap ((vint (z2.den ρ φ)).tdiv 10))) ++ Lib.itoa (IntKind.i64.wrap ((vint (z2.den ρ φ)).tmod 10)) = Lib.itoa (vint (z2.den ρ φ))
            rw [hn] at hd ⊢
            have hd : ¬ n < 10 := hd
            show Lib.itoa (IntKind.i64.wrap (IntKind.u64.wrap (n.tdiv 10))) ++ Lib.itoa (IntKind.i64.wrap (n.tmod 10)) = Lib.itoa n
            rw [Int.tdiv_eq_ediv_of_nonneg n0, Int.tmod_eq_emod_of_nonneg n0]
            rw [show IntKind.u64.wrap (n / 10) = n / 10 by rw [IntKind.wrap_u64]; omega, show IntKind.i64.wrap (n / 10) = n / 10 by rw [IntKind.wrap_i64]; omega, show IntKind.i64.wrap (n % 10) = n % 10 by rw [IntKind.wrap_i64]; omega]
            exact (itoa_ten (by omega)).symm
          · cases ho
        · cases ht
      · cases h
  | [], _ :: _, h => by simp [matchT] at h
  | _ :: _, [], h => by simp [matchT] at h
  | .lit _ :: _, .num _ :: _, h => by simp [matchT] at h
  | .num _ :: _, .lit _ :: _, h => by simp [matchT] at h
theorem isText_ok (F : Fits cx.Γ cx.S ρ φ) (hN : Nums φ) {fs : Facts} (hf : fs.hold ρ φ) {c : SC} {l : List PT} (h : isText cx fs c l = true) {β : Bk} {v : Value} (hv : c.is ρ φ β v) (hs : ∃ s, v = .string s) : v = .string ⟨(textI ρ φ l).toArray⟩ := by
  unfold isText at h
  split at h
  · rename_i ps hps
    have hm := matchT_ok F hf h
    rw [normT_ok, normT_ok] at hm
    obtain ⟨s, rfl⟩ := hs
    have : s.data.toList = textI ρ φ ps := by
      unfold scTxt at hps
      split at hps
      · rename_i x
        rw [Option.map_eq_some_iff] at hps
        obtain ⟨p, hp, rfl⟩ := hps
        have hv : Value.string s = x.den ρ φ := hv
        have := ptOf_ok F hN hp
        rw [← hv] at this
        show _ = p.txt ρ φ ++ []
        rw [List.append_nil, ← this]
        simp [ByteArray.toList_eq]
      · rename_i qs
        obtain ⟨s', hs', hd, _⟩ := hv
        injection hs' with hs'
        subst hs'
        rw [hd]
        exact ptsOf_ok F hN hps
      · cases hps
    rw [← hm, ← this]
  · cases h
end
end Go.CX

/- CX: calls at a number and a text, both known, whose answers a table tells; runs of the kernel carry the table out. -/
namespace Go.CX
open Go Go.RowKit Go.SX

section
variable {ρ : Nat → Value} {φ : Nat → List Value → List Value} {cx : Cx}
def strOf (l : List UInt8) : Value := .string ⟨l.toArray⟩
/-- The table's answer. -/
def hasX (f : FuncId) (lo hi m : Nat) (tab : Nat → List UInt8 → Bool) : ExtT := fun g args _ n _ => if Nat.beq g f then (match args with
  | [.one ⟨false, [.e (.int .i64 (.ofNat k))]⟩, .one ⟨false, [.e (.val (.string s))]⟩] => if Nat.ble lo k && Nat.ble k hi && Nat.ble s.data.toList.length m then some (.ok ⟨.one ⟨false, [.e (.bool (tab k s.data.toList))]⟩, [], n⟩) else none
  | _ => none) else none
theorem hasX_ok {ws : Base} {f : FuncId} {lo hi m : Nat} {tab : Nat → List UInt8 → Bool} (hin : Enters cx.P f)
    (hc : ∀ (w : World) (k : Nat) (s : List UInt8), lo ≤ k → k ≤ hi → s.length ≤ m → Calls cx.P f #[.int .i64 (Int.ofNat k), strOf s] w fun e w' => e = .returned (.bool (tab k s)) ∧ Below w.heap.size w w') :
    ExtOk ws cx φ (hasX f lo hi m tab) := by
  intro g svs B n fs d h ρ β w xs N F hf hW hn ha
  unfold hasX at h
  split at h
  · rename_i he
    have he := Nat.eq_of_beq_eq_true he
    subst he
    split at h
    · rename_i k s
      split at h
      · rename_i hb
        simp only [Bool.and_eq_true] at hb
        simp only [Option.some.injEq, OR.ok.injEq] at h
        subst h
        match xs, ha with
        | [v, u], ha =>
          have hv : v = .int .i64 (Int.ofNat k) := ha.1
          have hu : u = .string s := ha.2.1
          subst hv hu
          refine ⟨hin _ _, ?_⟩
          have := hc w k s.data.toList (Nat.le_of_ble_eq_true hb.1.1) (Nat.le_of_ble_eq_true hb.1.2) (Nat.le_of_ble_eq_true hb.2)
          refine Calls.mono this ?_
          rintro e w' ⟨rfl, hbl⟩
          exact ⟨_, β, rfl, Ext.refl _, Newer.refl _ _ _, hW.grow hbl, rfl⟩
      · exact absurd h (by simp)
    · exact absurd h (by simp)
  · exact absurd h (by simp)
/-- A row of a text, a number and a text, that a call at a known number answers. -/
def rowRun (P : Program) (m : Nat) (f : FuncId) (nm fl : Nat → List UInt8) (b : Nat → Nat) (k : Nat) : Bool :=
  match callD (cxT P []) ext0 (runH (cxT P []) ext0 0 hk0 m) 0 f [.one ⟨false, [.e (.int .i64 (.ofNat k))]⟩] (fun _ => none) 0 [] with
  | .ok d => match d.v with
    | .one ⟨true, [.e (.val (.string s)), .e (.int .u64 (.ofNat c)), .e (.val (.string t))]⟩ => eqBytes s.data.toList (nm k) && Nat.beq c (b k) && eqBytes t.data.toList (fl k)
    | _ => false
  | _ => false
theorem rowRun_ok {P : Program} (hname : namesOk P = true) {m : Nat} {f : FuncId} {nm fl : Nat → List UInt8} {b : Nat → Nat} {k : Nat} (h : rowRun P m f nm fl b k = true) (w : World) :
    Calls P f #[.int .i64 (Int.ofNat k)] w fun e w' => e = .returned (.agg #[strOf (nm k), .int .u64 (Int.ofNat (b k)), strOf (fl k)]) ∧ Below w.heap.size w w' := by
  unfold rowRun at h
  split at h
  · rename_i d hd
    split at h
    · rename_i s c t hv
      simp only [Bool.and_eq_true] at h
      have F : Fits (cxT P []).Γ (cxT P []).S (fun _ => undef) (fun _ _ => []) := fits0 P
      have := calls_runV (gt := gt0) (cx := cxT P []) (ρ := fun _ => undef) (φ := fun _ _ => []) (namesOk_spec hname) (xs := [.int .i64 (Int.ofNat k)]) (w := w) rfl (fun v hv => by simp [cxT] at hv) (ext0_ok _ _ _) (hk0_ok _ _ _) hd F (fun p hp => by simp at hp) ⟨rfl, trivial⟩
      refine Calls.mono this ?_
      rintro e w' ⟨x, β', rfl, hx, hbl⟩
      rw [hv] at hx
      obtain ⟨vs, rfl, ha⟩ := hx
      match vs, ha with
      | [x1, x2, x3], ⟨h1, h2, h3, _⟩ =>
        have h1 : x1 = .string s := h1
        have h2 : x2 = .int .u64 (Int.ofNat c) := h2
        have h3 : x3 = .string t := h3
        have e1 : s = ⟨(nm k).toArray⟩ := by rw [← eqBytes_eq h.1.1]
        have e3 : t = ⟨(fl k).toArray⟩ := by rw [← eqBytes_eq h.2]
        rw [h1, h2, h3, e1, e3, Nat.eq_of_beq_eq_true h.1.2]
        exact ⟨rfl, hbl⟩
    · exact absurd h (by simp)
  · exact absurd h (by simp)
end
end Go.CX

/- CX: calls that answer one thing where a symbol is true, and another where it is not; calls that answer true. -/
namespace Go.CX
open Go Go.RowKit Go.SX
section
variable {ρ : Nat → Value} {φ : Nat → List Value → List Value} {cx : Cx}
/-- By a truth of what comes in: where it is not known the ways part. -/
def sideX (cx : Cx) (f sym : Nat) (ps : List (Bool × List So)) (yes no : List E → Option SV) : ExtT := fun g args _ n fs => if Nat.beq g f then (match flatC cx ps args with
  | some es => (match fs.look (.app sym 0 (toL es)) with
    | some true => (yes es).map fun v => .ok ⟨v, [], n⟩
    | some false => (no es).map fun v => .ok ⟨v, [], n⟩
    | none => some (.split (.app sym 0 (toL es))))
  | none => none) else none
/-- What a side says. -/
def Side (P : Program) (φ : Nat → List Value → List Value) (ws : World) (f sym : Nat) (ps : List (Bool × List So)) (b : Bool) (s : List E → Option SV) (sV : List Value → Value) : Prop :=
  (∀ es v, s es = some v → ∀ (ρ : Nat → Value) (β : Bk), v.is ρ φ β (sV (es.map (·.den ρ φ)))) ∧
  ((∃ es v, s es = some v) → ∀ (w : World) (xs fl : List Value), (∀ k, k < ws.heap.size → w.heap[k]? = ws.heap[k]?) → packs ps xs fl → (φ sym fl).getD 0 undef = .bool b → Calls P f xs.toArray w fun e w' => e = .returned (sV fl) ∧ Below w.heap.size w w')
theorem sideX_ok {ws : Base} {f sym : Nat} {ps : List (Bool × List So)} {yes no : List E → Option SV} {yV nV : List Value → Value} (hin : Enters cx.P f) (hy : Side cx.P φ ws.toWorld f sym ps true yes yV) (hn : Side cx.P φ ws.toWorld f sym ps false no nV) : ExtOk ws cx φ (sideX cx f sym ps yes no) := by
  intro g svs B n fs d h ρ β w xs N F hf hW hnn ha
  unfold sideX at h
  split at h
  · rename_i he
    have he := Nat.eq_of_beq_eq_true he
    subst he
    split at h
    · rename_i es hes
      have key : ∀ {b : Bool} {s : List E → Option SV} {sV : List Value → Value}, Side cx.P φ ws.toWorld g sym ps b s sV → fs.look (.app sym 0 (toL es)) = some b → (s es).map (fun v => OR.ok ⟨v, [], n⟩) = some (.ok d) →
          (callFunc g xs.toArray).run cx.P w = .ok (.enter g xs.toArray) w ∧ Calls cx.P g xs.toArray w fun e w' => ∃ x β', e = .returned x ∧ Ext β β' ∧ Newer β β' n d.next ∧ WG ρ φ ⟨N, XofG B β w ws, B, w, ws⟩ (dlB d.dl B) β' w' ∧ d.v.is ρ φ β' x := by
        intro b s sV hs hl hv
        rw [Option.map_eq_some_iff] at hv
        obtain ⟨v, hv, hd⟩ := hv
        simp only [OR.ok.injEq] at hd
        subst hd
        have hq := Facts.look_sound ρ φ hf hl
        have hq : (φ sym (E.dens ρ φ (toL es))).getD 0 undef = .bool b := hq
        rw [toL_dens] at hq
        refine ⟨hin _ _, (hs.2 ⟨es, v, hv⟩ w xs _ hW.o.base.1 (flatC_is F hes ha) hq).mono ?_⟩
        rintro e w' ⟨rfl, hb⟩
        exact ⟨_, β, rfl, Ext.refl _, Newer.refl _ _ _, hW.grow hb, hs.1 es v hv ρ β⟩
      split at h
      · rename_i hl; exact key hy hl h
      · rename_i hl; exact key hn hl h
      · exact absurd h (by simp)
    · exact absurd h (by simp)
  · exact absurd h (by simp)
/-- A call without arguments that answers true. -/
def trueX (f : FuncId) : ExtT := fun g args _ n _ => if Nat.beq g f then (match args with
  | [] => some (.ok ⟨.one ⟨false, [.e (.bool true)]⟩, [], n⟩)
  | _ => none) else none
theorem trueX_ok {ws : Base} {f : FuncId} (hin : Enters cx.P f) (hc : ∀ w : World, (∀ k, k < ws.heap.size → w.heap[k]? = ws.heap[k]?) → Calls cx.P f #[] w fun e w' => e = .returned (.bool true) ∧ Below w.heap.size w w') : ExtOk ws cx φ (trueX f) := by
  intro g svs B n fs d h ρ β w xs N F hf hW hnn ha
  unfold trueX at h
  split at h
  · rename_i he
    have he := Nat.eq_of_beq_eq_true he
    subst he
    split at h
    · simp only [Option.some.injEq, OR.ok.injEq] at h
      subst h
      cases xs with
      | cons _ _ => exact ha.elim
      | nil =>
        refine ⟨hin _ _, Calls.mono (hc w hW.o.base.1) ?_⟩
        rintro e w' ⟨rfl, hb⟩
        exact ⟨_, β, rfl, Ext.refl _, Newer.refl _ _ _, hW.grow hb, rfl⟩
    · exact absurd h (by simp)
  · exact absurd h (by simp)
def trueK (_ : Facts) : SV → Bool
  | .one ⟨false, [.e (.bool true)]⟩ => true
  | _ => false
/-- All ends true, or decided true. -/
def yesK (cx : Cx) (fs : Facts) : SV → Bool
  | .one ⟨false, [.e x]⟩ => decK cx fs x == some true
  | _ => false
theorem yesK_ok (F : Fits cx.Γ cx.S ρ φ) {fs : Facts} (hf : fs.hold ρ φ) {v : SV} (h : yesK cx fs v = true) {β : Bk} {x : Value} (hx : v.is ρ φ β x) : x = .bool true := by
  unfold yesK at h
  split at h
  · rename_i e
    have hx : x = e.den ρ φ := hx
    rw [hx]
    exact decK_sound F hf (by simpa using h)
  · cases h
/-- A law, by its run. -/
theorem law_by {ext : ExtT} {n D : Nat} {f : FuncId} {args : List SV} {xs : List Value} {k : Nat} {fs : Facts} (hct : cx.ct = []) (hname : ∀ (f : FuncId) (fn : Func), cx.P.funcs[f]? = some fn → (fn.name == "runtime.NumGoroutine") = false)
    (F : Fits cx.Γ cx.S ρ φ) (hf : fs.hold ρ φ) (ha : All2 (SV.is ρ φ fun _ => none) args xs) (h : endsC cx ext n D f args k fs (yesK cx) = true) (w : World) (hvw : ∀ v ∈ cx.vw, VwC v ρ w) (hext : ExtOk ⟨w, cx.vw, gt0⟩ cx φ ext) :
    Calls cx.P f xs.toArray w fun e w' => e = .returned (.bool true) ∧ Below w.heap.size w w' := by
  obtain ⟨v, fs', h1, h2, h3⟩ := endsC_ok hct hname F hf ha h
  refine Calls.mono (h3 w hvw hext) ?_
  rintro e w' ⟨x, β', rfl, hx, hb⟩
  rw [yesK_ok F h1 h2 hx]
  exact ⟨rfl, hb⟩
end
end Go.CX
