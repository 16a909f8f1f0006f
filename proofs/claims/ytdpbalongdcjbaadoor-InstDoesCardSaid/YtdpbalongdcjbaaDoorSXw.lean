/- SX: the explorer: all ways through a term. -/
import Derived.Test.YtdpbalongdcjbaaDoorSXv
import Derived.Laws.BitsLemmas
namespace Go.SX
open Go Go.RowKit

/-! ### One bit of a word -/
def orE (x y : E) : E :=
  match x with
  | .bool true => .bool true
  | .bool false => y
  | x => match y with
    | .bool false => x
    | y => .ite x (.bool true) y
def tb (cx : Cx) : E → Nat → Option E
  | .int _ n, i => match n with
    | .ofNat m => if Nat.blt m 4294967296 then some (.bool (m.testBit i)) else none
    | _ => none
  | .bin .or k a b, i => if kBeq k .u32 then (match tb cx a i, tb cx b i with
    | some x, some y => some (orE x y)
    | _, _ => none) else none
  | .bin .and k a (.int _ (.ofNat m)), i => if kBeq k .u32 && Nat.blt m 4294967296 then (match tb cx a i with
    | some x => some (if m.testBit i then x else .bool false)
    | none => none) else none
  | .shf .shl k (.int _ (.ofNat 1)) (.conv k' r), i => if kBeq k .u32 && kBeq k' .u64 && decide (cx.so r = .int .i64) then some (.cmp .eql r (.int .i64 (Int.ofNat i))) else none
  | .shf .shl k (.int _ (.ofNat 1)) r, i => if kBeq k .u32 then some (.ite (.cmp .lss r (.int .i64 0)) (.bool (Nat.beq i 0)) (.cmp .eql r (.int .i64 (Int.ofNat i)))) else none
  | _, _ => none

/-! ### Strict terms: parts, and the term made of them -/
def E.parts : E → List E
  | .bin _ _ a b | .shf _ _ a b | .cmp _ a b | .beq a b | .seq a b | .byte a b => [a, b]
  | .not a | .conv _ a | .len a => [a]
  | .cut a b c => [a, b, c]
  | .idx i l => i :: argsL l
  | .tup l => argsL l
  | .el g i _ _ _ => [g, i]
  | .app _ _ l => argsL l
  | .var _ | .int _ _ | .bool _ | .val _ | .nil | .cons _ _ | .ite _ _ _ => []
def mkLenV : E → E
  | .val (.string s) => if Nat.ble s.size 4611686018427387904 then .int .i64 (Int.ofNat s.size) else .len (.val (.string s))
  | a => .len a
def mkIdx (i : E) (es : List E) : E :=
  match i with
  | .int k n => match n with
    | .ofNat m => match es[m]? with
      | some e => e
      | none => .idx (.int k n) (toL es)
    | _ => .idx (.int k n) (toL es)
  | i => .idx i (toL es)
def mkEl (cx : Cx) (g i : E) (sz off : Nat) (s : So) : E :=
  match g, i with
  | .tup l, .int _ n => match n with
    | .ofNat m => match (argsL l)[m * sz + off]? with
      | some e => if decide (cx.so e = s) then e else .el g i sz off s
      | none => .el g i sz off s
    | _ => .el g i sz off s
  | g, i => .el g i sz off s
def mkBit (cx : Cx) (a b : E) : E :=
  match a, b with
  | .bin .rem k (.shf .shr k' w (.int _ (.ofNat i))) (.int _ (.ofNat 2)), .int _ (.ofNat 1) => if kBeq k .u32 && kBeq k' .u32 && Nat.blt i 32 then (match tb cx w i with
    | some e => e
    | none => mkCmp .eql a b) else mkCmp .eql a b
  | a, b => mkCmp .eql a b
def E.build (cx : Cx) : E → List E → E
  | .bin o k _ _, [a, b] => mkBin o k a b
  | .shf o k _ _, [a, b] => mkShf o k a b
  | .cmp o _ _, [a, b] => match o with
    | .eql => mkBit cx a b
    | o => mkCmp o a b
  | .beq _ _, [a, b] => mkBeq a b
  | .seq _ _, [a, b] => mkSeq a b
  | .byte _ _, [a, b] => mkByte a b
  | .not _, [a] => mkNot a
  | .conv k _, [a] => mkConv k a
  | .len _, [a] => mkLenV a
  | .cut _ _ _, [a, b, c] => mkCut a b c
  | .idx _ _, i :: es => mkIdx i es
  | .tup _, es => .tup (toL es)
  | .el _ _ sz off s, [g, i] => mkEl cx g i sz off s
  | .app f j _, es => .app f j (toL es)
  | x, _ => x
def E.strict : E → Bool
  | .var _ | .ite _ _ _ => false
  | _ => true

section
variable {ρ ρ' : Nat → Value} {φ : Nat → List Value → List Value} {cx : Cx}
theorem argsL_toL (es : List E) : argsL (toL es) = es := by
  induction es with
  | nil => rfl
  | cons e es ih => simp only [toL, argsL, ih]
theorem mkLenV_den (a : E) : (mkLenV a).den ρ φ = .int .i64 (vlen (a.den ρ φ)) := by
  unfold mkLenV
  split
  · rename_i s
    split
    · rename_i h
      have h := Nat.le_of_ble_eq_true h
      simp only [E.den, vlen, if_pos h]
      rfl
    · rfl
  · rfl
theorem mkIdx_den (i : E) (es : List E) : (mkIdx i es).den ρ φ = (es.map (·.den ρ φ)).getD (vint (i.den ρ φ)).toNat ((es.map (·.den ρ φ)).headD undef) := by
  unfold mkIdx
  split
  · split
    · split
      · rename_i e he
        simp only [E.den, vint_int, List.getD_eq_getElem?_getD, List.getElem?_map]
        show _ = (Option.map (fun x => E.den ρ φ x) es[_]?).getD _
        simp only [Int.toNat_natCast, Int.ofNat_eq_natCast, he, Option.map_some, Option.getD_some]
      · simp only [E.den, toL_dens]
    · simp only [E.den, toL_dens]
  · simp only [E.den, toL_dens]
theorem mkEl_den (F : Fits cx.Γ cx.S ρ φ) (g i : E) (sz off : Nat) (s : So) : (mkEl cx g i sz off s).den ρ φ = coe s ((vtup (g.den ρ φ)).getD ((vint (i.den ρ φ)).toNat * sz + off) undef) := by
  unfold mkEl
  split
  · split
    · split
      · rename_i e he
        split
        · rename_i hs
          have hs := of_decide_eq_true hs
          have h1 := E.so_has F e
          rw [show e.so cx.Γ cx.S = s from hs] at h1
          simp only [E.den, vtup, vint_int, argsL_dens, List.getD_eq_getElem?_getD, List.getElem?_map]
          simp only [Int.toNat_natCast, Int.ofNat_eq_natCast, he, Option.map_some, Option.getD_some]
          exact (coe_id h1).symm
        · rfl
      · rfl
    · rfl
  · rfl

theorem two_pow_mod (n i : Nat) (hi : i < 32) : (2 ^ n % 4294967296).testBit i = (n == i) := by
  rw [show (4294967296 : Nat) = 2 ^ 32 by decide, Nat.testBit_mod_two_pow, Nat.testBit_two_pow]
  simp only [hi, decide_true, Bool.true_and]
  rw [Bool.eq_iff_iff]
  simp
theorem orE_den {x y : E} {a b : Bool} (hx : x.den ρ φ = .bool a) (hy : y.den ρ φ = .bool b) : (orE x y).den ρ φ = .bool (a || b) := by
  unfold orE
  split
  · simp only [E.den, Value.bool.injEq] at hx
    subst hx
    simp [E.den]
  · simp only [E.den, Value.bool.injEq] at hx
    subst hx
    simp [hy]
  · split
    · simp only [E.den, Value.bool.injEq] at hy
      subst hy
      simp [hx]
    · simp only [E.den, hx, vbool_bool, hy]
      cases a <;> simp
theorem wraps32 (n : Int) (h₀ : 0 ≤ n) (h₁ : n < 2 ^ 32) : IntKind.u32.wrap n = n := by
  have : IntKind.u32.wrap n = n % 4294967296 := by simp [IntKind.wrap, IntKind.bits, IntKind.signed]
  omega
theorem shl_bit {v i : Nat} (hi : i < 32) : (2 ^ (min v 32) % 4294967296).testBit i = (v == i) := by
  rw [two_pow_mod _ _ hi]
  rw [Bool.eq_iff_iff]
  simp
  omega
theorem shl_val (v : Int) : IntKind.u32.wrap (1 * 2 ^ (min v.toNat IntKind.u32.bits)) = Int.ofNat (2 ^ (min v.toNat 32) % 4294967296) := by
  have hw : ∀ n : Int, IntKind.u32.wrap n = n % 4294967296 := by
    intro n
    simp [IntKind.wrap, IntKind.bits, IntKind.signed]
  rw [hw, show IntKind.u32.bits = 32 from rfl]
  simp
theorem tb_den (F : Fits cx.Γ cx.S ρ φ) {i : Nat} (hi : i < 32) : ∀ {e x : E}, tb cx e i = some x → ∃ m : Nat, m < 4294967296 ∧ vint (e.den ρ φ) = Int.ofNat m ∧ x.den ρ φ = .bool (m.testBit i) := by
  intro e
  induction e with
  | int k n =>
    intro x h
    simp only [tb] at h
    split at h
    · rename_i m
      split at h
      · rename_i hm
        simp only [Option.some.injEq] at h
        subst h
        simp only [Nat.blt] at hm
        exact ⟨m, Nat.lt_of_succ_le (Nat.le_of_ble_eq_true hm), rfl, rfl⟩
      · exact absurd h (by simp)
    · exact absurd h (by simp)
  | bin o k a b iha ihb =>
    intro x h
    unfold tb at h
    split at h
    · rename_i heq; cases heq
    · rename_i k0 a0 b0 heq
      cases heq
      split at h
      · rename_i hk
        have hk := kBeq_eq hk
        subst hk
        split at h
        · rename_i xa xb ha hb
          simp only [Option.some.injEq] at h
          subst h
          obtain ⟨m, hm1, hm2, hm3⟩ := iha ha
          obtain ⟨n, hn1, hn2, hn3⟩ := ihb hb
          have := (bits_nat .u32 32 (by decide) wraps32 m n (by simpa using hm1) (by simpa using hn1)).2
          refine ⟨m ||| n, ?_, ?_, ?_⟩
          · exact Nat.or_lt_two_pow (n := 32) hm1 hn1
          · simp only [E.den, vint_int, ibin, hm2, hn2]
            exact this
          · rw [orE_den hm3 hn3, Nat.testBit_or]
        · exact absurd h (by simp)
      · exact absurd h (by simp)
    · rename_i k0 a0 kk n heq
      cases heq
      split at h
      · rename_i hc
        rw [Bool.and_eq_true] at hc
        have hk := kBeq_eq hc.1
        subst hk
        have hn1 : n < 4294967296 := by
          have := hc.2
          simp only [Nat.blt] at this
          exact Nat.lt_of_succ_le (Nat.le_of_ble_eq_true this)
        split at h
        · rename_i xa ha
          simp only [Option.some.injEq] at h
          subst h
          obtain ⟨m, hm1, hm2, hm3⟩ := iha ha
          have := (bits_nat .u32 32 (by decide) wraps32 m n (by simpa using hm1) (by simpa using hn1)).1
          refine ⟨m &&& n, Nat.lt_of_le_of_lt Nat.and_le_left hm1, ?_, ?_⟩
          · simp only [E.den, vint_int, ibin, hm2]
            exact this
          · rw [Nat.testBit_and]
            split
            · rename_i hq
              simp [hm3, hq]
            · rename_i hq
              simp [E.den, hq]
        · exact absurd h (by simp)
      · exact absurd h (by simp)
    all_goals first | (rename_i heq; cases heq; done) | (simp at h; done)
  | shf o k a b iha ihb =>
    intro x h
    unfold tb at h
    split at h
    · rename_i heq; cases heq
    · rename_i heq; cases heq
    · rename_i heq; cases heq
    · rename_i kk k' r heq
      cases heq
      split at h
      · rename_i hc
        simp only [Bool.and_eq_true] at hc
        have hk := kBeq_eq hc.1.1
        have hk' := kBeq_eq hc.1.2
        subst hk hk'
        simp only [Option.some.injEq] at h
        subst h
        obtain ⟨v, hv, hv1, hv2⟩ := (show (So.int .i64).has (r.den ρ φ) from by
          have := E.so_has F r
          rwa [show r.so cx.Γ cx.S = _ from of_decide_eq_true hc.2] at this)
        have wu : IntKind.u64.wrap v = v % 18446744073709551616 := by simp [IntKind.wrap, IntKind.bits, IntKind.signed]
        simp only [lowOf, highOf] at hv1 hv2
        refine ⟨2 ^ (min (v % 18446744073709551616).toNat 32) % 4294967296, Nat.mod_lt _ (by decide), ?_, ?_⟩
        · simp only [E.den, vint_int, ishf, hv, wu]
          exact shl_val _
        · rw [shl_bit hi]
          simp only [E.den, icmp, vint_int, hv]
          congr 1
          rw [Bool.eq_iff_iff]
          simp
          omega
      · exact absurd h (by simp)
    · rename_i kk r hne heq
      cases heq
      split at h
      · rename_i hk
        have hk := kBeq_eq hk
        subst hk
        simp only [Option.some.injEq] at h
        subst h
        generalize hv : vint (b.den ρ φ) = v
        refine ⟨2 ^ (min v.toNat 32) % 4294967296, Nat.mod_lt _ (by decide), ?_, ?_⟩
        · simp only [E.den, vint_int, ishf, hv]
          exact shl_val _
        · rw [shl_bit hi]
          simp only [E.den, icmp, vint_int, vbool_bool, hv]
          by_cases h0 : v < 0
          · simp only [h0, decide_true, if_true]
            congr 1
            rw [Bool.eq_iff_iff]
            have : v.toNat = 0 := by omega
            rw [this]
            simp [Nat.beq_eq]
            omega
          · simp only [h0, decide_false, Bool.false_eq_true, if_false]
            congr 1
            rw [Bool.eq_iff_iff]
            simp
            omega
      · exact absurd h (by simp)
    · simp at h
  | _ => intro x h; exact absurd h (by simp [tb])
theorem mkBit_den (F : Fits cx.Γ cx.S ρ φ) (a b : E) : (mkBit cx a b).den ρ φ = .bool (icmp .eql (vint (a.den ρ φ)) (vint (b.den ρ φ))) := by
  unfold mkBit
  split
  · rename_i k k' w _ i _ _
    split
    · rename_i hc
      simp only [Bool.and_eq_true] at hc
      obtain ⟨⟨h1, h2⟩, h3⟩ := hc
      have h1 := kBeq_eq h1
      have h2 := kBeq_eq h2
      have h3 : i < 32 := by
        simp only [Nat.blt] at h3
        exact Nat.lt_of_succ_le (Nat.le_of_ble_eq_true h3)
      subst h1 h2
      split
      · rename_i e he
        obtain ⟨m, hm1, hm2, hm3⟩ := tb_den F h3 he
        rw [hm3]
        simp only [E.den, vint_int, ibin, ishf, hm2, icmp]
        congr 1
        have hmin : min (Int.ofNat i).toNat IntKind.u32.bits = i := by
          exact Nat.min_eq_left (Nat.le_of_lt h3)
        rw [hmin, Int.fdiv_eq_ediv_of_nonneg _ (Int.le_of_lt (Int.pow_pos (by decide)))]
        rw [show (Int.ofNat m / 2 ^ i : Int) = Int.ofNat (m / 2 ^ i) by simp]
        rw [show (Int.ofNat (m / 2 ^ i)).tmod (Int.ofNat 2) = Int.ofNat (m / 2 ^ i % 2) from rfl]
        rw [Nat.testBit_eq_decide_div_mod_eq]
        rcases Nat.mod_two_eq_zero_or_one (m / 2 ^ i) with hq | hq <;> rw [hq] <;> rfl
      · exact mkCmp_den ρ φ .eql _ _
    · exact mkCmp_den ρ φ .eql _ _
  · exact mkCmp_den ρ φ .eql _ _
theorem map2 {f g : E → Value} {qs : List E} {a b : E} (h : qs.map f = [a, b].map g) : ∃ x y, qs = [x, y] ∧ f x = g a ∧ f y = g b := by
  match qs, h with
  | [x, y], h =>
    simp only [List.map_cons, List.map_nil, List.cons.injEq, and_true] at h
    exact ⟨x, y, rfl, h.1, h.2⟩
  | [], h => simp at h
  | [_], h => simp at h
  | _ :: _ :: _ :: _, h => simp at h
theorem map1 {f g : E → Value} {qs : List E} {a : E} (h : qs.map f = [a].map g) : ∃ x, qs = [x] ∧ f x = g a := by
  match qs, h with
  | [x], h =>
    simp only [List.map_cons, List.map_nil, List.cons.injEq, and_true] at h
    exact ⟨x, rfl, h⟩
  | [], h => simp at h
  | _ :: _ :: _, h => simp at h
theorem build_den (F : Fits cx.Γ cx.S ρ φ) {x : E} (hs : x.strict = true) {qs : List E} (h : qs.map (·.den ρ φ) = x.parts.map (·.den ρ' φ)) : (x.build cx qs).den ρ φ = x.den ρ' φ := by
  cases x with
  | var i => simp [E.strict] at hs
  | ite c a b => simp [E.strict] at hs
  | int k n => rfl
  | bool b => rfl
  | val v => rfl
  | nil => rfl
  | cons a b => rfl
  | bin o k a b =>
    obtain ⟨x, y, rfl, h1, h2⟩ := map2 h
    simp only [E.build, mkBin_den, E.den, h1, h2]
  | shf o k a b =>
    obtain ⟨x, y, rfl, h1, h2⟩ := map2 h
    simp only [E.build, mkShf_den, E.den, h1, h2]
  | cmp o a b =>
    obtain ⟨x, y, rfl, h1, h2⟩ := map2 h
    cases o <;> simp only [E.build, mkBit_den F, mkCmp_den, E.den, h1, h2]
  | beq a b =>
    obtain ⟨x, y, rfl, h1, h2⟩ := map2 h
    simp only [E.build, mkBeq_den, E.den, h1, h2]
  | seq a b =>
    obtain ⟨x, y, rfl, h1, h2⟩ := map2 h
    simp only [E.build, mkSeq_den, E.den, h1, h2]
  | byte a b =>
    obtain ⟨x, y, rfl, h1, h2⟩ := map2 h
    simp only [E.build, mkByte_den, E.den, h1, h2]
  | not a =>
    obtain ⟨x, rfl, h1⟩ := map1 h
    simp only [E.build, mkNot_den, E.den, h1]
  | conv k a =>
    obtain ⟨x, rfl, h1⟩ := map1 h
    simp only [E.build, mkConv_den, E.den, h1]
  | len a =>
    obtain ⟨x, rfl, h1⟩ := map1 h
    simp only [E.build, mkLenV_den, E.den, h1]
  | cut a b c =>
    match qs, h with
    | [x, y, z], h =>
      simp only [E.parts, List.map_cons, List.map_nil, List.cons.injEq, and_true] at h
      simp only [E.build, mkCut_den, E.den, h.1, h.2.1, h.2.2]
    | [], h => simp [E.parts] at h
    | [_], h => simp [E.parts] at h
    | [_, _], h => simp [E.parts] at h
    | _ :: _ :: _ :: _ :: _, h => simp [E.parts] at h
  | idx i l =>
    match qs, h with
    | y :: ys, h =>
      simp only [E.parts, List.map_cons, List.cons.injEq] at h
      simp only [E.build, mkIdx_den, E.den, argsL_dens, h.1, h.2]
    | [], h => simp [E.parts] at h
  | tup l =>
    simp only [E.parts] at h
    simp only [E.build, E.den, toL_dens, h]
    rw [argsL_dens]
  | el g i sz off s =>
    obtain ⟨x, y, rfl, h1, h2⟩ := map2 h
    simp only [E.build, mkEl_den F, E.den, h1, h2]
  | app f j l =>
    simp only [E.parts] at h
    simp only [E.build, E.den, toL_dens, h]
    rw [argsL_dens]
end

/-! ### All ways -/
/-- A bound that is not met, told before the bound. -/
def tight (fs : Facts) : E → Bool → Facts
  | .cmp .lss x (.int k n), true => (match fs.look (.cmp .eql x (.int k (n - 1))) with
    | some false => [(.cmp .lss x (.int k (n - 1)), true)]
    | _ => [])
  | .cmp .lss (.int k n) x, true => (match fs.look (.cmp .eql x (.int k (n + 1))) with
    | some false => [(.cmp .lss (.int k (n + 1)) x, true)]
    | _ => [])
  | .cmp .lss x (.int k n), false => (match fs.look (.cmp .eql x (.int k n)) with
    | some false => [(.cmp .lss (.int k n) x, true)]
    | _ => [])
  | .cmp .lss (.int k n) x, false => (match fs.look (.cmp .eql x (.int k n)) with
    | some false => [(.cmp .lss x (.int k n), true)]
    | _ => [])
  | _, _ => []
theorem tight_hold {ρ : Nat → Value} {φ : Nat → List Value → List Value} {fs : Facts} (H : fs.hold ρ φ) {c : E} {b : Bool} (h : c.den ρ φ = .bool b) : Facts.hold ρ φ (tight fs c b) := by
  intro p hp
  unfold tight at hp
  split at hp
  · split at hp
    · rename_i hl
      have h1 := Facts.look_sound ρ φ H hl
      simp only [List.mem_singleton] at hp
      subst hp
      simp only [E.den, icmp, vint_int, Value.bool.injEq] at h h1
      have h1 := ne_of_beq_false h1
      first | have h := of_decide_eq_true h | have h := of_decide_eq_false h
      simp only [E.den, icmp, vint_int]
      exact congrArg Value.bool (decide_eq_true (by omega))
    · simp at hp
  · split at hp
    · rename_i hl
      have h1 := Facts.look_sound ρ φ H hl
      simp only [List.mem_singleton] at hp
      subst hp
      simp only [E.den, icmp, vint_int, Value.bool.injEq] at h h1
      have h1 := ne_of_beq_false h1
      first | have h := of_decide_eq_true h | have h := of_decide_eq_false h
      simp only [E.den, icmp, vint_int]
      exact congrArg Value.bool (decide_eq_true (by omega))
    · simp at hp
  · split at hp
    · rename_i hl
      have h1 := Facts.look_sound ρ φ H hl
      simp only [List.mem_singleton] at hp
      subst hp
      simp only [E.den, icmp, vint_int, Value.bool.injEq] at h h1
      have h1 := ne_of_beq_false h1
      first | have h := of_decide_eq_true h | have h := of_decide_eq_false h
      simp only [E.den, icmp, vint_int]
      exact congrArg Value.bool (decide_eq_true (by omega))
    · simp at hp
  · split at hp
    · rename_i hl
      have h1 := Facts.look_sound ρ φ H hl
      simp only [List.mem_singleton] at hp
      subst hp
      simp only [E.den, icmp, vint_int, Value.bool.injEq] at h h1
      have h1 := ne_of_beq_false h1
      first | have h := of_decide_eq_true h | have h := of_decide_eq_false h
      simp only [E.den, icmp, vint_int]
      exact congrArg Value.bool (decide_eq_true (by omega))
    · simp at hp
  · simp at hp
def addW (cx : Cx) (c : E) (b : Bool) (fs : Facts) : Facts := tight fs c b ++ addF cx c b fs
theorem addW_hold {ρ : Nat → Value} {φ : Nat → List Value → List Value} {cx : Cx} (F : Fits cx.Γ cx.S ρ φ) (C : CtSound cx φ) (c : E) (b : Bool) {fs : Facts} (H : fs.hold ρ φ) (h : c.den ρ φ = .bool b) : (addW cx c b fs).hold ρ φ := by
  intro p hp
  rcases List.mem_append.1 hp with hp | hp
  · exact tight_hold H h p hp
  · exact addF_hold F C c b H h p hp
/-- A condition, decided or split. -/
def force (cx : Cx) : E → Facts → (Bool → Facts → Bool) → Bool
  | .bool b, fs, k => k b fs
  | .not a, fs, k => if decide (cx.so a = .bool) then force cx a fs fun b fs => k (!b) fs else false
  | .beq a b, fs, k => match dec cx fs (.beq a b) with
    | some x => k x fs
    | none => if decide (cx.so a = .bool) && decide (cx.so b = .bool) then force cx a fs fun x fs => force cx b fs fun y fs => k (x == y) fs else false
  | .ite c a b, fs, k => if decide (cx.so c = .bool) && decide (cx.so a = .bool) && decide (cx.so b = .bool) then force cx c fs fun x fs => if x then force cx a fs k else force cx b fs k else false
  | e, fs, k => match dec cx fs e with
    | some b => k b fs
    | none => if decide (cx.so e = .bool) then k true (addW cx e true fs) && k false (addW cx e false fs) else false
section
variable {ρ : Nat → Value} {φ : Nat → List Value → List Value} {cx : Cx} (F : Fits cx.Γ cx.S ρ φ) (C : CtSound cx φ)
 include F C
theorem force_sound : ∀ {e : E} {fs : Facts} {k : Bool → Facts → Bool}, fs.hold ρ φ → force cx e fs k = true → ∃ fs', Facts.hold ρ φ fs' ∧ k (vbool (e.den ρ φ)) fs' = true := by
  intro e
  have gen : ∀ (e : E) (fs : Facts) (k : Bool → Facts → Bool), fs.hold ρ φ → (match dec cx fs e with
    | some b => k b fs
    | none => if decide (cx.so e = .bool) then k true (addW cx e true fs) && k false (addW cx e false fs) else false) = true → ∃ fs', Facts.hold ρ φ fs' ∧ k (vbool (e.den ρ φ)) fs' = true := by
    intro e fs k hf h
    split at h
    · rename_i b hd
      exact ⟨fs, hf, by rw [dec_sound F hf hd]; exact h⟩
    · split at h
      · rename_i hb
        have hb := so_bool0 F (of_decide_eq_true hb)
        rw [Bool.and_eq_true] at h
        cases hv : vbool (e.den ρ φ) with
        | true => exact ⟨_, addW_hold F C e true hf (by rw [hb, hv]), h.1⟩
        | false => exact ⟨_, addW_hold F C e false hf (by rw [hb, hv]), h.2⟩
      · exact absurd h (by simp)
  induction e with
  | bool b => intro fs k hf h; exact ⟨fs, hf, h⟩
  | not a ih =>
    intro fs k hf h
    simp only [force] at h
    split at h
    · obtain ⟨fs', h1, h2⟩ := ih hf h
      exact ⟨fs', h1, h2⟩
    · exact absurd h (by simp)
  | beq a b iha ihb =>
    intro fs k hf h
    simp only [force] at h
    split at h
    · rename_i x hd
      exact ⟨fs, hf, by rw [dec_sound F hf hd]; exact h⟩
    · split at h
      · obtain ⟨f1, h1, h2⟩ := iha hf h
        obtain ⟨f2, h3, h4⟩ := ihb h1 h2
        exact ⟨f2, h3, h4⟩
      · exact absurd h (by simp)
  | ite c a b ihc iha ihb =>
    intro fs k hf h
    simp only [force] at h
    split at h
    · obtain ⟨f1, h1, h2⟩ := ihc hf h
      simp only [E.den]
      cases hv : vbool (c.den ρ φ) with
      | true =>
        simp only [hv, if_true] at h2 ⊢
        exact iha h1 h2
      | false =>
        simp only [hv, Bool.false_eq_true, if_false] at h2 ⊢
        exact ihb h1 h2
    · exact absurd h (by simp)
  | _ => intro fs k hf h; exact gen _ fs k hf h
end

inductive Task where
  | e (x : E) (as : List E)
  | es (xs : List E) (as : List E)
  | t (T : VT) (as : List E) (j : Nat)
  | l (ss : List So) (T0 : LT) (m : Nat) (T : LT) (as : List E) (j : Nat)
def litN : E → Option Nat
  | .int _ n => match n with
    | .ofNat m => some m
    | _ => none
  | _ => none
theorem litN_den {e : E} {m : Nat} (h : litN e = some m) (ρ : Nat → Value) (φ : Nat → List Value → List Value) : (vint (e.den ρ φ)).toNat = m := by
  unfold litN at h
  split at h
  · split at h
    · simp only [Option.some.injEq] at h
      subst h
      rfl
    · exact absurd h (by simp)
  · exact absurd h (by simp)
/-- What is seen at once. -/
def fastA (as : List E) : E → Option E
  | .var i => some (atL as i)
  | .int k n => some (.int k n)
  | _ => none
def fastE (as : List E) : E → Option E
  | .var i => some (atL as i)
  | .int k n => some (.int k n)
  | .bool b => some (.bool b)
  | .val v => some (.val v)
  | .cmp .eql a b => match fastA as a, fastA as b with
    | some x, some y => some (mkEql x y)
    | _, _ => none
  | .cmp .lss a b => match fastA as a, fastA as b with
    | some x, some y => some (mkLss x y)
    | _, _ => none
  | _ => none
abbrev KK := List E → Facts → Bool
abbrev Rec := Task → Facts → KK → Bool
def brK (cx : Cx) (f : Bool → Facts → Bool) : KK := fun r fs => match r with
  | [c] => force cx c fs f
  | _ => false
def twoK (rec : Rec) (a b : Task) (k : KK) : Bool → Facts → Bool := fun x fs => match x with
  | true => rec a fs k
  | false => rec b fs k
def evIte (cx : Cx) (rec : Rec) (c a b : E) (as : List E) (fs : Facts) (k : KK) : Bool := rec (.e c as) fs (brK cx (twoK rec (.e a as) (.e b as) k))
def idxK2 (i' : E) (k : KK) : KK := fun es fs => k [mkIdx i' es] fs
def idxK (rec : Rec) (l : E) (as : List E) (k : KK) : KK := fun r fs => match r with
  | [i'] => match litN i' with
    | some m => match (argsL l)[m]? with
      | some x => rec (.e x as) fs k
      | none => false
    | none => rec (.es (argsL l) as) fs (idxK2 i' k)
  | _ => false
def evIdx (rec : Rec) (i l : E) (as : List E) (fs : Facts) (k : KK) : Bool := rec (.e i as) fs (idxK rec l as k)
def lpK (rec : Rec) (s j : Nat) (ss : List So) (T : LT) (r : List E) (k : KK) : KK := fun q fs => match q with
  | [.int _ z] => rec (.l ss T (z + 1).toNat T r j) fs k
  | _ => k [.app s j (toL r)] fs
def appK (cx : Cx) (D : List (Nat × Def)) (rec : Rec) (s j : Nat) (k : KK) : KK := fun r fs => match lookA s D with
  | some (.fn ss T) => if soOk cx ss r then rec (.t T r j) fs k else k [.app s j (toL r)] fs
  | some (.lp ss mu T _) => if soOk cx ss r then rec (.e mu r) fs (lpK rec s j ss T r k) else k [.app s j (toL r)] fs
  | none => k [.app s j (toL r)] fs
def evApp (cx : Cx) (D : List (Nat × Def)) (rec : Rec) (s j : Nat) (l : E) (as : List E) (fs : Facts) (k : KK) : Bool := rec (.es (argsL l) as) fs (appK cx D rec s j k)
def strK (cx : Cx) (x : E) (k : KK) : KK := fun r fs => k [x.build cx r] fs
def evStrict (cx : Cx) (rec : Rec) (x : E) (as : List E) (fs : Facts) (k : KK) : Bool := rec (.es x.parts as) fs (strK cx x k)
def evE2 (cx : Cx) (D : List (Nat × Def)) (rec : Rec) (x : E) (as : List E) (fs : Facts) (k : KK) : Bool :=
  match x with
  | .ite c a b => evIte cx rec c a b as fs k
  | .idx i l => evIdx rec i l as fs k
  | .app s j l => evApp cx D rec s j l as fs k
  | x => evStrict cx rec x as fs k
def evE (cx : Cx) (D : List (Nat × Def)) (rec : Rec) (x : E) (as : List E) (fs : Facts) (k : KK) : Bool :=
  match fastE as x with
  | some y => k [y] fs
  | none => evE2 cx D rec x as fs k
def consK2 (v : E) (k : KK) : KK := fun vs fs => k (v :: vs) fs
def consK (rec : Rec) (xs as : List E) (k : KK) : KK := fun r fs => match r with
  | [v] => rec (.es xs as) fs (consK2 v k)
  | _ => false
def evEs (rec : Rec) (xs as : List E) (fs : Facts) (k : KK) : Bool :=
  match xs with
  | [] => k [] fs
  | x :: xs => match fastE as x with
    | some y => rec (.es xs as) fs (consK2 y k)
    | none => rec (.e x as) fs (consK rec xs as k)
def evAt (rec : Rec) (es as : List E) (j : Nat) (fs : Facts) (k : KK) : Bool :=
  match es[j]? with
  | some x => rec (.e x as) fs k
  | none => false
def evV (cx : Cx) (rec : Rec) (T : VT) (as : List E) (j : Nat) (fs : Facts) (k : KK) : Bool :=
  match T with
  | .leaf es => evAt rec es as j fs k
  | .ite c a b => rec (.e c as) fs (brK cx (twoK rec (.t a as j) (.t b as j) k))
  | .stuck => false
def nextK (cx : Cx) (rec : Rec) (ss : List So) (T0 : LT) (m j : Nat) (k : KK) : KK := fun r fs => if soOk cx ss r then rec (.l ss T0 m T0 r j) fs k else false
def evL (cx : Cx) (rec : Rec) (ss : List So) (T0 : LT) (m : Nat) (T : LT) (as : List E) (j : Nat) (fs : Facts) (k : KK) : Bool :=
  match T with
  | .out es => evAt rec es as j fs k
  | .next es => match m with
    | 0 => false
    | m + 1 => rec (.es es as) fs (nextK cx rec ss T0 m j k)
  | .ite c a b => rec (.e c as) fs (brK cx (twoK rec (.l ss T0 m a as j) (.l ss T0 m b as j) k))
def evStep (cx : Cx) (D : List (Nat × Def)) (rec : Rec) (t : Task) (fs : Facts) (k : KK) : Bool :=
  match t with
  | .e x as => evE cx D rec x as fs k
  | .es xs as => evEs rec xs as fs k
  | .t T as j => evV cx rec T as j fs k
  | .l ss T0 m T as j => evL cx rec ss T0 m T as j fs k
def evN (cx : Cx) (D : List (Nat × Def)) (n : Nat) : Rec :=
  Nat.rec (motive := fun _ => Rec) (fun _ _ _ => false) (fun _ rec => evStep cx D rec) n
def ev (cx : Cx) (D : List (Nat × Def)) (n : Nat) (t : Task) (fs : Facts) (k : KK) : Bool := evN cx D n t fs k
theorem ev_zero (cx : Cx) (D : List (Nat × Def)) (t : Task) (fs : Facts) (k : KK) : ev cx D 0 t fs k = false := rfl
theorem ev_succ (cx : Cx) (D : List (Nat × Def)) (n : Nat) (t : Task) (fs : Facts) (k : KK) : ev cx D (n + 1) t fs k = evStep cx D (ev cx D n) t fs k := rfl

def aft (ss : List So) (T0 : LT) (bad : List E) (φ : Nat → List Value → List Value) (m : Nat) : List Value ⊕ List Value → List Value
  | .inl fl => T0.itr ss bad φ m fl
  | .inr r => r
theorem itr_succ (ss : List So) (T0 : LT) (bad : List E) (φ : Nat → List Value → List Value) (m : Nat) (fl : List Value) : T0.itr ss bad φ (m + 1) fl = aft ss T0 bad φ m (T0.step (atS ss fl) φ) := by
  simp only [LT.itr]
  cases T0.step (atS ss fl) φ <;> rfl
section
variable (ρ : Nat → Value) (φ : Nat → List Value → List Value)
def asV (as : List E) : Nat → Value := fun i => (as.map (·.den ρ φ)).getD i undef
def Task.vals : Task → List Value → Prop
  | .e x as, vs => vs = [x.den (asV ρ φ as) φ]
  | .es xs as, vs => vs = xs.map (·.den (asV ρ φ as) φ)
  | .t T as j, vs => vs = [(T.vals (asV ρ φ as) φ).getD j undef]
  | .l ss T0 m T as j, vs => ∀ bad, vs = [(aft ss T0 bad φ m (T.step (asV ρ φ as) φ)).getD j undef]
end
theorem atL_asV {ρ : Nat → Value} {φ : Nat → List Value → List Value} (as : List E) (i : Nat) : (atL as i).den ρ φ = asV ρ φ as i := by
  unfold atL asV
  rw [List.getD_eq_getElem?_getD, List.getD_eq_getElem?_getD, List.getElem?_map]
  cases as[i]? <;> rfl
theorem fastA_den {ρ : Nat → Value} {φ : Nat → List Value → List Value} {as : List E} {x y : E} (h : fastA as x = some y) : y.den ρ φ = x.den (asV ρ φ as) φ := by
  unfold fastA at h
  split at h
  · simp only [Option.some.injEq] at h
    subst h
    exact atL_asV as _
  · simp only [Option.some.injEq] at h
    subst h
    rfl
  · exact absurd h (by simp)
theorem fastE_den {ρ : Nat → Value} {φ : Nat → List Value → List Value} {as : List E} {x y : E} (h : fastE as x = some y) : y.den ρ φ = x.den (asV ρ φ as) φ := by
  unfold fastE at h
  split at h
  · simp only [Option.some.injEq] at h
    subst h
    exact atL_asV as _
  · simp only [Option.some.injEq] at h
    subst h
    rfl
  · simp only [Option.some.injEq] at h
    subst h
    rfl
  · simp only [Option.some.injEq] at h
    subst h
    rfl
  · split at h
    · rename_i a b ha hb
      simp only [Option.some.injEq] at h
      subst h
      simp only [mkEql_den, E.den, icmp, fastA_den (ρ := ρ) (φ := φ) ha, fastA_den (ρ := ρ) (φ := φ) hb]
    · exact absurd h (by simp)
  · split at h
    · rename_i a b ha hb
      simp only [Option.some.injEq] at h
      subst h
      simp only [mkLss_den, E.den, icmp, fastA_den (ρ := ρ) (φ := φ) ha, fastA_den (ρ := ρ) (φ := φ) hb]
    · exact absurd h (by simp)
  · exact absurd h (by simp)
section
variable {ρ : Nat → Value} {φ : Nat → List Value → List Value} {cx : Cx} {D : List (Nat × Def)} (F : Fits cx.Γ cx.S ρ φ) (C : CtSound cx φ) (H : DS φ D)
 include F
theorem asV_at {ss : List So} {as : List E} (h : soOk cx ss as = true) : atS ss (as.map (·.den ρ φ)) = asV ρ φ as := by
  funext i
  unfold atS asV
  exact coe_id (all2_get (soOk_has F h) i)
 include C
theorem two_sound {rec : Rec} (ih : ∀ T fs k, Facts.hold ρ φ fs → rec T fs k = true → ∃ es fs', k es fs' = true ∧ Facts.hold ρ φ fs' ∧ Task.vals ρ φ T (es.map (·.den ρ φ))) {c : E} {as : List E} {a b : Task} {fs : Facts} {k : KK} (hf : fs.hold ρ φ) (h : rec (.e c as) fs (brK cx (twoK rec a b k)) = true) :
    ∃ es fs', k es fs' = true ∧ Facts.hold ρ φ fs' ∧ (if vbool (c.den (asV ρ φ as) φ) then a else b).vals ρ φ (es.map (·.den ρ φ)) := by
  obtain ⟨es, fs', h1, h2, h3⟩ := ih _ _ _ hf h
  unfold brK at h1
  split at h1
  · rename_i c'
    have h3 : c'.den ρ φ = c.den (asV ρ φ as) φ := by simpa [Task.vals] using h3
    obtain ⟨f2, h4, h5⟩ := force_sound F C h2 h1
    rw [h3] at h5
    unfold twoK at h5
    cases hv : vbool (c.den (asV ρ φ as) φ) with
    | true =>
      simp only [hv, if_true] at h5 ⊢
      exact ih _ _ _ h4 h5
    | false =>
      simp only [hv, Bool.false_eq_true, if_false] at h5 ⊢
      exact ih _ _ _ h4 h5
  · exact absurd h1 (by simp)
end
theorem at_sound {ρ : Nat → Value} {φ : Nat → List Value → List Value} {rec : Rec} (ih : ∀ T fs k, Facts.hold ρ φ fs → rec T fs k = true → ∃ es fs', k es fs' = true ∧ Facts.hold ρ φ fs' ∧ Task.vals ρ φ T (es.map (·.den ρ φ))) {es as : List E} {j : Nat} {fs : Facts} {k : KK} (hf : fs.hold ρ φ) (h : evAt rec es as j fs k = true) :
    ∃ vs fs', k vs fs' = true ∧ Facts.hold ρ φ fs' ∧ vs.map (·.den ρ φ) = [(es.map (·.den (asV ρ φ as) φ)).getD j undef] := by
  unfold evAt at h
  split at h
  · rename_i x hx
    obtain ⟨vs, f1, h1, h2, h3⟩ := ih (.e x as) _ _ hf h
    refine ⟨vs, f1, h1, h2, ?_⟩
    have h3 : vs.map (·.den ρ φ) = [x.den (asV ρ φ as) φ] := h3
    rw [h3, List.getD_eq_getElem?_getD, List.getElem?_map, hx]
    rfl
  · exact absurd h (by simp)
section
variable {ρ : Nat → Value} {φ : Nat → List Value → List Value} {cx : Cx} {D : List (Nat × Def)} (F : Fits cx.Γ cx.S ρ φ) (C : CtSound cx φ) (H : DS φ D)
 include F C H
theorem step_sound {rec : Rec} (ih : ∀ T fs k, Facts.hold ρ φ fs → rec T fs k = true → ∃ es fs', k es fs' = true ∧ Facts.hold ρ φ fs' ∧ Task.vals ρ φ T (es.map (·.den ρ φ))) : ∀ (T : Task) (fs : Facts) (k : KK), fs.hold ρ φ → evStep cx D rec T fs k = true → ∃ es fs', k es fs' = true ∧ Facts.hold ρ φ fs' ∧ T.vals ρ φ (es.map (·.den ρ φ))
  | .e x as, fs, k, hf, h => by
    simp only [evStep, evE] at h
    split at h
    · rename_i y hy
      refine ⟨_, fs, h, hf, ?_⟩
      simp only [Task.vals, List.map_cons, List.map_nil, List.cons.injEq, and_true]
      exact fastE_den hy
    rename_i hfast
    have strictCase : x.strict = true → evStrict cx rec x as fs k = true → ∃ es fs', k es fs' = true ∧ Facts.hold ρ φ fs' ∧ Task.vals ρ φ (.e x as) (es.map (·.den ρ φ)) := by
      intro hs h
      obtain ⟨es, fs', h1, h2, h3⟩ := ih _ _ _ hf h
      exact ⟨_, fs', h1, h2, by simp only [Task.vals, List.map_cons, List.map_nil, List.cons.injEq, and_true]; exact build_den F hs h3⟩
    cases x with
    | var i => simp [fastE] at hfast
    | ite c a b =>
      simp only [evE2, evIte] at h
      obtain ⟨es, fs', h1, h2, h3⟩ := two_sound F C ih hf h
      refine ⟨es, fs', h1, h2, ?_⟩
      simp only [Task.vals, E.den]
      cases hv : vbool (c.den (asV ρ φ as) φ) with
      | true => rw [hv] at h3; exact h3
      | false => rw [hv] at h3; exact h3
    | app s j l =>
      simp only [evE2, evApp] at h
      obtain ⟨r, fs', h1, h2, h3⟩ := ih _ _ _ hf h
      have h3 : r.map (·.den ρ φ) = l.dens (asV ρ φ as) φ := by rw [argsL_dens]; exact h3
      have keep : ∀ fs', Facts.hold ρ φ fs' → k [.app s j (toL r)] fs' = true → ∃ es fs', k es fs' = true ∧ Facts.hold ρ φ fs' ∧ Task.vals ρ φ (.e (.app s j l) as) (es.map (·.den ρ φ)) := by
        intro fs' h2 hk
        refine ⟨_, fs', hk, h2, ?_⟩
        simp only [Task.vals, List.map_cons, List.map_nil, E.den, toL_dens, h3]
      unfold appK at h1
      split at h1
      · rename_i ss T hl
        split at h1
        · rename_i hso
          obtain ⟨vs, f2, h4, h5, h6⟩ := ih _ _ _ h2 h1
          refine ⟨_, f2, h4, h5, ?_⟩
          have hd := H _ (lookA_mem hl) (r.map (·.den ρ φ))
          rw [asV_at F hso] at hd
          have h6 : vs.map (·.den ρ φ) = [(T.vals (asV ρ φ r) φ).getD j undef] := h6
          simp only [Task.vals, E.den, ← h3, hd, h6]
        · exact keep _ h2 h1
      · rename_i ss mu T bad hl
        split at h1
        · rename_i hso
          obtain ⟨q, f2, h4, h5, h6⟩ := ih _ _ _ h2 h1
          unfold lpK at h4
          split at h4
          · rename_i kk z
            obtain ⟨vs, f3, h7, h8, h9⟩ := ih _ _ _ h5 h4
            refine ⟨_, f3, h7, h8, ?_⟩
            have hd := H _ (lookA_mem hl) (r.map (·.den ρ φ))
            simp only [itr_succ, asV_at F hso] at hd
            have h6 : Value.int kk z = mu.den (asV ρ φ r) φ := by simpa [Task.vals, E.den] using h6
            rw [← h6, vint_int] at hd
            simp only [Task.vals, E.den, ← h3, hd]
            exact h9 bad
          · exact keep _ h5 h4
        · exact keep _ h2 h1
      · exact keep _ h2 h1
    | idx i l =>
      simp only [evE2, evIdx] at h
      obtain ⟨r, f1, h1, h2, h3⟩ := ih _ _ _ hf h
      unfold idxK at h1
      split at h1
      · rename_i i'
        have h3 : i'.den ρ φ = i.den (asV ρ φ as) φ := by simpa [Task.vals] using h3
        split at h1
        · rename_i m hm
          have hm := litN_den hm ρ φ
          split at h1
          · rename_i x hx
            obtain ⟨vs, f2, h4, h5, h6⟩ := ih _ _ _ h2 h1
            refine ⟨vs, f2, h4, h5, ?_⟩
            have h6 : vs.map (·.den ρ φ) = [x.den (asV ρ φ as) φ] := h6
            simp only [Task.vals, E.den, h6, argsL_dens, ← h3, hm, List.getD_eq_getElem?_getD, List.getElem?_map, hx]
            rfl
          · exact absurd h1 (by simp)
        · obtain ⟨es, f2, h4, h5, h6⟩ := ih _ _ _ h2 h1
          refine ⟨_, f2, h4, h5, ?_⟩
          have h6 : es.map (·.den ρ φ) = (argsL l).map (·.den (asV ρ φ as) φ) := h6
          simp only [Task.vals, List.map_cons, List.map_nil, mkIdx_den, E.den, argsL_dens, h3, h6]
      · exact absurd h1 (by simp)
    | _ => exact strictCase rfl h
  | .es xs as, fs, k, hf, h => by
    simp only [evStep] at h
    cases xs with
    | nil => exact ⟨[], fs, h, hf, rfl⟩
    | cons x xs =>
      simp only [evEs] at h
      split at h
      · rename_i y hy
        obtain ⟨vs, f2, h4, h5, h6⟩ := ih _ _ _ hf h
        refine ⟨_, f2, h4, h5, ?_⟩
        have h6 : vs.map (·.den ρ φ) = xs.map (·.den (asV ρ φ as) φ) := h6
        simp only [Task.vals, List.map_cons, fastE_den hy, h6]
      obtain ⟨r, f1, h1, h2, h3⟩ := ih _ _ _ hf h
      unfold consK at h1
      split at h1
      · rename_i v
        obtain ⟨vs, f2, h4, h5, h6⟩ := ih _ _ _ h2 h1
        have h3 : v.den ρ φ = x.den (asV ρ φ as) φ := by simpa [Task.vals] using h3
        refine ⟨_, f2, h4, h5, ?_⟩
        have h6 : vs.map (·.den ρ φ) = xs.map (·.den (asV ρ φ as) φ) := h6
        simp only [Task.vals, List.map_cons, h3, h6]
      · exact absurd h1 (by simp)
  | .t T as j, fs, k, hf, h => by
    simp only [evStep] at h
    cases T with
    | leaf es =>
      obtain ⟨vs, f1, h1, h2, h3⟩ := at_sound ih hf h
      exact ⟨vs, f1, h1, h2, h3⟩
    | ite c a b =>
      simp only [evV] at h
      obtain ⟨es, fs', h1, h2, h3⟩ := two_sound F C ih hf h
      refine ⟨es, fs', h1, h2, ?_⟩
      simp only [Task.vals, VT.vals]
      cases hv : vbool (c.den (asV ρ φ as) φ) with
      | true => rw [hv] at h3; exact h3
      | false => rw [hv] at h3; exact h3
    | stuck => simp [evV] at h
  | .l ss T0 m T as j, fs, k, hf, h => by
    simp only [evStep] at h
    cases T with
    | out es =>
      obtain ⟨vs, f1, h1, h2, h3⟩ := at_sound ih hf h
      exact ⟨vs, f1, h1, h2, fun _ => h3⟩
    | next es =>
      cases m with
      | zero => simp [evL] at h
      | succ m =>
        simp only [evL] at h
        obtain ⟨r, f1, h1, h2, h3⟩ := ih _ _ _ hf h
        unfold nextK at h1
        split at h1
        · rename_i hso
          obtain ⟨vs, f2, h4, h5, h6⟩ := ih _ _ _ h2 h1
          refine ⟨vs, f2, h4, h5, fun bad => ?_⟩
          have h3 : r.map (·.den ρ φ) = es.map (·.den (asV ρ φ as) φ) := h3
          simp only [LT.step, aft, itr_succ, ← h3, asV_at F hso]
          exact h6 bad
        · exact absurd h1 (by simp)
    | ite c a b =>
      simp only [evL] at h
      obtain ⟨es, fs', h1, h2, h3⟩ := two_sound F C ih hf h
      refine ⟨es, fs', h1, h2, fun bad => ?_⟩
      simp only [LT.step]
      cases hv : vbool (c.den (asV ρ φ as) φ) with
      | true => rw [hv] at h3; exact h3 bad
      | false => rw [hv] at h3; exact h3 bad
theorem ev_sound : ∀ (n : Nat) (T : Task) (fs : Facts) (k : KK), fs.hold ρ φ → ev cx D n T fs k = true → ∃ es fs', k es fs' = true ∧ Facts.hold ρ φ fs' ∧ T.vals ρ φ (es.map (·.den ρ φ))
  | 0, _, _, _, _, h => by rw [ev_zero] at h; exact absurd h (by simp)
  | n + 1, T, fs, k, hf, h => by
    rw [ev_succ] at h
    exact step_sound F C H (ev_sound n) T fs k hf h
/-- **A term that is true by all ways.** -/
def yes (cx : Cx) (r : List E) (fs : Facts) : Bool :=
  match r with
  | [e] => decide (cx.so e = .bool) && force cx e fs fun b _ => b
  | _ => false
theorem ev_true {n : Nat} {x : E} {as : List E} {fs : Facts} (hf : fs.hold ρ φ) (h : ev cx D n (.e x as) fs (yes cx) = true) : x.den (asV ρ φ as) φ = .bool true := by
  obtain ⟨es, fs', h1, h2, h3⟩ := ev_sound F C H n _ _ _ hf h
  unfold yes at h1
  split at h1
  · rename_i e
    rw [Bool.and_eq_true] at h1
    have hb := so_bool0 F (of_decide_eq_true h1.1)
    obtain ⟨f2, h4, h5⟩ := force_sound F C h2 h1.2
    have h3 : e.den ρ φ = x.den (asV ρ φ as) φ := by simpa [Task.vals] using h3
    rw [← h3, hb, h5]
  · exact absurd h1 (by simp)
end
end Go.SX
