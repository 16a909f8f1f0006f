/- SX, a walk that the kernel carries out: terms, what they denote, facts. No program is named here. -/
import Derived.WalkKit
import Derived.Orders
import Derived.KernelRfl
namespace Go.SX
open Go

/-- What a term's value is. -/
inductive So where
  | int (k : IntKind) | bool | str | one | any
  deriving DecidableEq, Inhabited

/-- The least and the greatest of a kind. -/
def lowOf : IntKind → Int
  | .i8 => -128 | .i16 => -32768 | .i32 => -2147483648 | .i64 => -9223372036854775808 | _ => 0
def highOf : IntKind → Int
  | .i8 => 127 | .i16 => 32767 | .i32 => 2147483647 | .i64 => 9223372036854775807
  | .u8 => 255 | .u16 => 65535 | .u32 => 4294967295 | .u64 => 18446744073709551615
theorem wrap_range (k : IntKind) (n : Int) : lowOf k ≤ k.wrap n ∧ k.wrap n ≤ highOf k := by
  cases k <;> simp [lowOf, highOf, IntKind.wrap, IntKind.bits, IntKind.signed] <;> omega
theorem wrap_id {k : IntKind} {n : Int} (h1 : lowOf k ≤ n) (h2 : n ≤ highOf k) : k.wrap n = n := by
  cases k <;> simp [lowOf, highOf] at h1 h2 <;> simp [IntKind.wrap, IntKind.bits, IntKind.signed] <;> omega

def So.has : So → Value → Prop
  | .int k, v => ∃ n, v = .int k n ∧ lowOf k ≤ n ∧ n ≤ highOf k
  | .bool, v => ∃ b, v = .bool b
  | .str, v => ∃ s, v = .string s ∧ s.size ≤ 140737488355328
  | .one, v => v.oneCell' = true
  | .any, _ => True

theorem So.has_one {s : So} {v : Value} (h : s.has v) (hs : s ≠ .any) : v.oneCell' = true := by
  cases s with
  | int k => obtain ⟨n, rfl, _⟩ := h; rfl
  | bool => obtain ⟨n, rfl⟩ := h; rfl
  | str => obtain ⟨n, rfl, _⟩ := h; rfl
  | one => exact h
  | any => exact absurd rfl hs

/-- Terms. 'nil' and 'cons' make lists of terms. -/
inductive E where
  | var (i : Nat) | int (k : IntKind) (n : Int) | bool (b : Bool) | val (v : Value)
  | bin (op : BinOp) (k : IntKind) (a b : E)
  | shf (op : BinOp) (k : IntKind) (a b : E)
  | cmp (op : BinOp) (a b : E)
  | beq (a b : E) | seq (a b : E) | not (a : E)
  | conv (k : IntKind) (a : E)
  | ite (c a b : E)
  | idx (i l : E)
  | app (f j : Nat) (args : E)
  | nil | cons (a b : E)
  | len (a : E) | byte (s i : E) | cut (s lo hi : E)
  | tup (l : E) | el (g i : E) (sz off : Nat) (s : So)
  deriving Inhabited

def vint : Value → Int | .int _ n => n | _ => 0
def vbool : Value → Bool | .bool b => b | _ => false
def vstr : Value → List UInt8 | .string s => s.toList | _ => []
@[simp] theorem vint_int (k : IntKind) (n : Int) : vint (.int k n) = n := rfl
@[simp] theorem vbool_bool (b : Bool) : vbool (.bool b) = b := rfl
@[simp] theorem vstr_string (s : ByteArray) : vstr (.string s) = s.toList := rfl

def vtup : Value → List Value | .tuple vs => vs.toList | _ => []
/-- A length that is an int for sure. -/
def vlen : Value → Nat
  | .string s => if s.size ≤ 4611686018427387904 then s.size else 0
  | .slice _ n _ => if n ≤ 4611686018427387904 then n else 0
  | _ => 0
theorem vlen_le (v : Value) : vlen v ≤ 4611686018427387904 := by
  unfold vlen
  split <;> first | (split <;> omega) | omega
def vcut (v : Value) (lo hi : Nat) : Value :=
  match v with
  | .string s => .string (s.extract lo hi)
  | v => v
def coe : So → Value → Value
  | .int k, v => .int k (k.wrap (vint v))
  | .bool, v => .bool (vbool v)
  | .str, v => match v with
    | .string s => if s.size ≤ 140737488355328 then .string s else .string ⟨#[]⟩
    | _ => .string ⟨#[]⟩
  | .one, v => if v.oneCell' then v else .nilFunc
  | .any, v => v
theorem coe_has (s : So) (v : Value) : s.has (coe s v) := by
  cases s with
  | int k => exact ⟨_, rfl, wrap_range k _⟩
  | bool => exact ⟨_, rfl⟩
  | str =>
    cases v
    case string s =>
      simp only [coe]
      split
      · exact ⟨_, rfl, by assumption⟩
      · exact ⟨_, rfl, Nat.zero_le _⟩
    all_goals exact ⟨_, rfl, Nat.zero_le _⟩
  | one =>
    simp only [coe, So.has]
    split
    · assumption
    · rfl
  | any => trivial
theorem coe_id {s : So} {v : Value} (h : s.has v) : coe s v = v := by
  cases s with
  | int k => obtain ⟨n, rfl, h1, h2⟩ := h; simp [coe, wrap_id h1 h2]
  | bool => obtain ⟨b, rfl⟩ := h; rfl
  | str => obtain ⟨b, rfl, hb⟩ := h; simp [coe, hb]
  | one => have h : v.oneCell' = true := h; simp [coe, h]
  | any => rfl

def ibin (op : BinOp) (k : IntKind) (x y : Int) : Int :=
  match op with
  | .add => k.wrap (x + y)
  | .sub => k.wrap (x - y)
  | .mul => k.wrap (x * y)
  | .quo => k.wrap (x.tdiv y)
  | .rem => x.tmod y
  | op => bits op k x y

def ishf (op : BinOp) (k : IntKind) (x y : Int) : Int :=
  match op with
  | .shl => k.wrap (x * 2 ^ (min y.toNat k.bits))
  | _ => x.fdiv (2 ^ (min y.toNat k.bits))

def icmp (op : BinOp) (x y : Int) : Bool :=
  match op with
  | .eql => x == y | .neq => x != y | .lss => decide (x < y) | .leq => decide (x ≤ y) | .gtr => decide (x > y) | .geq => decide (x ≥ y)
  | _ => false

section
variable (ρ : Nat → Value) (φ : Nat → List Value → List Value)
mutual
def E.den : E → Value
  | .var i => ρ i
  | .int k n => .int k n
  | .bool b => .bool b
  | .val v => v
  | .bin op k a b => .int k (ibin op k (vint a.den) (vint b.den))
  | .shf op k a b => .int k (ishf op k (vint a.den) (vint b.den))
  | .cmp op a b => .bool (icmp op (vint a.den) (vint b.den))
  | .beq a b => .bool (vbool a.den == vbool b.den)
  | .seq a b => .bool (vstr a.den == vstr b.den)
  | .not a => .bool (!vbool a.den)
  | .conv k a => .int k (k.wrap (vint a.den))
  | .ite c a b => if vbool c.den then a.den else b.den
  | .idx i l => l.dens.getD (vint i.den).toNat (l.dens.headD undef)
  | .app f j args => (φ f args.dens).getD j undef
  | .nil => undef
  | .cons _ _ => undef
  | .len a => .int .i64 (vlen a.den)
  | .byte s i => .int .u8 ((vstr s.den).getD (vint i.den).toNat 0).toNat
  | .cut s lo hi => vcut s.den (vint lo.den).toNat (vint hi.den).toNat
  | .tup l => .tuple l.dens.toArray
  | .el g i sz off s => coe s ((vtup g.den).getD ((vint i.den).toNat * sz + off) undef)
def E.dens : E → List Value
  | .cons a b => a.den :: b.dens
  | _ => []
end
end

/-- Equal terms, as far as it is seen at once. -/
def valBeq : Value → Value → Bool
  | .string s, .string t => s.data.toList == t.data.toList
  | _, _ => false

theorem valBeq_eq {a b : Value} (h : valBeq a b = true) : a = b := by
  unfold valBeq at h
  split at h
  · rename_i s t
    have h' : s.data.toList = t.data.toList := by simpa using h
    cases s; cases t
    simp at h'
    simp [h']
  · exact absurd h (by simp)

def intBeq : Int → Int → Bool
  | .ofNat a, .ofNat b => Nat.beq a b
  | .negSucc a, .negSucc b => Nat.beq a b
  | _, _ => false
theorem intBeq_eq {a b : Int} (h : intBeq a b = true) : a = b := by
  unfold intBeq at h
  split at h
  · simp only [Nat.beq_eq] at h; rw [h]
  · simp only [Nat.beq_eq] at h; rw [h]
  · exact absurd h (by simp)

def kNum : IntKind → Nat
  | .i8 => 0 | .i16 => 1 | .i32 => 2 | .i64 => 3 | .u8 => 4 | .u16 => 5 | .u32 => 6 | .u64 => 7
def kBeq (a b : IntKind) : Bool := Nat.beq (kNum a) (kNum b)
theorem kBeq_eq {a b : IntKind} (h : kBeq a b = true) : a = b := by
  cases a <;> cases b <;> first | rfl | exact absurd h (by decide)

def oNum : BinOp → Nat
  | .add => 0 | .sub => 1 | .mul => 2 | .quo => 3 | .rem => 4 | .and => 5 | .or => 6 | .xor => 7 | .shl => 8 | .shr => 9 | .andNot => 10
  | .eql => 11 | .neq => 12 | .lss => 13 | .leq => 14 | .gtr => 15 | .geq => 16
def oBeq (a b : BinOp) : Bool := Nat.beq (oNum a) (oNum b)
theorem oBeq_eq {a b : BinOp} (h : oBeq a b = true) : a = b := by
  cases a <;> cases b <;> first | rfl | exact absurd h (by decide)

def E.eqv : E → E → Bool
  | .var i, .var j => Nat.beq i j
  | .int k n, .int k' n' => kBeq k k' && intBeq n n'
  | .bool a, .bool b => a == b
  | .val a, .val b => valBeq a b
  | .bin o k a b, .bin o' k' a' b' => oBeq o o' && kBeq k k' && a.eqv a' && b.eqv b'
  | .shf o k a b, .shf o' k' a' b' => oBeq o o' && kBeq k k' && a.eqv a' && b.eqv b'
  | .cmp o a b, .cmp o' a' b' => oBeq o o' && a.eqv a' && b.eqv b'
  | .beq a b, .beq a' b' => a.eqv a' && b.eqv b'
  | .seq a b, .seq a' b' => a.eqv a' && b.eqv b'
  | .not a, .not a' => a.eqv a'
  | .conv k a, .conv k' a' => kBeq k k' && a.eqv a'
  | .ite c a b, .ite c' a' b' => c.eqv c' && a.eqv a' && b.eqv b'
  | .idx i l, .idx i' l' => i.eqv i' && l.eqv l'
  | .app f j a, .app f' j' a' => Nat.beq f f' && Nat.beq j j' && a.eqv a'
  | .nil, .nil => true
  | .cons a b, .cons a' b' => a.eqv a' && b.eqv b'
  | .len a, .len a' => a.eqv a'
  | .byte a b, .byte a' b' => a.eqv a' && b.eqv b'
  | .cut a b c, .cut a' b' c' => a.eqv a' && b.eqv b' && c.eqv c'
  | .tup a, .tup a' => a.eqv a'
  | .el g i sz off s, .el g' i' sz' off' s' => Nat.beq sz sz' && Nat.beq off off' && decide (s = s') && g.eqv g' && i.eqv i'
  | _, _ => false

theorem E.eqv_eq : ∀ {a b : E}, a.eqv b = true → a = b := by
  intro a
  induction a with
  | var i => intro b h; cases b <;> simp [E.eqv] at h; rw [h]
  | int k n => intro b h; cases b <;> simp [E.eqv] at h; rw [kBeq_eq h.1, intBeq_eq h.2]
  | bool x => intro b h; cases b <;> simp [E.eqv] at h; rw [h]
  | val v => intro b h; cases b <;> simp [E.eqv] at h; rw [valBeq_eq h]
  | bin o k a b iha ihb => intro c h; cases c <;> simp [E.eqv] at h; rw [oBeq_eq h.1.1.1, kBeq_eq h.1.1.2, iha h.1.2, ihb h.2]
  | shf o k a b iha ihb => intro c h; cases c <;> simp [E.eqv] at h; rw [oBeq_eq h.1.1.1, kBeq_eq h.1.1.2, iha h.1.2, ihb h.2]
  | cmp o a b iha ihb => intro c h; cases c <;> simp [E.eqv] at h; rw [oBeq_eq h.1.1, iha h.1.2, ihb h.2]
  | beq a b iha ihb => intro c h; cases c <;> simp [E.eqv] at h; rw [iha h.1, ihb h.2]
  | seq a b iha ihb => intro c h; cases c <;> simp [E.eqv] at h; rw [iha h.1, ihb h.2]
  | not a iha => intro c h; cases c <;> simp [E.eqv] at h; rw [iha h]
  | conv k a iha => intro c h; cases c <;> simp [E.eqv] at h; rw [kBeq_eq h.1, iha h.2]
  | ite c a b ihc iha ihb => intro d h; cases d <;> simp [E.eqv] at h; rw [ihc h.1.1, iha h.1.2, ihb h.2]
  | idx i l ihi ihl => intro c h; cases c <;> simp [E.eqv] at h; rw [ihi h.1, ihl h.2]
  | app f j a iha => intro c h; cases c <;> simp [E.eqv] at h; rw [h.1.1, h.1.2, iha h.2]
  | nil => intro c h; cases c <;> simp [E.eqv] at h; rfl
  | cons a b iha ihb => intro c h; cases c <;> simp [E.eqv] at h; rw [iha h.1, ihb h.2]
  | len a iha => intro c h; cases c <;> simp [E.eqv] at h; rw [iha h]
  | byte a b iha ihb => intro c h; cases c <;> simp [E.eqv] at h; rw [iha h.1, ihb h.2]
  | cut a b c iha ihb ihc => intro d h; cases d <;> simp [E.eqv] at h; rw [iha h.1.1, ihb h.1.2, ihc h.2]
  | tup a iha => intro c h; cases c <;> simp [E.eqv] at h; rw [iha h]
  | el g i sz off s ihg ihi => intro c h; cases c <;> simp [E.eqv] at h; rw [h.1.1.1.1, h.1.1.1.2, h.1.1.2, ihg h.1.2, ihi h.2]

def E.isNil : E → Bool
  | .nil => true
  | _ => false

/- Sorts. 'Γ' of the variables, 'S' of what a call gives back. 'sos': the sort of all of a list. -/
mutual
def E.so (Γ : List So) (S : Nat → Nat → So) : E → So
  | .var i => Γ.getD i .any
  | .int k n => if decide (lowOf k ≤ n) && decide (n ≤ highOf k) then .int k else .any
  | .bool _ => .bool
  | .val v => match v with
    | .string s => if Nat.ble s.size 140737488355328 then .str else .one
    | .agg _ | .tuple _ | .int _ _ => .any
    | _ => .one
  | .bin op k a _ => match op with
    | .rem => if a.so Γ S = .int k then .int k else .any
    | _ => .int k
  | .shf op k a _ => match op with
    | .shl => .int k
    | _ => if a.so Γ S = .int k then .int k else .any
  | .conv k _ => .int k
  | .cmp .. | .beq .. | .seq .. | .not _ => .bool
  | .ite _ a b => if a.so Γ S = b.so Γ S then a.so Γ S else .any
  | .idx _ l => l.sos Γ S
  | .app f j _ => S f j
  | .nil => .any
  | .cons _ _ => .any
  | .len _ => .int .i64
  | .byte _ _ => .int .u8
  | .cut s _ _ => if s.so Γ S = .str then .str else .any
  | .tup _ => .any
  | .el _ _ _ _ s => s
def E.sos (Γ : List So) (S : Nat → Nat → So) : E → So
  | .cons a b => if b.isNil then a.so Γ S else if a.so Γ S = b.sos Γ S then a.so Γ S else .any
  | _ => .any
end

/-- The environment fits its sorts. -/
structure Fits (Γ : List So) (S : Nat → Nat → So) (ρ : Nat → Value) (φ : Nat → List Value → List Value) : Prop where
  var : ∀ i, (Γ.getD i .any).has (ρ i)
  app : ∀ f j args, (S f j).has ((φ f args).getD j undef)

theorem tmod_le_self {n : Int} (h : 0 ≤ n) (m : Int) : n.tmod m ≤ n := by
  obtain ⟨a, rfl⟩ := Int.eq_ofNat_of_zero_le h
  rcases Int.eq_nat_or_neg m with ⟨b, rfl | rfl⟩
  · exact Int.ofNat_le.2 (Nat.mod_le a b)
  · rw [Int.tmod_neg]
    exact Int.ofNat_le.2 (Nat.mod_le a b)
theorem tmod_range (k : IntKind) (n m : Int) (h1 : lowOf k ≤ n) (h2 : n ≤ highOf k) : lowOf k ≤ n.tmod m ∧ n.tmod m ≤ highOf k := by
  have hlo : lowOf k ≤ 0 := by cases k <;> decide
  have hhi : 0 ≤ highOf k := by cases k <;> decide
  rcases Int.le_total 0 n with h | h
  · have a1 := Int.tmod_nonneg m h
    have a2 : n.tmod m ≤ n := tmod_le_self h m
    omega
  · have e : n.tmod m = -((-n).tmod m) := by rw [Int.neg_tmod]; simp
    have a1 := Int.tmod_nonneg m (show 0 ≤ -n by omega)
    have a2 : (-n).tmod m ≤ -n := tmod_le_self (by omega) m
    omega
theorem fdiv_range (k : IntKind) (n : Int) (m : Nat) (h1 : lowOf k ≤ n) (h2 : n ≤ highOf k) : lowOf k ≤ n.fdiv (2 ^ m) ∧ n.fdiv (2 ^ m) ≤ highOf k := by
  have hlo : lowOf k ≤ 0 := by cases k <;> decide
  have hhi : 0 ≤ highOf k := by cases k <;> decide
  have hp : (0 : Int) < 2 ^ m := Int.pow_pos (by decide)
  rw [Int.fdiv_eq_ediv_of_nonneg _ (Int.le_of_lt hp)]
  generalize (2 : Int) ^ m = q at hp
  rcases Int.le_total 0 n with h | h
  · have a1 := Int.ediv_nonneg h (Int.le_of_lt hp)
    have a2 := Int.ediv_le_self q h
    omega
  · have a1 : n / q ≤ 0 := by
      have := Int.ediv_le_ediv hp h
      simpa using this
    have a2 : n ≤ n / q := by
      rw [Int.le_ediv_iff_mul_le hp]
      have h3 : 0 ≤ (-n) * (q - 1) := Int.mul_nonneg (by omega) (by omega)
      rw [Int.mul_sub, Int.mul_one, Int.neg_mul] at h3
      omega
    omega

theorem E.so_has' {Γ : List So} {S : Nat → Nat → So} {ρ : Nat → Value} {φ : Nat → List Value → List Value} (H : Fits Γ S ρ φ) :
    ∀ (x : E), (x.so Γ S).has (x.den ρ φ) ∧ ((x.sos Γ S ≠ .any → x.dens ρ φ ≠ []) ∧ ∀ v ∈ x.dens ρ φ, (x.sos Γ S).has v) := by
  intro x
  induction x with
  | var i => exact ⟨H.var i, by simp [E.sos], by simp [E.dens]⟩
  | int k n =>
    refine ⟨?_, by simp [E.sos], by simp [E.dens]⟩
    simp only [E.so]
    split
    · rename_i h
      rw [Bool.and_eq_true] at h
      exact ⟨n, rfl, of_decide_eq_true h.1, of_decide_eq_true h.2⟩
    · trivial
  | bool b => exact ⟨⟨b, rfl⟩, by simp [E.sos], by simp [E.dens]⟩
  | val v =>
    refine ⟨?_, by simp [E.sos], by simp [E.dens]⟩
    cases v
    case string s =>
      simp only [E.so, E.den]
      split
      · rename_i h
        exact ⟨s, rfl, Nat.le_of_ble_eq_true h⟩
      · rfl
    all_goals simp [E.so, E.den, So.has, Value.oneCell']
  | bin o k a b iha _ =>
    refine ⟨?_, by simp [E.sos], by simp [E.dens]⟩
    simp only [E.so]
    split
    · split
      · rename_i ha
        have h := iha.1
        rw [ha] at h
        obtain ⟨n, hn, h1, h2⟩ := h
        refine ⟨_, rfl, ?_⟩
        simp only [ibin, hn, vint_int]
        exact tmod_range k n _ h1 h2
      · trivial
    · refine ⟨_, rfl, ?_⟩
      cases o <;> simp only [ibin, bits] <;> first | exact wrap_range k _ | (exfalso; simp_all; done)
  | shf o k a b iha _ =>
    refine ⟨?_, by simp [E.sos], by simp [E.dens]⟩
    simp only [E.so]
    split
    · exact ⟨_, rfl, wrap_range k _⟩
    · split
      · rename_i ho ha
        have h := iha.1
        rw [ha] at h
        obtain ⟨n, hn, h1, h2⟩ := h
        refine ⟨_, rfl, ?_⟩
        have e : ishf o k (vint (a.den ρ φ)) (vint (b.den ρ φ)) = n.fdiv (2 ^ (min (vint (b.den ρ φ)).toNat k.bits)) := by
          rw [hn, vint_int]
          cases o <;> first | rfl | exact absurd rfl ho
        rw [e]
        exact fdiv_range k n _ h1 h2
      · trivial
  | cmp o a b => exact ⟨⟨_, rfl⟩, by simp [E.sos], by simp [E.dens]⟩
  | beq a b => exact ⟨⟨_, rfl⟩, by simp [E.sos], by simp [E.dens]⟩
  | seq a b => exact ⟨⟨_, rfl⟩, by simp [E.sos], by simp [E.dens]⟩
  | not a => exact ⟨⟨_, rfl⟩, by simp [E.sos], by simp [E.dens]⟩
  | conv k a => exact ⟨⟨_, rfl, wrap_range k _⟩, by simp [E.sos], by simp [E.dens]⟩
  | ite c a b ihc iha ihb =>
    refine ⟨?_, by simp [E.sos], by simp [E.dens]⟩
    simp only [E.so, E.den]
    split
    · rename_i e
      split
      · exact iha.1
      · rw [e]; exact ihb.1
    · trivial
  | idx i l ihi ihl =>
    refine ⟨?_, by simp [E.sos], by simp [E.dens]⟩
    simp only [E.so, E.den]
    by_cases hs : l.sos Γ S = .any
    · rw [hs]; trivial
    · have hne := ihl.2.1 hs
      apply ihl.2.2
      cases hl : l.dens ρ φ with
      | nil => exact absurd hl hne
      | cons v vs =>
        simp only [List.headD_cons]
        cases hg : (v :: vs)[(vint (i.den ρ φ)).toNat]? with
        | none => simp [List.getD, hg]
        | some u => simp only [List.getD, hg, Option.getD_some]; exact List.mem_of_getElem? hg
  | app f j a => exact ⟨H.app _ _ _, by simp [E.sos], by simp [E.dens]⟩
  | nil => exact ⟨trivial, by simp [E.sos], by simp [E.dens]⟩
  | len a => exact ⟨⟨_, rfl, by simp [lowOf], by have := vlen_le (a.den ρ φ); simp [highOf]; omega⟩, by simp [E.sos], by simp [E.dens]⟩
  | byte a i => exact ⟨⟨_, rfl, by simp [lowOf], by
      generalize (vstr (a.den ρ φ)).getD (vint (i.den ρ φ)).toNat 0 = b
      have := b.toNat_lt
      simp only [highOf]
      omega⟩, by simp [E.sos], by simp [E.dens]⟩
  | cut a lo hi iha =>
    refine ⟨?_, by simp [E.sos], by simp [E.dens]⟩
    simp only [E.so]
    split
    · rename_i h
      have h1 := iha.1
      rw [h] at h1
      obtain ⟨s, hs, hb⟩ := h1
      refine ⟨s.extract (vint (lo.den ρ φ)).toNat (vint (hi.den ρ φ)).toNat, by simp only [E.den, hs, vcut], ?_⟩
      rw [ByteArray.size_extract]
      omega
    · trivial
  | tup l => exact ⟨trivial, by simp [E.sos], by simp [E.dens]⟩
  | el g i sz off s => exact ⟨coe_has s _, by simp [E.sos], by simp [E.dens]⟩
  | cons a b iha ihb =>
    refine ⟨trivial, by simp [E.dens], ?_⟩
    intro v hv
    simp only [E.dens, List.mem_cons] at hv
    simp only [E.sos]
    split
    · rename_i hb
      rcases hv with rfl | hv
      · exact iha.1
      · cases b <;> simp [E.isNil] at hb
        simp [E.dens] at hv
    · split
      · rename_i e
        rcases hv with rfl | hv
        · exact iha.1
        · rw [e]; exact ihb.2.2 v hv
      · trivial

theorem E.so_has {Γ : List So} {S : Nat → Nat → So} {ρ : Nat → Value} {φ : Nat → List Value → List Value} (H : Fits Γ S ρ φ) (x : E) :
    (x.so Γ S).has (x.den ρ φ) := (E.so_has' H x).1

/-! ### Terms that are made -/
/-- 'wrap' at once where the number fits. -/
def wrapF (k : IntKind) (n : Int) : Int := if decide (lowOf k ≤ n) && decide (n ≤ highOf k) then n else k.wrap n
theorem wrapF_eq (k : IntKind) (n : Int) : wrapF k n = k.wrap n := by
  unfold wrapF
  by_cases h : (decide (lowOf k ≤ n) && decide (n ≤ highOf k)) = true
  · rw [if_pos h]
    rw [Bool.and_eq_true, decide_eq_true_eq, decide_eq_true_eq] at h
    exact (wrap_id h.1 h.2).symm
  · rw [if_neg h]

section
variable (ρ : Nat → Value) (φ : Nat → List Value → List Value)

def mkBin (op : BinOp) (k : IntKind) : E → E → E
  | .int _ x, .int _ y => .int k (match op with | .add => wrapF k (x + y) | .sub => wrapF k (x - y) | .mul => wrapF k (x * y) | op => ibin op k x y)
  | a, b => .bin op k a b
theorem mkBin_den (op : BinOp) (k : IntKind) (a b : E) : (mkBin op k a b).den ρ φ = .int k (ibin op k (vint (a.den ρ φ)) (vint (b.den ρ φ))) := by
  unfold mkBin
  split
  · cases op <;> simp [E.den, ibin, wrapF_eq]
  · rfl

def mkShf (op : BinOp) (k : IntKind) : E → E → E
  | .int _ x, .int _ y => .int k (ishf op k x y)
  | a, b => .shf op k a b
theorem mkShf_den (op : BinOp) (k : IntKind) (a b : E) : (mkShf op k a b).den ρ φ = .int k (ishf op k (vint (a.den ρ φ)) (vint (b.den ρ φ))) := by
  unfold mkShf
  split <;> rfl

def mkConv (k : IntKind) : E → E
  | .int _ x => .int k (wrapF k x)
  | a => .conv k a
theorem mkConv_den (k : IntKind) (a : E) : (mkConv k a).den ρ φ = .int k (k.wrap (vint (a.den ρ φ))) := by
  unfold mkConv
  split <;> simp [E.den, wrapF_eq]

/-- A term that is a Bool by its head. -/
def E.isB : E → Bool
  | .bool _ | .cmp .. | .beq .. | .seq .. | .not _ => true
  | _ => false
theorem E.isB_den {x : E} (h : x.isB = true) : x.den ρ φ = .bool (vbool (x.den ρ φ)) := by
  cases x <;> simp [E.isB] at h <;> simp [E.den]

def mkNot : E → E
  | .bool b => .bool (!b)
  | .not a => if a.isB then a else .not (.not a)
  | a => .not a
theorem mkNot_den (a : E) : (mkNot a).den ρ φ = .bool (!vbool (a.den ρ φ)) := by
  unfold mkNot
  split
  · rfl
  · rename_i a
    split
    · rename_i h
      rw [E.isB_den ρ φ h]
      simp [E.den]
    · rfl
  · rfl

def mkEql (a b : E) : E :=
  match a, b with
  | .int _ x, .int _ y => .bool (intBeq x y)
  | .int k x, b => .cmp .eql b (.int k x)
  | a, b => if a.eqv b then .bool true else .cmp .eql a b
def mkLss (a b : E) : E :=
  match a, b with
  | .int _ x, .int _ y => .bool (decide (x < y))
  | a, b => if a.eqv b then .bool false else .cmp .lss a b
theorem intBeq_iff (x y : Int) : intBeq x y = (x == y) := by
  by_cases h : x = y
  · subst h
    simp only [beq_self_eq_true]
    cases x <;> simp [intBeq]
  · have h1 : (x == y) = false := by simpa using h
    rw [h1]
    cases h2 : intBeq x y with
    | false => rfl
    | true => exact absurd (intBeq_eq h2) h
theorem mkEql_den (a b : E) : (mkEql a b).den ρ φ = .bool (vint (a.den ρ φ) == vint (b.den ρ φ)) := by
  unfold mkEql
  split
  · simp [E.den, intBeq_iff]
  · simp only [E.den, icmp, vint_int]
    congr 1
    exact Bool.beq_comm
  · split
    · rename_i h
      rw [E.eqv_eq h]
      simp [E.den]
    · rfl
theorem mkLss_den (a b : E) : (mkLss a b).den ρ φ = .bool (decide (vint (a.den ρ φ) < vint (b.den ρ φ))) := by
  unfold mkLss
  split
  · rfl
  · split
    · rename_i h
      rw [E.eqv_eq h]
      simp [E.den]
    · rfl

def mkCmp (op : BinOp) (a b : E) : E :=
  match op with
  | .eql => mkEql a b
  | .neq => mkNot (mkEql a b)
  | .lss => mkLss a b
  | .gtr => mkLss b a
  | .leq => mkNot (mkLss b a)
  | .geq => mkNot (mkLss a b)
  | op => .cmp op a b
theorem mkCmp_den (op : BinOp) (a b : E) : (mkCmp op a b).den ρ φ = .bool (icmp op (vint (a.den ρ φ)) (vint (b.den ρ φ))) := by
  cases op <;> simp only [mkCmp, mkEql_den, mkLss_den, mkNot_den, icmp, vbool_bool, E.den] <;>
    first | rfl | (congr 1; rw [Bool.eq_iff_iff]; simp <;> omega)

def mkBeq : E → E → E
  | .bool a, .bool b => .bool (a == b)
  | .bool true, b => if b.isB then b else .beq (.bool true) b
  | a, .bool true => if a.isB then a else .beq a (.bool true)
  | .bool false, b => mkNot b
  | a, .bool false => mkNot a
  | a, b => if a.eqv b then .bool true else .beq a b
theorem mkBeq_den (a b : E) : (mkBeq a b).den ρ φ = .bool (vbool (a.den ρ φ) == vbool (b.den ρ φ)) := by
  unfold mkBeq
  split
  · rfl
  · split
    · rename_i h
      rw [E.isB_den ρ φ h]
      simp [E.den]
    · rfl
  · split
    · rename_i h
      rw [E.isB_den ρ φ h]
      simp [E.den]
    · rfl
  · simp [mkNot_den, E.den]
  · simp [mkNot_den, E.den]
  · split
    · rename_i h
      rw [E.eqv_eq h]
      simp [E.den]
    · rfl

def mkSeq : E → E → E
  | .val (.string s), .val (.string t) => .bool (s.data.toList == t.data.toList)
  | a, b => if a.eqv b then .bool true else .seq a b
theorem mkSeq_den (a b : E) : (mkSeq a b).den ρ φ = .bool (vstr (a.den ρ φ) == vstr (b.den ρ φ)) := by
  unfold mkSeq
  split
  · simp only [E.den, vstr_string]
    have hs : ∀ s : ByteArray, s.toList = s.data.toList := fun s => ByteArray.toList_eq s
    rw [hs, hs]
  · split
    · rename_i h
      rw [E.eqv_eq h]
      simp [E.den]
    · rfl

/-! ### Facts -/
abbrev Facts := List (E × Bool)
def Facts.hold (fs : Facts) : Prop := ∀ p ∈ fs, p.1.den ρ φ = .bool p.2

def Facts.look (c : E) : Facts → Option Bool
  | [] => none
  | (e, b) :: fs => if e.eqv c then some b else Facts.look c fs
theorem Facts.look_sound {c : E} {b : Bool} : ∀ {fs : Facts}, fs.hold ρ φ → fs.look c = some b → c.den ρ φ = .bool b := by
  intro fs
  induction fs with
  | nil => intro _ h; simp [Facts.look] at h
  | cons p fs ih =>
    obtain ⟨e, b'⟩ := p
    intro H h
    simp only [Facts.look] at h
    split at h
    · rename_i he
      rw [← E.eqv_eq he]
      have := H (e, b') (by simp)
      simp at h
      rw [this, h]
    · exact ih (fun p hp => H p (by simp [hp])) h

/-- What is known of the least and the greatest number of a term. -/
def upd (lo : Option Int) (n : Int) : Option Int := match lo with | none => some n | some m => if decide (m < n) then some n else some m
def updH (hi : Option Int) (n : Int) : Option Int := match hi with | none => some n | some m => if decide (n < m) then some n else some m
def Facts.bounds (x : E) : Facts → Option Int × Option Int
  | [] => (none, none)
  | (e, b) :: fs =>
    let r := Facts.bounds x fs
    match e, b with
    | .cmp .eql y (.int _ n), true => if y.eqv x then (upd r.1 n, updH r.2 n) else r
    | .cmp .lss y (.int _ n), true => if y.eqv x then (r.1, updH r.2 (n - 1)) else r
    | .cmp .lss y (.int _ n), false => if y.eqv x then (upd r.1 n, r.2) else r
    | .cmp .lss (.int _ n) y, true => if y.eqv x then (upd r.1 (n + 1), r.2) else r
    | .cmp .lss (.int _ n) y, false => if y.eqv x then (r.1, updH r.2 n) else r
    | _, _ => r
def inB (r : Option Int × Option Int) (v : Int) : Prop := (∀ n, r.1 = some n → n ≤ v) ∧ (∀ n, r.2 = some n → v ≤ n)
theorem upd_le {lo : Option Int} {n v : Int} (h : ∀ m, lo = some m → m ≤ v) (hn : n ≤ v) : ∀ m, upd lo n = some m → m ≤ v := by
  intro m hm
  unfold upd at hm
  split at hm
  · simp at hm; omega
  · rename_i k
    have := h k rfl
    split at hm <;> simp at hm <;> omega
theorem updH_le {hi : Option Int} {n v : Int} (h : ∀ m, hi = some m → v ≤ m) (hn : v ≤ n) : ∀ m, updH hi n = some m → v ≤ m := by
  intro m hm
  unfold updH at hm
  split at hm
  · simp at hm; omega
  · rename_i k
    have := h k rfl
    split at hm <;> simp at hm <;> omega
theorem Facts.bounds_sound (x : E) : ∀ {fs : Facts}, fs.hold ρ φ → inB (fs.bounds x) (vint (x.den ρ φ)) := by
  intro fs
  induction fs with
  | nil => intro _; exact ⟨by simp [Facts.bounds], by simp [Facts.bounds]⟩
  | cons p fs ih =>
    obtain ⟨e, b⟩ := p
    intro H
    have hp := H (e, b) (by simp)
    have hr := ih (fun p hp => H p (by simp [hp]))
    simp only at hp
    simp only [Facts.bounds]
    split
    · split
      · rename_i hy
        have hy := E.eqv_eq hy
        subst hy
        simp [E.den, icmp] at hp
        exact ⟨upd_le hr.1 (by omega), updH_le hr.2 (by omega)⟩
      · exact hr
    · split
      · rename_i hy
        have hy := E.eqv_eq hy
        subst hy
        simp [E.den, icmp] at hp
        replace hp := of_decide_eq_true hp
        exact ⟨hr.1, updH_le hr.2 (by omega)⟩
      · exact hr
    · split
      · rename_i hy
        have hy := E.eqv_eq hy
        subst hy
        simp [E.den, icmp] at hp
        replace hp := of_decide_eq_false hp
        exact ⟨upd_le hr.1 (by omega), hr.2⟩
      · exact hr
    · split
      · rename_i hy
        have hy := E.eqv_eq hy
        subst hy
        simp [E.den, icmp] at hp
        replace hp := of_decide_eq_true hp
        exact ⟨upd_le hr.1 (by omega), hr.2⟩
      · exact hr
    · split
      · rename_i hy
        have hy := E.eqv_eq hy
        subst hy
        simp [E.den, icmp] at hp
        replace hp := of_decide_eq_false hp
        exact ⟨hr.1, updH_le hr.2 (by omega)⟩
      · exact hr
    · exact hr

def ltO (n : Int) : Option Int → Bool | some l => decide (n < l) | none => false
def gtO (n : Int) : Option Int → Bool | some h => decide (h < n) | none => false
def isO (n : Int) : Option Int → Bool | some h => intBeq h n | none => false
theorem ltO_sound {n v : Int} {lo : Option Int} (h : ∀ m, lo = some m → m ≤ v) (hl : ltO n lo = true) : n < v := by
  cases lo with
  | none => simp [ltO] at hl
  | some l => have := h l rfl; simp [ltO] at hl; omega
theorem gtO_sound {n v : Int} {hi : Option Int} (h : ∀ m, hi = some m → v ≤ m) (hl : gtO n hi = true) : v < n := by
  cases hi with
  | none => simp [gtO] at hl
  | some l => have := h l rfl; simp [gtO] at hl; omega
theorem isO_lo {n v : Int} {lo : Option Int} (h : ∀ m, lo = some m → m ≤ v) (hl : isO n lo = true) : n ≤ v := by
  cases lo with
  | none => simp [isO] at hl
  | some l => have := h l rfl; simp [isO, intBeq_iff] at hl; omega
theorem isO_hi {n v : Int} {hi : Option Int} (h : ∀ m, hi = some m → v ≤ m) (hl : isO n hi = true) : v ≤ n := by
  cases hi with
  | none => simp [isO] at hl
  | some l => have := h l rfl; simp [isO, intBeq_iff] at hl; omega

def boundsDecide (fs : Facts) : E → Option Bool
  | .cmp .eql x (.int _ n) =>
    let r := fs.bounds x
    if ltO n r.1 || gtO n r.2 then some false else if isO n r.1 && isO n r.2 then some true else none
  | .cmp .lss (.int _ n) x =>
    let r := fs.bounds x
    if ltO n r.1 then some true else if gtO (n + 1) r.2 then some false else none
  | .cmp .lss x (.int _ n) =>
    let r := fs.bounds x
    if gtO n r.2 then some true else if ltO (n - 1) r.1 then some false else none
  | _ => none
theorem boundsDecide_sound {fs : Facts} (H : fs.hold ρ φ) {c : E} {b : Bool} (h : boundsDecide fs c = some b) : c.den ρ φ = .bool b := by
  unfold boundsDecide at h
  split at h
  · rename_i x k n
    have hb := Facts.bounds_sound ρ φ x H
    simp only [E.den, icmp, vint_int]
    simp only at h
    split at h
    · rename_i hc
      rw [Bool.or_eq_true] at hc
      simp only [Option.some.injEq] at h
      subst h
      congr 1
      simp only [beq_eq_false_iff_ne, ne_eq]
      rcases hc with hc | hc
      · have := ltO_sound hb.1 hc; omega
      · have := gtO_sound hb.2 hc; omega
    · split at h
      · rename_i hc
        rw [Bool.and_eq_true] at hc
        simp only [Option.some.injEq] at h
        subst h
        have h1 := isO_lo hb.1 hc.1
        have h2 := isO_hi hb.2 hc.2
        congr 1
        simp only [beq_iff_eq]
        omega
      · simp at h
  · rename_i k n x
    have hb := Facts.bounds_sound ρ φ x H
    simp only [E.den, icmp, vint_int]
    simp only at h
    split at h
    · rename_i hc
      simp only [Option.some.injEq] at h
      subst h
      have := ltO_sound hb.1 hc
      exact congrArg Value.bool (decide_eq_true this)
    · split at h
      · rename_i hc
        simp only [Option.some.injEq] at h
        subst h
        have := gtO_sound hb.2 hc
        exact congrArg Value.bool (decide_eq_false (by omega))
      · simp at h
  · rename_i x k n _
    have hb := Facts.bounds_sound ρ φ x H
    simp only [E.den, icmp, vint_int]
    simp only at h
    split at h
    · rename_i hc
      simp only [Option.some.injEq] at h
      subst h
      have := gtO_sound hb.2 hc
      exact congrArg Value.bool (decide_eq_true this)
    · split at h
      · rename_i hc
        simp only [Option.some.injEq] at h
        subst h
        have := ltO_sound hb.1 hc
        exact congrArg Value.bool (decide_eq_false (by omega))
      · simp at h
  · simp at h

/-- What a condition is, by the facts. -/
def decideF (fs : Facts) : E → Option Bool
  | .bool b => some b
  | .not a => (decideF fs a).map (!·)
  | .ite c a b => match decideF fs c with
    | some true => decideF fs a
    | some false => decideF fs b
    | none => fs.look (.ite c a b)
  | c => match fs.look c with
    | some b => some b
    | none => boundsDecide fs c
theorem decideF_sound {fs : Facts} (H : fs.hold ρ φ) : ∀ {c : E} {b : Bool}, decideF fs c = some b → c.den ρ φ = .bool b := by
  intro c
  have gen : ∀ (c : E) (b : Bool), (match fs.look c with | some b => some b | none => boundsDecide fs c) = some b → c.den ρ φ = .bool b := by
    intro c b h
    split at h
    · rename_i b' hb
      simp at h
      subst h
      exact Facts.look_sound ρ φ H hb
    · exact boundsDecide_sound ρ φ H h
  induction c with
  | bool b => intro b' h; simp [decideF] at h; subst h; rfl
  | not a ih =>
    intro b h
    simp only [decideF, Option.map_eq_some_iff] at h
    obtain ⟨b', h1, h2⟩ := h
    simp only [E.den, ih h1, vbool_bool, h2]
  | ite c x y ihc ihx ihy =>
    intro b h
    simp only [decideF] at h
    split at h
    · rename_i hc
      simp only [E.den, ihc hc, vbool_bool, if_true]
      exact ihx h
    · rename_i hc
      simp only [E.den, ihc hc, vbool_bool, Bool.false_eq_true, if_false]
      exact ihy h
    · exact Facts.look_sound ρ φ H h
  | _ => intro b h; exact gen _ b h

theorem vbool_true {v : Value} (h : vbool v = true) : v = .bool true := by
  cases v <;> simp [vbool] at h
  rw [h]

def oF (o : Option Int) (f : Int → E × Bool) : Facts := match o with
  | some u => [f u]
  | none => []
theorem oF_mem {o : Option Int} {f : Int → E × Bool} {p : E × Bool} (h : p ∈ oF o f) : ∃ u, o = some u ∧ p = f u := by
  cases o with
  | none => simp [oF] at h
  | some u => exact ⟨u, rfl, by simpa [oF] using h⟩
/-- A bound that is not met. -/
def nextF (x : E) : E → Option Int × Option Int → Facts
  | .int _ n, r => (if isO n r.1 then [(.cmp .lss x (.int .i64 (n + 1)), false)] else []) ++ (if isO n r.2 then [(.cmp .lss (.int .i64 (n - 1)) x, false)] else [])
  | _, _ => []
theorem isO_eq {n : Int} {o : Option Int} (h : isO n o = true) : o = some n := by
  cases o with
  | none => simp [isO] at h
  | some m =>
    simp only [isO, intBeq_iff] at h
    rw [eq_of_beq h]
theorem nextF_hold {x y : E} {r : Option Int × Option Int} (hr : inB r (vint (x.den ρ φ))) (h : vint (x.den ρ φ) ≠ vint (y.den ρ φ)) : Facts.hold ρ φ (nextF x y r) := by
  intro p hp
  unfold nextF at hp
  split at hp
  · rename_i k n
    simp only [E.den, vint_int] at h
    rcases List.mem_append.1 hp with hp | hp
    · split at hp
      · rename_i hb
        have := hr.1 n (isO_eq hb)
        simp only [List.mem_singleton] at hp
        subst hp
        simp only [E.den, icmp, vint_int]
        exact congrArg Value.bool (decide_eq_false (by omega))
      · simp at hp
    · split at hp
      · rename_i hb
        have := hr.2 n (isO_eq hb)
        simp only [List.mem_singleton] at hp
        subst hp
        simp only [E.den, icmp, vint_int]
        exact congrArg Value.bool (decide_eq_false (by omega))
      · simp at hp
  · simp at hp
/-- What a comparison says of the bounds of its sides. -/
def moreFacts (fs : Facts) : E → Bool → Facts
  | .cmp .lss x y, true => oF (fs.bounds y).2 (fun u => (.cmp .lss (.int .i64 (u - 1)) x, false)) ++ oF (fs.bounds x).1 (fun l => (.cmp .lss y (.int .i64 (l + 1)), false))
  | .cmp .lss x y, false => oF (fs.bounds y).1 (fun l => (.cmp .lss x (.int .i64 l), false)) ++ oF (fs.bounds x).2 (fun u => (.cmp .lss (.int .i64 u) y, false))
  | .cmp .eql x y, false =>
    (match fs.look (.cmp .lss y x) with
      | some false => [(.cmp .lss x y, true)]
      | _ => []) ++
    (match fs.look (.cmp .lss x y) with
      | some false => [(.cmp .lss y x, true)]
      | _ => []) ++ nextF x y (fs.bounds x)
  | _, _ => []
theorem moreFacts_hold {fs : Facts} (H : fs.hold ρ φ) {c : E} {b : Bool} (h : c.den ρ φ = .bool b) : Facts.hold ρ φ (moreFacts fs c b) := by
  intro p hp
  unfold moreFacts at hp
  split at hp
  · rename_i x y
    simp only [E.den, icmp, Value.bool.injEq, decide_eq_true_eq] at h
    have hx := Facts.bounds_sound ρ φ x H
    have hy := Facts.bounds_sound ρ φ y H
    rcases List.mem_append.1 hp with hp | hp
    · obtain ⟨u, hu, rfl⟩ := oF_mem hp
      have := hy.2 u hu
      simp only [E.den, icmp, vint_int]
      exact congrArg Value.bool (decide_eq_false (by omega))
    · obtain ⟨l, hl, rfl⟩ := oF_mem hp
      have := hx.1 l hl
      simp only [E.den, icmp, vint_int]
      exact congrArg Value.bool (decide_eq_false (by omega))
  · rename_i x y
    simp only [E.den, icmp, Value.bool.injEq, decide_eq_false_iff_not] at h
    have hx := Facts.bounds_sound ρ φ x H
    have hy := Facts.bounds_sound ρ φ y H
    rcases List.mem_append.1 hp with hp | hp
    · obtain ⟨l, hl, rfl⟩ := oF_mem hp
      have := hy.1 l hl
      simp only [E.den, icmp, vint_int]
      exact congrArg Value.bool (decide_eq_false (by omega))
    · obtain ⟨u, hu, rfl⟩ := oF_mem hp
      have := hx.2 u hu
      simp only [E.den, icmp, vint_int]
      exact congrArg Value.bool (decide_eq_false (by omega))
  · rename_i x y
    simp only [E.den, icmp, Value.bool.injEq, beq_eq_false_iff_ne] at h
    have hx := Facts.bounds_sound ρ φ x H
    rcases List.mem_append.1 hp with hp | hp
    · rcases List.mem_append.1 hp with hp | hp
      · split at hp
        · rename_i hl
          have := Facts.look_sound ρ φ H hl
          simp only [E.den, icmp, Value.bool.injEq, decide_eq_false_iff_not] at this
          simp only [List.mem_singleton] at hp
          subst hp
          simp only [E.den, icmp]
          exact congrArg Value.bool (decide_eq_true (by omega))
        · simp at hp
      · split at hp
        · rename_i hl
          have := Facts.look_sound ρ φ H hl
          simp only [E.den, icmp, Value.bool.injEq, decide_eq_false_iff_not] at this
          simp only [List.mem_singleton] at hp
          subst hp
          simp only [E.den, icmp]
          exact congrArg Value.bool (decide_eq_true (by omega))
        · simp at hp
    · exact nextF_hold ρ φ hx h p hp
  · simp at hp
/-- One fact more, taken apart where it is an 'and', a 'not'. -/
def addFact : E → Bool → Facts → Facts
  | .not a, b, fs => if a.isB then addFact a (!b) fs else (.not a, b) :: fs
  | .ite a x (.bool false), true, fs => addFact a true (addFact x true fs)
  | .ite a (.bool true) y, false, fs => if a.isB && y.isB then addFact a false (addFact y false fs) else (.ite a (.bool true) y, false) :: fs
  | c, b, fs => (c, b) :: (moreFacts fs c b ++ fs)
theorem addFact_hold : ∀ (c : E) (b : Bool) {fs : Facts}, fs.hold ρ φ → c.den ρ φ = .bool b → (addFact c b fs).hold ρ φ := by
  intro c
  have gen0 : ∀ (c : E) (b : Bool) {fs : Facts}, fs.hold ρ φ → c.den ρ φ = .bool b → Facts.hold ρ φ ((c, b) :: fs) := by
    intro c b fs H h p hp
    rcases List.mem_cons.1 hp with rfl | hp
    · exact h
    · exact H p hp
  have gen : ∀ (c : E) (b : Bool) {fs : Facts}, fs.hold ρ φ → c.den ρ φ = .bool b → Facts.hold ρ φ ((c, b) :: (moreFacts fs c b ++ fs)) := by
    intro c b fs H h p hp
    rcases List.mem_cons.1 hp with rfl | hp
    · exact h
    · rcases List.mem_append.1 hp with hp | hp
      · exact moreFacts_hold ρ φ H h p hp
      · exact H p hp
  induction c with
  | not a ih =>
    intro b fs H h
    simp only [addFact]
    split
    · rename_i hb
      refine ih (!b) H ?_
      rw [E.isB_den ρ φ hb]
      simp only [E.den, Value.bool.injEq] at h
      rw [← h]
      simp
    · exact gen0 _ b H h
  | ite a x y iha ihx ihy =>
    intro b fs H h
    unfold addFact
    split
    · rename_i heq
      cases heq
    · rename_i heq
      cases heq
      have h1 : vbool (a.den ρ φ) = true := by
        cases hq : vbool (a.den ρ φ) with
        | true => rfl
        | false => simp [E.den, hq] at h
      simp only [E.den, h1, if_true] at h
      exact iha true (ihx true H h) (vbool_true h1)
    · rename_i heq
      cases heq
      split
      · rename_i hab
        rw [Bool.and_eq_true] at hab
        have h1 : vbool (a.den ρ φ) = false := by
          cases hq : vbool (a.den ρ φ) with
          | false => rfl
          | true => simp [E.den, hq] at h
        simp only [E.den, h1, Bool.false_eq_true, if_false] at h
        exact iha false (ihy false H h) (by rw [E.isB_den ρ φ hab.1, h1])
      · exact gen0 _ false H h
    · exact gen _ _ H h
  | _ => intro b fs H h; exact gen _ b H h
end
end Go.SX
