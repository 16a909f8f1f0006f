/- SX, a walk that the kernel carries out: terms, what they denote, facts. No program is named here. -/
import Derived.WalkKit
import Derived.Orders
import Derived.KernelRfl
import Derived.Laws.CopyRow
import Derived.Laws.StructEq
import Derived.Below
namespace Go.SX
open Go

/-- What a term's value is. -/
inductive So where
  | int (k : IntKind) | bool | str | one | any
  deriving DecidableEq, Inhabited

/-- The least and the greatest of a kind. -/
def lowOf : IntKind → Int
  | .i8 => -128 | .i16 => -32768 | .i32 => -2147483648 | .i64 => -9223372036854775808 | _ => 0
def highOf : IntKind → Int
  | .i8 => 127 | .i16 => 32767 | .i32 => 2147483647 | .i64 => 9223372036854775807
  | .u8 => 255 | .u16 => 65535 | .u32 => 4294967295 | .u64 => 18446744073709551615
theorem wrap_range (k : IntKind) (n : Int) : lowOf k ≤ k.wrap n ∧ k.wrap n ≤ highOf k := by
  cases k <;> simp [lowOf, highOf, IntKind.wrap, IntKind.bits, IntKind.signed] <;> omega
theorem wrap_id {k : IntKind} {n : Int} (h1 : lowOf k ≤ n) (h2 : n ≤ highOf k) : k.wrap n = n := by
  cases k <;> simp [lowOf, highOf] at h1 h2 <;> simp [IntKind.wrap, IntKind.bits, IntKind.signed] <;> omega

def So.has : So → Value → Prop
  | .int k, v => ∃ n, v = .int k n ∧ lowOf k ≤ n ∧ n ≤ highOf k
  | .bool, v => ∃ b, v = .bool b
  | .str, v => ∃ s, v = .string s ∧ s.size ≤ 140737488355328
  | .one, v => v.oneCell' = true
  | .any, _ => True

theorem So.has_one {s : So} {v : Value} (h : s.has v) (hs : s ≠ .any) : v.oneCell' = true := by
  cases s with
  | int k => obtain ⟨n, rfl, _⟩ := h; rfl
  | bool => obtain ⟨n, rfl⟩ := h; rfl
  | str => obtain ⟨n, rfl, _⟩ := h; rfl
  | one => exact h
  | any => exact absurd rfl hs

/-- Terms. 'nil' and 'cons' make lists of terms. -/
inductive E where
  | var (i : Nat) | int (k : IntKind) (n : Int) | bool (b : Bool) | val (v : Value)
  | bin (op : BinOp) (k : IntKind) (a b : E)
  | shf (op : BinOp) (k : IntKind) (a b : E)
  | cmp (op : BinOp) (a b : E)
  | beq (a b : E) | seq (a b : E) | not (a : E)
  | conv (k : IntKind) (a : E)
  | ite (c a b : E)
  | idx (i l : E)
  | app (f j : Nat) (args : E)
  | nil | cons (a b : E)
  | len (a : E) | byte (s i : E) | cut (s lo hi : E)
  | tup (l : E) | el (g i : E) (sz off : Nat) (s : So)
  deriving Inhabited

def vint : Value → Int | .int _ n => n | _ => 0
def vbool : Value → Bool | .bool b => b | _ => false
def vstr : Value → List UInt8 | .string s => s.toList | _ => []
@[simp] theorem vint_int (k : IntKind) (n : Int) : vint (.int k n) = n := rfl
@[simp] theorem vbool_bool (b : Bool) : vbool (.bool b) = b := rfl
@[simp] theorem vstr_string (s : ByteArray) : vstr (.string s) = s.toList := rfl

def vtup : Value → List Value | .tuple vs => vs.toList | _ => []
/-- A length that is an int for sure. -/
def vlen : Value → Nat
  | .string s => if s.size ≤ 4611686018427387904 then s.size else 0
  | .slice _ n _ => if n ≤ 4611686018427387904 then n else 0
  | _ => 0
theorem vlen_le (v : Value) : vlen v ≤ 4611686018427387904 := by
  unfold vlen
  split <;> first | (split <;> omega) | omega
def vcut (v : Value) (lo hi : Nat) : Value :=
  match v with
  | .string s => .string (s.extract lo hi)
  | v => v
def coe : So → Value → Value
  | .int k, v => .int k (k.wrap (vint v))
  | .bool, v => .bool (vbool v)
  | .str, v => match v with
    | .string s => if s.size ≤ 140737488355328 then .string s else .string ⟨#[]⟩
    | _ => .string ⟨#[]⟩
  | .one, v => if v.oneCell' then v else .nilFunc
  | .any, v => v
theorem coe_has (s : So) (v : Value) : s.has (coe s v) := by
  cases s with
  | int k => exact ⟨_, rfl, wrap_range k _⟩
  | bool => exact ⟨_, rfl⟩
  | str =>
    cases v
    case string s =>
      simp only [coe]
      split
      · exact ⟨_, rfl, by assumption⟩
      · exact ⟨_, rfl, Nat.zero_le _⟩
    all_goals exact ⟨_, rfl, Nat.zero_le _⟩
  | one =>
    simp only [coe, So.has]
    split
    · assumption
    · rfl
  | any => trivial
theorem coe_id {s : So} {v : Value} (h : s.has v) : coe s v = v := by
  cases s with
  | int k => obtain ⟨n, rfl, h1, h2⟩ := h; simp [coe, wrap_id h1 h2]
  | bool => obtain ⟨b, rfl⟩ := h; rfl
  | str => obtain ⟨b, rfl, hb⟩ := h; simp [coe, hb]
  | one => have h : v.oneCell' = true := h; simp [coe, h]
  | any => rfl

def ibin (op : BinOp) (k : IntKind) (x y : Int) : Int :=
  match op with
  | .add => k.wrap (x + y)
  | .sub => k.wrap (x - y)
  | .mul => k.wrap (x * y)
  | .quo => k.wrap (x.tdiv y)
  | .rem => x.tmod y
  | op => bits op k x y

def ishf (op : BinOp) (k : IntKind) (x y : Int) : Int :=
  match op with
  | .shl => k.wrap (x * 2 ^ (min y.toNat k.bits))
  | _ => x.fdiv (2 ^ (min y.toNat k.bits))

def icmp (op : BinOp) (x y : Int) : Bool :=
  match op with
  | .eql => x == y | .neq => x != y | .lss => decide (x < y) | .leq => decide (x ≤ y) | .gtr => decide (x > y) | .geq => decide (x ≥ y)
  | _ => false

section
variable (ρ : Nat → Value) (φ : Nat → List Value → List Value)
mutual
def E.den : E → Value
  | .var i => ρ i
  | .int k n => .int k n
  | .bool b => .bool b
  | .val v => v
  | .bin op k a b => .int k (ibin op k (vint a.den) (vint b.den))
  | .shf op k a b => .int k (ishf op k (vint a.den) (vint b.den))
  | .cmp op a b => .bool (icmp op (vint a.den) (vint b.den))
  | .beq a b => .bool (vbool a.den == vbool b.den)
  | .seq a b => .bool (vstr a.den == vstr b.den)
  | .not a => .bool (!vbool a.den)
  | .conv k a => .int k (k.wrap (vint a.den))
  | .ite c a b => if vbool c.den then a.den else b.den
  | .idx i l => l.dens.getD (vint i.den).toNat (l.dens.headD undef)
  | .app f j args => (φ f args.dens).getD j undef
  | .nil => undef
  | .cons _ _ => undef
  | .len a => .int .i64 (vlen a.den)
  | .byte s i => .int .u8 ((vstr s.den).getD (vint i.den).toNat 0).toNat
  | .cut s lo hi => vcut s.den (vint lo.den).toNat (vint hi.den).toNat
  | .tup l => .tuple l.dens.toArray
  | .el g i sz off s => coe s ((vtup g.den).getD ((vint i.den).toNat * sz + off) undef)
def E.dens : E → List Value
  | .cons a b => a.den :: b.dens
  | _ => []
end
end

/-- Equal terms, as far as it is seen at once. -/
def valBeq : Value → Value → Bool
  | .string s, .string t => s.data.toList == t.data.toList
  | _, _ => false

theorem valBeq_eq {a b : Value} (h : valBeq a b = true) : a = b := by
  unfold valBeq at h
  split at h
  · rename_i s t
    have h' : s.data.toList = t.data.toList := by simpa using h
    cases s; cases t
    simp at h'
    simp [h']
  · exact absurd h (by simp)

def intBeq : Int → Int → Bool
  | .ofNat a, .ofNat b => Nat.beq a b
  | .negSucc a, .negSucc b => Nat.beq a b
  | _, _ => false
theorem intBeq_eq {a b : Int} (h : intBeq a b = true) : a = b := by
  unfold intBeq at h
  split at h
  · simp only [Nat.beq_eq] at h; rw [h]
  · simp only [Nat.beq_eq] at h; rw [h]
  · exact absurd h (by simp)

def kNum : IntKind → Nat
  | .i8 => 0 | .i16 => 1 | .i32 => 2 | .i64 => 3 | .u8 => 4 | .u16 => 5 | .u32 => 6 | .u64 => 7
def kBeq (a b : IntKind) : Bool := Nat.beq (kNum a) (kNum b)
theorem kBeq_eq {a b : IntKind} (h : kBeq a b = true) : a = b := by
  cases a <;> cases b <;> first | rfl | exact absurd h (by decide)

def oNum : BinOp → Nat
  | .add => 0 | .sub => 1 | .mul => 2 | .quo => 3 | .rem => 4 | .and => 5 | .or => 6 | .xor => 7 | .shl => 8 | .shr => 9 | .andNot => 10
  | .eql => 11 | .neq => 12 | .lss => 13 | .leq => 14 | .gtr => 15 | .geq => 16
def oBeq (a b : BinOp) : Bool := Nat.beq (oNum a) (oNum b)
theorem oBeq_eq {a b : BinOp} (h : oBeq a b = true) : a = b := by
  cases a <;> cases b <;> first | rfl | exact absurd h (by decide)

def E.eqv : E → E → Bool
  | .var i, .var j => Nat.beq i j
  | .int k n, .int k' n' => kBeq k k' && intBeq n n'
  | .bool a, .bool b => a == b
  | .val a, .val b => valBeq a b
  | .bin o k a b, .bin o' k' a' b' => oBeq o o' && kBeq k k' && a.eqv a' && b.eqv b'
  | .shf o k a b, .shf o' k' a' b' => oBeq o o' && kBeq k k' && a.eqv a' && b.eqv b'
  | .cmp o a b, .cmp o' a' b' => oBeq o o' && a.eqv a' && b.eqv b'
  | .beq a b, .beq a' b' => a.eqv a' && b.eqv b'
  | .seq a b, .seq a' b' => a.eqv a' && b.eqv b'
  | .not a, .not a' => a.eqv a'
  | .conv k a, .conv k' a' => kBeq k k' && a.eqv a'
  | .ite c a b, .ite c' a' b' => c.eqv c' && a.eqv a' && b.eqv b'
  | .idx i l, .idx i' l' => i.eqv i' && l.eqv l'
  | .app f j a, .app f' j' a' => Nat.beq f f' && Nat.beq j j' && a.eqv a'
  | .nil, .nil => true
  | .cons a b, .cons a' b' => a.eqv a' && b.eqv b'
  | .len a, .len a' => a.eqv a'
  | .byte a b, .byte a' b' => a.eqv a' && b.eqv b'
  | .cut a b c, .cut a' b' c' => a.eqv a' && b.eqv b' && c.eqv c'
  | .tup a, .tup a' => a.eqv a'
  | .el g i sz off s, .el g' i' sz' off' s' => Nat.beq sz sz' && Nat.beq off off' && decide (s = s') && g.eqv g' && i.eqv i'
  | _, _ => false

theorem E.eqv_eq : ∀ {a b : E}, a.eqv b = true → a = b := by
  intro a
  induction a with
  | var i => intro b h; cases b <;> simp [E.eqv] at h; rw [h]
  | int k n => intro b h; cases b <;> simp [E.eqv] at h; rw [kBeq_eq h.1, intBeq_eq h.2]
  | bool x => intro b h; cases b <;> simp [E.eqv] at h; rw [h]
  | val v => intro b h; cases b <;> simp [E.eqv] at h; rw [valBeq_eq h]
  | bin o k a b iha ihb => intro c h; cases c <;> simp [E.eqv] at h; rw [oBeq_eq h.1.1.1, kBeq_eq h.1.1.2, iha h.1.2, ihb h.2]
  | shf o k a b iha ihb => intro c h; cases c <;> simp [E.eqv] at h; rw [oBeq_eq h.1.1.1, kBeq_eq h.1.1.2, iha h.1.2, ihb h.2]
  | cmp o a b iha ihb => intro c h; cases c <;> simp [E.eqv] at h; rw [oBeq_eq h.1.1, iha h.1.2, ihb h.2]
  | beq a b iha ihb => intro c h; cases c <;> simp [E.eqv] at h; rw [iha h.1, ihb h.2]
  | seq a b iha ihb => intro c h; cases c <;> simp [E.eqv] at h; rw [iha h.1, ihb h.2]
  | not a iha => intro c h; cases c <;> simp [E.eqv] at h; rw [iha h]
  | conv k a iha => intro c h; cases c <;> simp [E.eqv] at h; rw [kBeq_eq h.1, iha h.2]
  | ite c a b ihc iha ihb => intro d h; cases d <;> simp [E.eqv] at h; rw [ihc h.1.1, iha h.1.2, ihb h.2]
  | idx i l ihi ihl => intro c h; cases c <;> simp [E.eqv] at h; rw [ihi h.1, ihl h.2]
  | app f j a iha => intro c h; cases c <;> simp [E.eqv] at h; rw [h.1.1, h.1.2, iha h.2]
  | nil => intro c h; cases c <;> simp [E.eqv] at h; rfl
  | cons a b iha ihb => intro c h; cases c <;> simp [E.eqv] at h; rw [iha h.1, ihb h.2]
  | len a iha => intro c h; cases c <;> simp [E.eqv] at h; rw [iha h]
  | byte a b iha ihb => intro c h; cases c <;> simp [E.eqv] at h; rw [iha h.1, ihb h.2]
  | cut a b c iha ihb ihc => intro d h; cases d <;> simp [E.eqv] at h; rw [iha h.1.1, ihb h.1.2, ihc h.2]
  | tup a iha => intro c h; cases c <;> simp [E.eqv] at h; rw [iha h]
  | el g i sz off s ihg ihi => intro c h; cases c <;> simp [E.eqv] at h; rw [h.1.1.1.1, h.1.1.1.2, h.1.1.2, ihg h.1.2, ihi h.2]

def E.isNil : E → Bool
  | .nil => true
  | _ => false

/- Sorts. 'Γ' of the variables, 'S' of what a call gives back. 'sos': the sort of all of a list. -/
mutual
def E.so (Γ : List So) (S : Nat → Nat → So) : E → So
  | .var i => Γ.getD i .any
  | .int k n => if decide (lowOf k ≤ n) && decide (n ≤ highOf k) then .int k else .any
  | .bool _ => .bool
  | .val v => match v with
    | .string s => if Nat.ble s.size 140737488355328 then .str else .one
    | .agg _ | .tuple _ | .int _ _ => .any
    | _ => .one
  | .bin op k a _ => match op with
    | .rem => if a.so Γ S = .int k then .int k else .any
    | _ => .int k
  | .shf op k a _ => match op with
    | .shl => .int k
    | _ => if a.so Γ S = .int k then .int k else .any
  | .conv k _ => .int k
  | .cmp .. | .beq .. | .seq .. | .not _ => .bool
  | .ite _ a b => if a.so Γ S = b.so Γ S then a.so Γ S else .any
  | .idx _ l => l.sos Γ S
  | .app f j _ => S f j
  | .nil => .any
  | .cons _ _ => .any
  | .len _ => .int .i64
  | .byte _ _ => .int .u8
  | .cut s _ _ => if s.so Γ S = .str then .str else .any
  | .tup _ => .any
  | .el _ _ _ _ s => s
def E.sos (Γ : List So) (S : Nat → Nat → So) : E → So
  | .cons a b => if b.isNil then a.so Γ S else if a.so Γ S = b.sos Γ S then a.so Γ S else .any
  | _ => .any
end

/-- The environment fits its sorts. -/
structure Fits (Γ : List So) (S : Nat → Nat → So) (ρ : Nat → Value) (φ : Nat → List Value → List Value) : Prop where
  var : ∀ i, (Γ.getD i .any).has (ρ i)
  app : ∀ f j args, (S f j).has ((φ f args).getD j undef)

theorem tmod_le_self {n : Int} (h : 0 ≤ n) (m : Int) : n.tmod m ≤ n := by
  obtain ⟨a, rfl⟩ := Int.eq_ofNat_of_zero_le h
  rcases Int.eq_nat_or_neg m with ⟨b, rfl | rfl⟩
  · exact Int.ofNat_le.2 (Nat.mod_le a b)
  · rw [Int.tmod_neg]
    exact Int.ofNat_le.2 (Nat.mod_le a b)
theorem tmod_range (k : IntKind) (n m : Int) (h1 : lowOf k ≤ n) (h2 : n ≤ highOf k) : lowOf k ≤ n.tmod m ∧ n.tmod m ≤ highOf k := by
  have hlo : lowOf k ≤ 0 := by cases k <;> decide
  have hhi : 0 ≤ highOf k := by cases k <;> decide
  rcases Int.le_total 0 n with h | h
  · have a1 := Int.tmod_nonneg m h
    have a2 : n.tmod m ≤ n := tmod_le_self h m
    omega
  · have e : n.tmod m = -((-n).tmod m) := by rw [Int.neg_tmod]; simp
    have a1 := Int.tmod_nonneg m (show 0 ≤ -n by omega)
    have a2 : (-n).tmod m ≤ -n := tmod_le_self (by omega) m
    omega
theorem fdiv_range (k : IntKind) (n : Int) (m : Nat) (h1 : lowOf k ≤ n) (h2 : n ≤ highOf k) : lowOf k ≤ n.fdiv (2 ^ m) ∧ n.fdiv (2 ^ m) ≤ highOf k := by
  have hlo : lowOf k ≤ 0 := by cases k <;> decide
  have hhi : 0 ≤ highOf k := by cases k <;> decide
  have hp : (0 : Int) < 2 ^ m := Int.pow_pos (by decide)
  rw [Int.fdiv_eq_ediv_of_nonneg _ (Int.le_of_lt hp)]
  generalize (2 : Int) ^ m = q at hp
  rcases Int.le_total 0 n with h | h
  · have a1 := Int.ediv_nonneg h (Int.le_of_lt hp)
    have a2 := Int.ediv_le_self q h
    omega
  · have a1 : n / q ≤ 0 := by
      have := Int.ediv_le_ediv hp h
      simpa using this
    have a2 : n ≤ n / q := by
      rw [Int.le_ediv_iff_mul_le hp]
      have h3 : 0 ≤ (-n) * (q - 1) := Int.mul_nonneg (by omega) (by omega)
      rw [Int.mul_sub, Int.mul_one, Int.neg_mul] at h3
      omega
    omega

theorem E.so_has' {Γ : List So} {S : Nat → Nat → So} {ρ : Nat → Value} {φ : Nat → List Value → List Value} (H : Fits Γ S ρ φ) :
    ∀ (x : E), (x.so Γ S).has (x.den ρ φ) ∧ ((x.sos Γ S ≠ .any → x.dens ρ φ ≠ []) ∧ ∀ v ∈ x.dens ρ φ, (x.sos Γ S).has v) := by
  intro x
  induction x with
  | var i => exact ⟨H.var i, by simp [E.sos], by simp [E.dens]⟩
  | int k n =>
    refine ⟨?_, by simp [E.sos], by simp [E.dens]⟩
    simp only [E.so]
    split
    · rename_i h
      rw [Bool.and_eq_true] at h
      exact ⟨n, rfl, of_decide_eq_true h.1, of_decide_eq_true h.2⟩
    · trivial
  | bool b => exact ⟨⟨b, rfl⟩, by simp [E.sos], by simp [E.dens]⟩
  | val v =>
    refine ⟨?_, by simp [E.sos], by simp [E.dens]⟩
    cases v
    case string s =>
      simp only [E.so, E.den]
      split
      · rename_i h
        exact ⟨s, rfl, Nat.le_of_ble_eq_true h⟩
      · rfl
    all_goals simp [E.so, E.den, So.has, Value.oneCell']
  | bin o k a b iha _ =>
    refine ⟨?_, by simp [E.sos], by simp [E.dens]⟩
    simp only [E.so]
    split
    · split
      · rename_i ha
        have h := iha.1
        rw [ha] at h
        obtain ⟨n, hn, h1, h2⟩ := h
        refine ⟨_, rfl, ?_⟩
        simp only [ibin, hn, vint_int]
        exact tmod_range k n _ h1 h2
      · trivial
    · refine ⟨_, rfl, ?_⟩
      cases o <;> simp only [ibin, bits] <;> first | exact wrap_range k _ | (exfalso; simp_all; done)
  | shf o k a b iha _ =>
    refine ⟨?_, by simp [E.sos], by simp [E.dens]⟩
    simp only [E.so]
    split
    · exact ⟨_, rfl, wrap_range k _⟩
    · split
      · rename_i ho ha
        have h := iha.1
        rw [ha] at h
        obtain ⟨n, hn, h1, h2⟩ := h
        refine ⟨_, rfl, ?_⟩
        have e : ishf o k (vint (a.den ρ φ)) (vint (b.den ρ φ)) = n.fdiv (2 ^ (min (vint (b.den ρ φ)).toNat k.bits)) := by
          rw [hn, vint_int]
          cases o <;> first | rfl | exact absurd rfl ho
        rw [e]
        exact fdiv_range k n _ h1 h2
      · trivial
  | cmp o a b => exact ⟨⟨_, rfl⟩, by simp [E.sos], by simp [E.dens]⟩
  | beq a b => exact ⟨⟨_, rfl⟩, by simp [E.sos], by simp [E.dens]⟩
  | seq a b => exact ⟨⟨_, rfl⟩, by simp [E.sos], by simp [E.dens]⟩
  | not a => exact ⟨⟨_, rfl⟩, by simp [E.sos], by simp [E.dens]⟩
  | conv k a => exact ⟨⟨_, rfl, wrap_range k _⟩, by simp [E.sos], by simp [E.dens]⟩
  | ite c a b ihc iha ihb =>
    refine ⟨?_, by simp [E.sos], by simp [E.dens]⟩
    simp only [E.so, E.den]
    split
    · rename_i e
      split
      · exact iha.1
      · rw [e]; exact ihb.1
    · trivial
  | idx i l ihi ihl =>
    refine ⟨?_, by simp [E.sos], by simp [E.dens]⟩
    simp only [E.so, E.den]
    by_cases hs : l.sos Γ S = .any
    · rw [hs]; trivial
    · have hne := ihl.2.1 hs
      apply ihl.2.2
      cases hl : l.dens ρ φ with
      | nil => exact absurd hl hne
      | cons v vs =>
        simp only [List.headD_cons]
        cases hg : (v :: vs)[(vint (i.den ρ φ)).toNat]? with
        | none => simp [List.getD, hg]
        | some u => simp only [List.getD, hg, Option.getD_some]; exact List.mem_of_getElem? hg
  | app f j a => exact ⟨H.app _ _ _, by simp [E.sos], by simp [E.dens]⟩
  | nil => exact ⟨trivial, by simp [E.sos], by simp [E.dens]⟩
  | len a => exact ⟨⟨_, rfl, by simp [lowOf], by have := vlen_le (a.den ρ φ); simp [highOf]; omega⟩, by simp [E.sos], by simp [E.dens]⟩
  | byte a i => exact ⟨⟨_, rfl, by simp [lowOf], by
      generalize (vstr (a.den ρ φ)).getD (vint (i.den ρ φ)).toNat 0 = b
      have := b.toNat_lt
      simp only [highOf]
      omega⟩, by simp [E.sos], by simp [E.dens]⟩
  | cut a lo hi iha =>
    refine ⟨?_, by simp [E.sos], by simp [E.dens]⟩
    simp only [E.so]
    split
    · rename_i h
      have h1 := iha.1
      rw [h] at h1
      obtain ⟨s, hs, hb⟩ := h1
      refine ⟨s.extract (vint (lo.den ρ φ)).toNat (vint (hi.den ρ φ)).toNat, by simp only [E.den, hs, vcut], ?_⟩
      rw [ByteArray.size_extract]
      omega
    · trivial
  | tup l => exact ⟨trivial, by simp [E.sos], by simp [E.dens]⟩
  | el g i sz off s => exact ⟨coe_has s _, by simp [E.sos], by simp [E.dens]⟩
  | cons a b iha ihb =>
    refine ⟨trivial, by simp [E.dens], ?_⟩
    intro v hv
    simp only [E.dens, List.mem_cons] at hv
    simp only [E.sos]
    split
    · rename_i hb
      rcases hv with rfl | hv
      · exact iha.1
      · cases b <;> simp [E.isNil] at hb
        simp [E.dens] at hv
    · split
      · rename_i e
        rcases hv with rfl | hv
        · exact iha.1
        · rw [e]; exact ihb.2.2 v hv
      · trivial

theorem E.so_has {Γ : List So} {S : Nat → Nat → So} {ρ : Nat → Value} {φ : Nat → List Value → List Value} (H : Fits Γ S ρ φ) (x : E) :
    (x.so Γ S).has (x.den ρ φ) := (E.so_has' H x).1

/-! ### Terms that are made -/
/-- 'wrap' at once where the number fits. -/
def wrapF (k : IntKind) (n : Int) : Int := if decide (lowOf k ≤ n) && decide (n ≤ highOf k) then n else k.wrap n
theorem wrapF_eq (k : IntKind) (n : Int) : wrapF k n = k.wrap n := by
  unfold wrapF
  by_cases h : (decide (lowOf k ≤ n) && decide (n ≤ highOf k)) = true
  · rw [if_pos h]
    rw [Bool.and_eq_true, decide_eq_true_eq, decide_eq_true_eq] at h
    exact (wrap_id h.1 h.2).symm
  · rw [if_neg h]

section
variable (ρ : Nat → Value) (φ : Nat → List Value → List Value)

def mkBin (op : BinOp) (k : IntKind) : E → E → E
  | .int _ x, .int _ y => .int k (match op with | .add => wrapF k (x + y) | .sub => wrapF k (x - y) | .mul => wrapF k (x * y) | op => ibin op k x y)
  | a, b => .bin op k a b
theorem mkBin_den (op : BinOp) (k : IntKind) (a b : E) : (mkBin op k a b).den ρ φ = .int k (ibin op k (vint (a.den ρ φ)) (vint (b.den ρ φ))) := by
  unfold mkBin
  split
  · cases op <;> simp [E.den, ibin, wrapF_eq]
  · rfl

def mkShf (op : BinOp) (k : IntKind) : E → E → E
  | .int _ x, .int _ y => .int k (ishf op k x y)
  | a, b => .shf op k a b
theorem mkShf_den (op : BinOp) (k : IntKind) (a b : E) : (mkShf op k a b).den ρ φ = .int k (ishf op k (vint (a.den ρ φ)) (vint (b.den ρ φ))) := by
  unfold mkShf
  split <;> rfl

def mkConv (k : IntKind) : E → E
  | .int _ x => .int k (wrapF k x)
  | a => .conv k a
theorem mkConv_den (k : IntKind) (a : E) : (mkConv k a).den ρ φ = .int k (k.wrap (vint (a.den ρ φ))) := by
  unfold mkConv
  split <;> simp [E.den, wrapF_eq]

/-- A term that is a Bool by its head. -/
def E.isB : E → Bool
  | .bool _ | .cmp .. | .beq .. | .seq .. | .not _ => true
  | _ => false
theorem E.isB_den {x : E} (h : x.isB = true) : x.den ρ φ = .bool (vbool (x.den ρ φ)) := by
  cases x <;> simp [E.isB] at h <;> simp [E.den]

def mkNot : E → E
  | .bool b => .bool (!b)
  | .not a => if a.isB then a else .not (.not a)
  | a => .not a
theorem mkNot_den (a : E) : (mkNot a).den ρ φ = .bool (!vbool (a.den ρ φ)) := by
  unfold mkNot
  split
  · rfl
  · rename_i a
    split
    · rename_i h
      rw [E.isB_den ρ φ h]
      simp [E.den]
    · rfl
  · rfl

def mkEql (a b : E) : E :=
  match a, b with
  | .int _ x, .int _ y => .bool (intBeq x y)
  | .int k x, b => .cmp .eql b (.int k x)
  | a, b => if a.eqv b then .bool true else .cmp .eql a b
def mkLss (a b : E) : E :=
  match a, b with
  | .int _ x, .int _ y => .bool (decide (x < y))
  | a, b => if a.eqv b then .bool false else .cmp .lss a b
theorem intBeq_iff (x y : Int) : intBeq x y = (x == y) := by
  by_cases h : x = y
  · subst h
    simp only [beq_self_eq_true]
    cases x <;> simp [intBeq]
  · have h1 : (x == y) = false := by simpa using h
    rw [h1]
    cases h2 : intBeq x y with
    | false => rfl
    | true => exact absurd (intBeq_eq h2) h
theorem mkEql_den (a b : E) : (mkEql a b).den ρ φ = .bool (vint (a.den ρ φ) == vint (b.den ρ φ)) := by
  unfold mkEql
  split
  · simp [E.den, intBeq_iff]
  · simp only [E.den, icmp, vint_int]
    congr 1
    exact Bool.beq_comm
  · split
    · rename_i h
      rw [E.eqv_eq h]
      simp [E.den]
    · rfl
theorem mkLss_den (a b : E) : (mkLss a b).den ρ φ = .bool (decide (vint (a.den ρ φ) < vint (b.den ρ φ))) := by
  unfold mkLss
  split
  · rfl
  · split
    · rename_i h
      rw [E.eqv_eq h]
      simp [E.den]
    · rfl

def mkCmp (op : BinOp) (a b : E) : E :=
  match op with
  | .eql => mkEql a b
  | .neq => mkNot (mkEql a b)
  | .lss => mkLss a b
  | .gtr => mkLss b a
  | .leq => mkNot (mkLss b a)
  | .geq => mkNot (mkLss a b)
  | op => .cmp op a b
theorem mkCmp_den (op : BinOp) (a b : E) : (mkCmp op a b).den ρ φ = .bool (icmp op (vint (a.den ρ φ)) (vint (b.den ρ φ))) := by
  cases op <;> simp only [mkCmp, mkEql_den, mkLss_den, mkNot_den, icmp, vbool_bool, E.den] <;>
    first | rfl | (congr 1; rw [Bool.eq_iff_iff]; simp <;> omega)

def mkBeq : E → E → E
  | .bool a, .bool b => .bool (a == b)
  | .bool true, b => if b.isB then b else .beq (.bool true) b
  | a, .bool true => if a.isB then a else .beq a (.bool true)
  | .bool false, b => mkNot b
  | a, .bool false => mkNot a
  | a, b => if a.eqv b then .bool true else .beq a b
theorem mkBeq_den (a b : E) : (mkBeq a b).den ρ φ = .bool (vbool (a.den ρ φ) == vbool (b.den ρ φ)) := by
  unfold mkBeq
  split
  · rfl
  · split
    · rename_i h
      rw [E.isB_den ρ φ h]
      simp [E.den]
    · rfl
  · split
    · rename_i h
      rw [E.isB_den ρ φ h]
      simp [E.den]
    · rfl
  · simp [mkNot_den, E.den]
  · simp [mkNot_den, E.den]
  · split
    · rename_i h
      rw [E.eqv_eq h]
      simp [E.den]
    · rfl

def mkSeq : E → E → E
  | .val (.string s), .val (.string t) => .bool (s.data.toList == t.data.toList)
  | a, b => if a.eqv b then .bool true else .seq a b
theorem mkSeq_den (a b : E) : (mkSeq a b).den ρ φ = .bool (vstr (a.den ρ φ) == vstr (b.den ρ φ)) := by
  unfold mkSeq
  split
  · simp only [E.den, vstr_string]
    have hs : ∀ s : ByteArray, s.toList = s.data.toList := fun s => ByteArray.toList_eq s
    rw [hs, hs]
  · split
    · rename_i h
      rw [E.eqv_eq h]
      simp [E.den]
    · rfl

/-! ### Facts -/
abbrev Facts := List (E × Bool)
def Facts.hold (fs : Facts) : Prop := ∀ p ∈ fs, p.1.den ρ φ = .bool p.2

def Facts.look (c : E) : Facts → Option Bool
  | [] => none
  | (e, b) :: fs => if e.eqv c then some b else Facts.look c fs
theorem Facts.look_sound {c : E} {b : Bool} : ∀ {fs : Facts}, fs.hold ρ φ → fs.look c = some b → c.den ρ φ = .bool b := by
  intro fs
  induction fs with
  | nil => intro _ h; simp [Facts.look] at h
  | cons p fs ih =>
    obtain ⟨e, b'⟩ := p
    intro H h
    simp only [Facts.look] at h
    split at h
    · rename_i he
      rw [← E.eqv_eq he]
      have := H (e, b') (by simp)
      simp at h
      rw [this, h]
    · exact ih (fun p hp => H p (by simp [hp])) h

/-- What is known of the least and the greatest number of a term. -/
def upd (lo : Option Int) (n : Int) : Option Int := match lo with | none => some n | some m => if decide (m < n) then some n else some m
def updH (hi : Option Int) (n : Int) : Option Int := match hi with | none => some n | some m => if decide (n < m) then some n else some m
def Facts.bounds (x : E) : Facts → Option Int × Option Int
  | [] => (none, none)
  | (e, b) :: fs =>
    let r := Facts.bounds x fs
    match e, b with
    | .cmp .eql y (.int _ n), true => if y.eqv x then (upd r.1 n, updH r.2 n) else r
    | .cmp .lss y (.int _ n), true => if y.eqv x then (r.1, updH r.2 (n - 1)) else r
    | .cmp .lss y (.int _ n), false => if y.eqv x then (upd r.1 n, r.2) else r
    | .cmp .lss (.int _ n) y, true => if y.eqv x then (upd r.1 (n + 1), r.2) else r
    | .cmp .lss (.int _ n) y, false => if y.eqv x then (r.1, updH r.2 n) else r
    | _, _ => r
def inB (r : Option Int × Option Int) (v : Int) : Prop := (∀ n, r.1 = some n → n ≤ v) ∧ (∀ n, r.2 = some n → v ≤ n)
theorem upd_le {lo : Option Int} {n v : Int} (h : ∀ m, lo = some m → m ≤ v) (hn : n ≤ v) : ∀ m, upd lo n = some m → m ≤ v := by
  intro m hm
  unfold upd at hm
  split at hm
  · simp at hm; omega
  · rename_i k
    have := h k rfl
    split at hm <;> simp at hm <;> omega
theorem updH_le {hi : Option Int} {n v : Int} (h : ∀ m, hi = some m → v ≤ m) (hn : v ≤ n) : ∀ m, updH hi n = some m → v ≤ m := by
  intro m hm
  unfold updH at hm
  split at hm
  · simp at hm; omega
  · rename_i k
    have := h k rfl
    split at hm <;> simp at hm <;> omega
theorem Facts.bounds_sound (x : E) : ∀ {fs : Facts}, fs.hold ρ φ → inB (fs.bounds x) (vint (x.den ρ φ)) := by
  intro fs
  induction fs with
  | nil => intro _; exact ⟨by simp [Facts.bounds], by simp [Facts.bounds]⟩
  | cons p fs ih =>
    obtain ⟨e, b⟩ := p
    intro H
    have hp := H (e, b) (by simp)
    have hr := ih (fun p hp => H p (by simp [hp]))
    simp only at hp
    simp only [Facts.bounds]
    split
    · split
      · rename_i hy
        have hy := E.eqv_eq hy
        subst hy
        simp [E.den, icmp] at hp
        exact ⟨upd_le hr.1 (by omega), updH_le hr.2 (by omega)⟩
      · exact hr
    · split
      · rename_i hy
        have hy := E.eqv_eq hy
        subst hy
        simp [E.den, icmp] at hp
        replace hp := of_decide_eq_true hp
        exact ⟨hr.1, updH_le hr.2 (by omega)⟩
      · exact hr
    · split
      · rename_i hy
        have hy := E.eqv_eq hy
        subst hy
        simp [E.den, icmp] at hp
        replace hp := of_decide_eq_false hp
        exact ⟨upd_le hr.1 (by omega), hr.2⟩
      · exact hr
    · split
      · rename_i hy
        have hy := E.eqv_eq hy
        subst hy
        simp [E.den, icmp] at hp
        replace hp := of_decide_eq_true hp
        exact ⟨upd_le hr.1 (by omega), hr.2⟩
      · exact hr
    · split
      · rename_i hy
        have hy := E.eqv_eq hy
        subst hy
        simp [E.den, icmp] at hp
        replace hp := of_decide_eq_false hp
        exact ⟨hr.1, updH_le hr.2 (by omega)⟩
      · exact hr
    · exact hr

def ltO (n : Int) : Option Int → Bool | some l => decide (n < l) | none => false
def gtO (n : Int) : Option Int → Bool | some h => decide (h < n) | none => false
def isO (n : Int) : Option Int → Bool | some h => intBeq h n | none => false
theorem ltO_sound {n v : Int} {lo : Option Int} (h : ∀ m, lo = some m → m ≤ v) (hl : ltO n lo = true) : n < v := by
  cases lo with
  | none => simp [ltO] at hl
  | some l => have := h l rfl; simp [ltO] at hl; omega
theorem gtO_sound {n v : Int} {hi : Option Int} (h : ∀ m, hi = some m → v ≤ m) (hl : gtO n hi = true) : v < n := by
  cases hi with
  | none => simp [gtO] at hl
  | some l => have := h l rfl; simp [gtO] at hl; omega
theorem isO_lo {n v : Int} {lo : Option Int} (h : ∀ m, lo = some m → m ≤ v) (hl : isO n lo = true) : n ≤ v := by
  cases lo with
  | none => simp [isO] at hl
  | some l => have := h l rfl; simp [isO, intBeq_iff] at hl; omega
theorem isO_hi {n v : Int} {hi : Option Int} (h : ∀ m, hi = some m → v ≤ m) (hl : isO n hi = true) : v ≤ n := by
  cases hi with
  | none => simp [isO] at hl
  | some l => have := h l rfl; simp [isO, intBeq_iff] at hl; omega

def boundsDecide (fs : Facts) : E → Option Bool
  | .cmp .eql x (.int _ n) =>
    let r := fs.bounds x
    if ltO n r.1 || gtO n r.2 then some false else if isO n r.1 && isO n r.2 then some true else none
  | .cmp .lss (.int _ n) x =>
    let r := fs.bounds x
    if ltO n r.1 then some true else if gtO (n + 1) r.2 then some false else none
  | .cmp .lss x (.int _ n) =>
    let r := fs.bounds x
    if gtO n r.2 then some true else if ltO (n - 1) r.1 then some false else none
  | _ => none
theorem boundsDecide_sound {fs : Facts} (H : fs.hold ρ φ) {c : E} {b : Bool} (h : boundsDecide fs c = some b) : c.den ρ φ = .bool b := by
  unfold boundsDecide at h
  split at h
  · rename_i x k n
    have hb := Facts.bounds_sound ρ φ x H
    simp only [E.den, icmp, vint_int]
    simp only at h
    split at h
    · rename_i hc
      rw [Bool.or_eq_true] at hc
      simp only [Option.some.injEq] at h
      subst h
      congr 1
      simp only [beq_eq_false_iff_ne, ne_eq]
      rcases hc with hc | hc
      · have := ltO_sound hb.1 hc; omega
      · have := gtO_sound hb.2 hc; omega
    · split at h
      · rename_i hc
        rw [Bool.and_eq_true] at hc
        simp only [Option.some.injEq] at h
        subst h
        have h1 := isO_lo hb.1 hc.1
        have h2 := isO_hi hb.2 hc.2
        congr 1
        simp only [beq_iff_eq]
        omega
      · simp at h
  · rename_i k n x
    have hb := Facts.bounds_sound ρ φ x H
    simp only [E.den, icmp, vint_int]
    simp only at h
    split at h
    · rename_i hc
      simp only [Option.some.injEq] at h
      subst h
      have := ltO_sound hb.1 hc
      exact congrArg Value.bool (decide_eq_true this)
    · split at h
      · rename_i hc
        simp only [Option.some.injEq] at h
        subst h
        have := gtO_sound hb.2 hc
        exact congrArg Value.bool (decide_eq_false (by omega))
      · simp at h
  · rename_i x k n _
    have hb := Facts.bounds_sound ρ φ x H
    simp only [E.den, icmp, vint_int]
    simp only at h
    split at h
    · rename_i hc
      simp only [Option.some.injEq] at h
      subst h
      have := gtO_sound hb.2 hc
      exact congrArg Value.bool (decide_eq_true this)
    · split at h
      · rename_i hc
        simp only [Option.some.injEq] at h
        subst h
        have := ltO_sound hb.1 hc
        exact congrArg Value.bool (decide_eq_false (by omega))
      · simp at h
  · simp at h

/-- What a condition is, by the facts. -/
def decideF (fs : Facts) : E → Option Bool
  | .bool b => some b
  | .not a => (decideF fs a).map (!·)
  | .ite c a b => match decideF fs c with
    | some true => decideF fs a
    | some false => decideF fs b
    | none => fs.look (.ite c a b)
  | c => match fs.look c with
    | some b => some b
    | none => boundsDecide fs c
theorem decideF_sound {fs : Facts} (H : fs.hold ρ φ) : ∀ {c : E} {b : Bool}, decideF fs c = some b → c.den ρ φ = .bool b := by
  intro c
  have gen : ∀ (c : E) (b : Bool), (match fs.look c with | some b => some b | none => boundsDecide fs c) = some b → c.den ρ φ = .bool b := by
    intro c b h
    split at h
    · rename_i b' hb
      simp at h
      subst h
      exact Facts.look_sound ρ φ H hb
    · exact boundsDecide_sound ρ φ H h
  induction c with
  | bool b => intro b' h; simp [decideF] at h; subst h; rfl
  | not a ih =>
    intro b h
    simp only [decideF, Option.map_eq_some_iff] at h
    obtain ⟨b', h1, h2⟩ := h
    simp only [E.den, ih h1, vbool_bool, h2]
  | ite c x y ihc ihx ihy =>
    intro b h
    simp only [decideF] at h
    split at h
    · rename_i hc
      simp only [E.den, ihc hc, vbool_bool, if_true]
      exact ihx h
    · rename_i hc
      simp only [E.den, ihc hc, vbool_bool, Bool.false_eq_true, if_false]
      exact ihy h
    · exact Facts.look_sound ρ φ H h
  | _ => intro b h; exact gen _ b h

theorem vbool_true {v : Value} (h : vbool v = true) : v = .bool true := by
  cases v <;> simp [vbool] at h
  rw [h]

def oF (o : Option Int) (f : Int → E × Bool) : Facts := match o with
  | some u => [f u]
  | none => []
theorem oF_mem {o : Option Int} {f : Int → E × Bool} {p : E × Bool} (h : p ∈ oF o f) : ∃ u, o = some u ∧ p = f u := by
  cases o with
  | none => simp [oF] at h
  | some u => exact ⟨u, rfl, by simpa [oF] using h⟩
/-- A bound that is not met. -/
def nextF (x : E) : E → Option Int × Option Int → Facts
  | .int _ n, r => (if isO n r.1 then [(.cmp .lss x (.int .i64 (n + 1)), false)] else []) ++ (if isO n r.2 then [(.cmp .lss (.int .i64 (n - 1)) x, false)] else [])
  | _, _ => []
theorem isO_eq {n : Int} {o : Option Int} (h : isO n o = true) : o = some n := by
  cases o with
  | none => simp [isO] at h
  | some m =>
    simp only [isO, intBeq_iff] at h
    rw [eq_of_beq h]
theorem nextF_hold {x y : E} {r : Option Int × Option Int} (hr : inB r (vint (x.den ρ φ))) (h : vint (x.den ρ φ) ≠ vint (y.den ρ φ)) : Facts.hold ρ φ (nextF x y r) := by
  intro p hp
  unfold nextF at hp
  split at hp
  · rename_i k n
    simp only [E.den, vint_int] at h
    rcases List.mem_append.1 hp with hp | hp
    · split at hp
      · rename_i hb
        have := hr.1 n (isO_eq hb)
        simp only [List.mem_singleton] at hp
        subst hp
        simp only [E.den, icmp, vint_int]
        exact congrArg Value.bool (decide_eq_false (by omega))
      · simp at hp
    · split at hp
      · rename_i hb
        have := hr.2 n (isO_eq hb)
        simp only [List.mem_singleton] at hp
        subst hp
        simp only [E.den, icmp, vint_int]
        exact congrArg Value.bool (decide_eq_false (by omega))
      · simp at hp
  · simp at hp
/-- What a comparison says of the bounds of its sides. -/
def moreFacts (fs : Facts) : E → Bool → Facts
  | .cmp .lss x y, true => oF (fs.bounds y).2 (fun u => (.cmp .lss (.int .i64 (u - 1)) x, false)) ++ oF (fs.bounds x).1 (fun l => (.cmp .lss y (.int .i64 (l + 1)), false))
  | .cmp .lss x y, false => oF (fs.bounds y).1 (fun l => (.cmp .lss x (.int .i64 l), false)) ++ oF (fs.bounds x).2 (fun u => (.cmp .lss (.int .i64 u) y, false))
  | .cmp .eql x y, false =>
    (match fs.look (.cmp .lss y x) with
      | some false => [(.cmp .lss x y, true)]
      | _ => []) ++
    (match fs.look (.cmp .lss x y) with
      | some false => [(.cmp .lss y x, true)]
      | _ => []) ++ nextF x y (fs.bounds x)
  | _, _ => []
theorem moreFacts_hold {fs : Facts} (H : fs.hold ρ φ) {c : E} {b : Bool} (h : c.den ρ φ = .bool b) : Facts.hold ρ φ (moreFacts fs c b) := by
  intro p hp
  unfold moreFacts at hp
  split at hp
  · rename_i x y
    simp only [E.den, icmp, Value.bool.injEq, decide_eq_true_eq] at h
    have hx := Facts.bounds_sound ρ φ x H
    have hy := Facts.bounds_sound ρ φ y H
    rcases List.mem_append.1 hp with hp | hp
    · obtain ⟨u, hu, rfl⟩ := oF_mem hp
      have := hy.2 u hu
      simp only [E.den, icmp, vint_int]
      exact congrArg Value.bool (decide_eq_false (by omega))
    · obtain ⟨l, hl, rfl⟩ := oF_mem hp
      have := hx.1 l hl
      simp only [E.den, icmp, vint_int]
      exact congrArg Value.bool (decide_eq_false (by omega))
  · rename_i x y
    simp only [E.den, icmp, Value.bool.injEq, decide_eq_false_iff_not] at h
    have hx := Facts.bounds_sound ρ φ x H
    have hy := Facts.bounds_sound ρ φ y H
    rcases List.mem_append.1 hp with hp | hp
    · obtain ⟨l, hl, rfl⟩ := oF_mem hp
      have := hy.1 l hl
      simp only [E.den, icmp, vint_int]
      exact congrArg Value.bool (decide_eq_false (by omega))
    · obtain ⟨u, hu, rfl⟩ := oF_mem hp
      have := hx.2 u hu
      simp only [E.den, icmp, vint_int]
      exact congrArg Value.bool (decide_eq_false (by omega))
  · rename_i x y
    simp only [E.den, icmp, Value.bool.injEq, beq_eq_false_iff_ne] at h
    have hx := Facts.bounds_sound ρ φ x H
    rcases List.mem_append.1 hp with hp | hp
    · rcases List.mem_append.1 hp with hp | hp
      · split at hp
        · rename_i hl
          have := Facts.look_sound ρ φ H hl
          simp only [E.den, icmp, Value.bool.injEq, decide_eq_false_iff_not] at this
          simp only [List.mem_singleton] at hp
          subst hp
          simp only [E.den, icmp]
          exact congrArg Value.bool (decide_eq_true (by omega))
        · simp at hp
      · split at hp
        · rename_i hl
          have := Facts.look_sound ρ φ H hl
          simp only [E.den, icmp, Value.bool.injEq, decide_eq_false_iff_not] at this
          simp only [List.mem_singleton] at hp
          subst hp
          simp only [E.den, icmp]
          exact congrArg Value.bool (decide_eq_true (by omega))
        · simp at hp
    · exact nextF_hold ρ φ hx h p hp
  · simp at hp
/-- One fact more, taken apart where it is an 'and', a 'not'. -/
def addFact : E → Bool → Facts → Facts
  | .not a, b, fs => if a.isB then addFact a (!b) fs else (.not a, b) :: fs
  | .ite a x (.bool false), true, fs => addFact a true (addFact x true fs)
  | .ite a (.bool true) y, false, fs => if a.isB && y.isB then addFact a false (addFact y false fs) else (.ite a (.bool true) y, false) :: fs
  | c, b, fs => (c, b) :: (moreFacts fs c b ++ fs)
theorem addFact_hold : ∀ (c : E) (b : Bool) {fs : Facts}, fs.hold ρ φ → c.den ρ φ = .bool b → (addFact c b fs).hold ρ φ := by
  intro c
  have gen0 : ∀ (c : E) (b : Bool) {fs : Facts}, fs.hold ρ φ → c.den ρ φ = .bool b → Facts.hold ρ φ ((c, b) :: fs) := by
    intro c b fs H h p hp
    rcases List.mem_cons.1 hp with rfl | hp
    · exact h
    · exact H p hp
  have gen : ∀ (c : E) (b : Bool) {fs : Facts}, fs.hold ρ φ → c.den ρ φ = .bool b → Facts.hold ρ φ ((c, b) :: (moreFacts fs c b ++ fs)) := by
    intro c b fs H h p hp
    rcases List.mem_cons.1 hp with rfl | hp
    · exact h
    · rcases List.mem_append.1 hp with hp | hp
      · exact moreFacts_hold ρ φ H h p hp
      · exact H p hp
  induction c with
  | not a ih =>
    intro b fs H h
    simp only [addFact]
    split
    · rename_i hb
      refine ih (!b) H ?_
      rw [E.isB_den ρ φ hb]
      simp only [E.den, Value.bool.injEq] at h
      rw [← h]
      simp
    · exact gen0 _ b H h
  | ite a x y iha ihx ihy =>
    intro b fs H h
    unfold addFact
    split
    · rename_i heq
      cases heq
    · rename_i heq
      cases heq
      have h1 : vbool (a.den ρ φ) = true := by
        cases hq : vbool (a.den ρ φ) with
        | true => rfl
        | false => simp [E.den, hq] at h
      simp only [E.den, h1, if_true] at h
      exact iha true (ihx true H h) (vbool_true h1)
    · rename_i heq
      cases heq
      split
      · rename_i hab
        rw [Bool.and_eq_true] at hab
        have h1 : vbool (a.den ρ φ) = false := by
          cases hq : vbool (a.den ρ φ) with
          | false => rfl
          | true => simp [E.den, hq] at h
        simp only [E.den, h1, Bool.false_eq_true, if_false] at h
        exact iha false (ihy false H h) (by rw [E.isB_den ρ φ hab.1, h1])
      · exact gen0 _ false H h
    · exact gen _ _ H h
  | _ => intro b fs H h; exact gen _ b H h
end
end Go.SX

/- SX: symbolic values, the state, what it says of a frame and a world, what an operation does. -/
namespace Go.SX
open Go Go.RowKit

/-- The content of a cell: a term; an address in a block of the call's own; a slice of such a block. -/
inductive SC where
  | e (x : E) | ptr (id off : Nat) | pti (id off : Nat) (i : E) | slc (id off len cap : Nat) | vad (i : Nat) (idx : E) (sz o : Nat)
  deriving Inhabited
structure Part where
  agg : Bool
  cs : List SC
  deriving Inhabited
inductive SV where
  | one (p : Part) | tup (ps : List Part)
  deriving Inhabited

def All2 {α γ : Type} (R : α → γ → Prop) : List α → List γ → Prop
  | [], [] => True
  | a :: as, b :: bs => R a b ∧ All2 R as bs
  | _, _ => False
section
variable {α γ : Type} {R R' : α → γ → Prop}
theorem All2.mono (h : ∀ a b, R a b → R' a b) : ∀ {as : List α} {bs : List γ}, All2 R as bs → All2 R' as bs
  | [], [], _ => trivial
  | _ :: _, _ :: _, H => ⟨h _ _ H.1, All2.mono h H.2⟩
  | [], _ :: _, H => H.elim
  | _ :: _, [], H => H.elim
theorem All2.length : ∀ {as : List α} {bs : List γ}, All2 R as bs → as.length = bs.length
  | [], [], _ => rfl
  | _ :: _, _ :: _, H => by simp [All2.length H.2]
  | [], _ :: _, H => H.elim
  | _ :: _, [], H => H.elim
theorem All2.get : ∀ {as : List α} {bs : List γ} {i : Nat} {a : α}, All2 R as bs → as[i]? = some a → ∃ b, bs[i]? = some b ∧ R a b
  | [], [], i, a, _, h => by simp at h
  | a' :: as, b' :: bs, 0, a, H, h => by simp at h; subst h; exact ⟨b', rfl, H.1⟩
  | a' :: as, b' :: bs, i + 1, a, H, h => by simpa using All2.get (i := i) H.2 (by simpa using h)
  | [], _ :: _, _, _, H, _ => H.elim
  | _ :: _, [], _, _, H, _ => H.elim
theorem All2.append : ∀ {as as' : List α} {bs bs' : List γ}, All2 R as bs → All2 R as' bs' → All2 R (as ++ as') (bs ++ bs')
  | [], _, [], _, _, h => h
  | _ :: _, _, _ :: _, _, H, h => ⟨H.1, All2.append H.2 h⟩
  | [], _, _ :: _, _, H, _ => H.elim
  | _ :: _, _, [], _, H, _ => H.elim
theorem All2.take : ∀ (n : Nat) {as : List α} {bs : List γ}, All2 R as bs → All2 R (as.take n) (bs.take n)
  | 0, _, _, _ => by simp [All2]
  | _ + 1, [], [], _ => trivial
  | n + 1, _ :: _, _ :: _, H => ⟨H.1, All2.take n H.2⟩
  | _ + 1, [], _ :: _, H => H.elim
  | _ + 1, _ :: _, [], H => H.elim
theorem All2.drop : ∀ (n : Nat) {as : List α} {bs : List γ}, All2 R as bs → All2 R (as.drop n) (bs.drop n)
  | 0, _, _, H => by simpa using H
  | _ + 1, [], [], _ => trivial
  | n + 1, _ :: _, _ :: _, H => All2.drop n H.2
  | _ + 1, [], _ :: _, H => H.elim
  | _ + 1, _ :: _, [], H => H.elim
theorem All2.mem : ∀ {as : List α} {bs : List γ} {b : γ}, All2 R as bs → b ∈ bs → ∃ a ∈ as, R a b
  | [], [], b, _, h => by simp at h
  | a :: as, b' :: bs, b, H, h => by
    rcases List.mem_cons.1 h with rfl | h
    · exact ⟨a, by simp, H.1⟩
    · obtain ⟨a', ha, hr⟩ := All2.mem H.2 h
      exact ⟨a', by simp [ha], hr⟩
  | [], _ :: _, _, H, _ => H.elim
  | _ :: _, [], _, H, _ => H.elim
end

/-- 'us' laid over 'vs' from place 'off' on. -/
def spl {α : Type} (vs : List α) (off : Nat) (us : List α) : List α := vs.take off ++ us ++ vs.drop (off + us.length)

section
variable (ρ : Nat → Value) (φ : Nat → List Value → List Value) (β : Nat → Option Nat)
def SC.is : SC → Value → Prop
  | .e x, v => v = x.den ρ φ
  | .ptr id off, v => ∃ b, β id = some b ∧ v = .pointer (some ⟨b, off, none⟩)
  | .pti id off i, v => ∃ b, β id = some b ∧ v = .pointer (some ⟨b, off + (vint (i.den ρ φ)).toNat, none⟩)
  | .slc id off len cap, v => ∃ b, β id = some b ∧ v = .slice (some ⟨b, off, none⟩) len cap
  | .vad i idx sz o, v => ∃ b off n c, ρ i = .slice (some ⟨b, off, none⟩) n c ∧ v = .pointer (some ⟨b, off + (vint (idx.den ρ φ)).toNat * sz + o, none⟩)
def Part.is (p : Part) (v : Value) : Prop :=
  match p.agg, p.cs with
  | true, cs => ∃ vs : List Value, v = .agg vs.toArray ∧ All2 (SC.is ρ φ β) cs vs
  | false, [c] => c.is ρ φ β v
  | false, _ => False
def SV.is : SV → Value → Prop
  | .one p, v => p.is ρ φ β v
  | .tup ps, v => ∃ vs : List Value, v = .tuple vs.toArray ∧ All2 (Part.is ρ φ β) ps vs
end

/-- 'β'' says all that 'β' says. -/
def Ext (β β' : Nat → Option Nat) : Prop := ∀ id b, β id = some b → β' id = some b
theorem Ext.refl (β : Nat → Option Nat) : Ext β β := fun _ _ h => h
theorem Ext.trans {a b c : Nat → Option Nat} (h : Ext a b) (h' : Ext b c) : Ext a c := fun id x hx => h' id x (h id x hx)
section
variable {ρ : Nat → Value} {φ : Nat → List Value → List Value} {β β' : Nat → Option Nat} (h : Ext β β')
 include h
theorem SC.is_ext {c : SC} {v : Value} (H : c.is ρ φ β v) : c.is ρ φ β' v := by
  cases c with
  | e x => exact H
  | ptr id off => obtain ⟨b, hb, hv⟩ := H; exact ⟨b, h _ _ hb, hv⟩
  | pti id off i => obtain ⟨b, hb, hv⟩ := H; exact ⟨b, h _ _ hb, hv⟩
  | slc id off l c => obtain ⟨b, hb, hv⟩ := H; exact ⟨b, h _ _ hb, hv⟩
  | vad i idx sz o => exact H
theorem Part.is_ext {p : Part} {v : Value} (H : p.is ρ φ β v) : p.is ρ φ β' v := by
  unfold Part.is at *
  split at H
  · obtain ⟨vs, hv, ha⟩ := H; exact ⟨vs, hv, ha.mono fun _ _ => SC.is_ext h⟩
  · exact SC.is_ext h H
  · exact H
theorem SV.is_ext {s : SV} {v : Value} (H : s.is ρ φ β v) : s.is ρ φ β' v := by
  cases s with
  | one p => exact Part.is_ext h H
  | tup ps => obtain ⟨vs, hv, ha⟩ := H; exact ⟨vs, hv, ha.mono fun _ _ => Part.is_ext h⟩
end

/-- What a call takes and gives. 'row n s': a slice of n new cells. -/
inductive PK where
  | val (agg : Bool) (ss : List So)
  | sl (ss : List So)
  deriving Inhabited
inductive RK where
  | val (agg : Bool) (ss : List So)
  | row (n : Nat) (s : So)
  deriving Inhabited
structure Sig where
  f : FuncId
  sym : Nat
  ps : List PK
  rs : List RK
  pre : Facts := []
  imp : Facts := []
  fix : List (Nat × E) := []
  deriving Inhabited
def PK.sorts : PK → List So
  | .val _ ss => ss
  | .sl _ => [.int .i64, .any]
def RK.sorts : RK → List So
  | .val _ ss => ss
  | .row n s => List.replicate n s
/-- A slice that came in: its own variable, its length's, its content's; the sorts of an element. -/
structure Vw where
  i : Nat
  l : Nat
  g : Nat
  ss : List So
  deriving Inhabited
structure Cx where
  P : Program
  Γ : List So
  ct : List Sig
  vw : List Vw
  sy : List (Nat × List So)
/-- A truth decided at once (for the kernel). -/
def decT : (b : Bool) → Decidable (b = true)
  | true => isTrue rfl
  | false => isFalse (fun h => Bool.noConfusion h)
def lookA {α : Type} (k : Nat) : List (Nat × α) → Option α
  | [] => none
  | (i, x) :: r => @ite _ (Nat.beq i k = true) (decT (Nat.beq i k)) (some x) (lookA k r)
def findVw (i : Nat) : List Vw → Option Vw
  | [] => none
  | v :: vs => if Nat.beq v.i i then some v else findVw i vs
theorem findVw_mem {i : Nat} {v : Vw} : ∀ {vs : List Vw}, findVw i vs = some v → v ∈ vs ∧ v.i = i
  | [], h => by simp [findVw] at h
  | u :: vs, h => by
    simp only [findVw] at h
    split at h
    · rename_i hb
      simp only [Option.some.injEq] at h
      subst h
      exact ⟨by simp, Nat.eq_of_beq_eq_true hb⟩
    · have := findVw_mem h
      exact ⟨by simp [this.1], this.2⟩
def findFn (f : FuncId) : List Sig → Option Sig
  | [] => none
  | g :: gs => if Nat.beq g.f f then some g else findFn f gs
def symS (sy : List (Nat × List So)) (s j : Nat) : So :=
  match lookA s sy with
  | some ss => ss.getD j .any
  | none => .any
def Cx.S (cx : Cx) (s j : Nat) : So := symS cx.sy s j
def Cx.so (cx : Cx) (x : E) : So := x.so cx.Γ cx.S

/-- One cell for sure. -/
def SC.cell (cx : Cx) : SC → Bool
  | .e x => decide (cx.so x ≠ .any)
  | _ => true

/-- What an operation does: the value of its temporary; a new block's content; a store. -/
structure Dl where
  v : SV
  new : Option (List SC)
  wr : Option (Nat × Nat × List SC)
inductive OR where
  | ok (d : Dl) | split (c : E) | stuck

def constSC : Value → SC
  | .int k n => .e (.int k n)
  | .bool b => .e (.bool b)
  | v => .e (.val v)
def constSV : Value → SV
  | .agg cs => .one ⟨true, cs.toList.map constSC⟩
  | v => .one ⟨false, [constSC v]⟩
def undefSV : SV := .one ⟨false, [.e (.val undef)]⟩

abbrev LK := Nat → Option SV
abbrev BK := Nat → Option (List SC)
def opd (L : LK) : Operand → Option SV
  | .tmp t => L t
  | .const v => some (constSV v)
  | .func f => some (.one ⟨false, [.e (.val (.func (.func f) #[] #[]))]⟩)
  | .global _ => none
def SV.sc : SV → Option SC
  | .one ⟨false, [c]⟩ => some c
  | _ => none
def SV.ex (s : SV) : Option E :=
  match s.sc with
  | some (.e x) => some x
  | _ => none
def SV.cells : SV → Option (List SC)
  | .one p => some p.cs
  | .tup _ => none
def vE (x : E) : OR := .ok ⟨.one ⟨false, [.e x]⟩, none, none⟩
def vC (c : SC) : OR := .ok ⟨.one ⟨false, [c]⟩, none, none⟩
def vV (s : SV) : OR := .ok ⟨s, none, none⟩

/-- Is a type's value many cells, and how many. -/
def tyx (P : Program) (t : TypeId) : Option (Bool × Nat) :=
  match P.underlying t, P.info? t with
  | some d, some i => some (match d with | .struct _ | .array _ _ => true | _ => false, i.size)
  | _, _ => none
theorem tyx_run {P : Program} {t : TypeId} {a : Bool} {n : Nat} (h : tyx P t = some (a, n)) (w : World) :
    (isAgg t).run P w = .ok a w ∧ (sizeOf t).run P w = .ok n w := by
  unfold tyx at h
  split at h
  · rename_i d i hd hi
    simp only [Option.some.injEq, Prod.mk.injEq] at h
    obtain ⟨h1, h2⟩ := h
    constructor
    · simp only [isAgg, Sem.run_bind, run_underlying hd, Result.andThen_ok]
      subst h1
      split <;> simp_all
    · subst h2
      simp [sizeOf, typeInfo, hi]
  · simp at h

section
variable {ρ : Nat → Value} {φ : Nat → List Value → List Value} {β : Nat → Option Nat}
theorem constSC_is (v : Value) : (constSC v).is ρ φ β v := by
  unfold constSC
  split <;> simp [SC.is, E.den]
theorem constSC_all : ∀ vs : List Value, All2 (SC.is ρ φ β) (vs.map constSC) vs
  | [] => trivial
  | v :: vs => ⟨constSC_is v, constSC_all vs⟩
theorem constSV_is (v : Value) : (constSV v).is ρ φ β v := by
  unfold constSV
  split
  · rename_i cs
    exact ⟨cs.toList, by simp, constSC_all _⟩
  · exact constSC_is v
theorem SV.sc_is {s : SV} {c : SC} {v : Value} (h : s.sc = some c) (H : s.is ρ φ β v) : c.is ρ φ β v := by
  unfold SV.sc at h
  split at h
  · simp only [Option.some.injEq] at h; subst h; exact H
  · simp at h
theorem SV.ex_is {s : SV} {x : E} {v : Value} (h : s.ex = some x) (H : s.is ρ φ β v) : v = x.den ρ φ := by
  unfold SV.ex at h
  split at h
  · rename_i y hy
    simp only [Option.some.injEq] at h
    subst h
    exact SV.sc_is hy H
  · simp at h
theorem SC.cell_one {cx : Cx} (F : Fits cx.Γ cx.S ρ φ) {c : SC} {v : Value} (h : c.cell cx = true) (H : c.is ρ φ β v) : v.oneCell' = true := by
  cases c with
  | e x =>
    simp only [SC.cell, ne_eq, decide_not, Bool.not_eq_true', decide_eq_false_iff_not] at h
    simp only [SC.is] at H
    subst H
    exact So.has_one (E.so_has F x) h
  | ptr id off => obtain ⟨b, _, rfl⟩ := H; rfl
  | pti id off i => obtain ⟨b, _, rfl⟩ := H; rfl
  | slc id off l c => obtain ⟨b, _, rfl⟩ := H; rfl
  | vad i idx sz o => obtain ⟨b, _, _, _, _, rfl⟩ := H; rfl
theorem cells_one {v : Value} (h : v.oneCell' = true) : v.cells = #[v] := by
  cases v <;> first | rfl | (simp [Value.oneCell'] at h)
/-- The cells of a value. -/
theorem SV.cells_is {cx : Cx} (F : Fits cx.Γ cx.S ρ φ) {s : SV} {cs : List SC} {v : Value} (h : s.cells = some cs) (hc : cs.all (SC.cell cx) = true) (H : s.is ρ φ β v) :
    ∃ vs : List Value, v.cells = vs.toArray ∧ All2 (SC.is ρ φ β) cs vs ∧ ∀ u ∈ vs, u.oneCell' = true := by
  unfold SV.cells at h
  split at h
  · rename_i p
    simp only [Option.some.injEq] at h
    subst h
    obtain ⟨agg, cs⟩ := p
    have one : ∀ (vs : List Value), All2 (SC.is ρ φ β) cs vs → ∀ u ∈ vs, u.oneCell' = true := by
      intro vs ha u hu
      obtain ⟨c, hc', hr⟩ := ha.mem hu
      exact SC.cell_one F (List.all_eq_true.1 hc c hc') hr
    cases agg with
    | true =>
      obtain ⟨vs, rfl, ha⟩ := H
      exact ⟨vs, rfl, ha, one vs ha⟩
    | false =>
      match cs, H with
      | [c], H =>
        have h1 : v.oneCell' = true := SC.cell_one F (by simpa using hc) H
        exact ⟨[v], by rw [cells_one h1], ⟨H, trivial⟩, by simpa using h1⟩
  · simp at h
end
end Go.SX

/- SX: what is known of numbers: ranges, sums, differences. -/
namespace Go.SX
open Go

def meet (r : Int × Int) (b : Option Int × Option Int) : Int × Int :=
  (match b.1 with | some l => if decide (r.1 < l) then l else r.1 | none => r.1, match b.2 with | some h => if decide (h < r.2) then h else r.2 | none => r.2)
def inR (r : Int × Int) (v : Int) : Prop := r.1 ≤ v ∧ v ≤ r.2
theorem meet_in {r : Int × Int} {b : Option Int × Option Int} {v : Int} (h : inR r v) (hb : inB b v) : inR (meet r b) v := by
  unfold meet inR at *
  obtain ⟨b1, b2⟩ := b
  constructor
  · cases b1 with
    | none => exact h.1
    | some l =>
      have := hb.1 l rfl
      simp only
      split
      · exact this
      · exact h.1
  · cases b2 with
    | none => exact h.2
    | some l =>
      have := hb.2 l rfl
      simp only
      split
      · exact this
      · exact h.2
def within (k : IntKind) (r : Int × Int) : Bool := decide (lowOf k ≤ r.1) && decide (r.2 ≤ highOf k)
theorem within_wrap {k : IntKind} {r : Int × Int} {v : Int} (h : within k r = true) (hv : inR r v) : k.wrap v = v := by
  unfold within at h
  rw [Bool.and_eq_true] at h
  have h1 := of_decide_eq_true h.1
  have h2 := of_decide_eq_true h.2
  exact wrap_id (Int.le_trans h1 hv.1) (Int.le_trans hv.2 h2)
def kRange (k : IntKind) : Int × Int := (lowOf k, highOf k)
def orK (k : IntKind) (r : Int × Int) : Int × Int := if within k r then r else kRange k

/-- The numbers between which a term's value lies, its facts aside. -/
def rng0 (cx : Cx) (rec' : E → Option (Int × Int)) : E → Option (Int × Int)
  | .int _ n => some (n, n)
  | .bin .add k a b => match rec' a, rec' b with
    | some ra, some rb => some (orK k (ra.1 + rb.1, ra.2 + rb.2))
    | _, _ => some (kRange k)
  | .bin .sub k a b => match rec' a, rec' b with
    | some ra, some rb => some (orK k (ra.1 - rb.2, ra.2 - rb.1))
    | _, _ => some (kRange k)
  | .bin .mul k a b => match rec' a, rec' b with
    | some ra, some rb => if decide (0 ≤ ra.1) && decide (0 ≤ rb.1) then some (orK k (ra.1 * rb.1, ra.2 * rb.2)) else some (kRange k)
    | _, _ => some (kRange k)
  | .conv k a => match rec' a with
    | some ra => some (orK k ra)
    | none => some (kRange k)
  | .ite _ a b => match rec' a, rec' b with
    | some ra, some rb => some (min ra.1 rb.1, max ra.2 rb.2)
    | _, _ => none
  | .len a => if cx.so a = .str then some (0, 140737488355328) else some (0, 4611686018427387904)
  | .byte _ _ => some (0, 255)
  | e => match cx.so e with
    | .int k => some (kRange k)
    | _ => none
def rng (cx : Cx) (fs : Facts) : Nat → E → Option (Int × Int)
  | 0, e => match cx.so e with
    | .int k => some (kRange k)
    | _ => none
  | n + 1, e => (rng0 cx (rng cx fs n) e).map fun r => meet r (fs.bounds e)

section
variable {ρ : Nat → Value} {φ : Nat → List Value → List Value} {cx : Cx} (F : Fits cx.Γ cx.S ρ φ)
 include F
theorem so_strC {x : E} (h : cx.so x = .str) : ∃ s, x.den ρ φ = .string s ∧ s.size ≤ 140737488355328 := by
  have := E.so_has F x
  rw [show x.so cx.Γ cx.S = .str from h] at this
  exact this
theorem so_inR {e : E} {k : IntKind} (h : cx.so e = .int k) : inR (kRange k) (vint (e.den ρ φ)) := by
  have := E.so_has F e
  unfold Cx.so at h
  rw [h] at this
  obtain ⟨n, hn, h1, h2⟩ := this
  rw [hn]
  exact ⟨h1, h2⟩
 omit F in
theorem orK_in {k : IntKind} {r : Int × Int} {v : Int} (h : inR r v) : inR (orK k r) (k.wrap v) := by
  unfold orK
  split
  · rename_i hw
    rw [within_wrap hw h]
    exact h
  · exact wrap_range k v
theorem rng0_in {rec' : E → Option (Int × Int)} (hrec : ∀ e r, rec' e = some r → inR r (vint (e.den ρ φ))) {e : E} {r : Int × Int} (h : rng0 cx rec' e = some r) : inR r (vint (e.den ρ φ)) := by
  unfold rng0 at h
  split at h
  · simp only [Option.some.injEq] at h; subst h; exact ⟨Int.le_refl _, Int.le_refl _⟩
  · rename_i k a b
    split at h
    · rename_i ra rb ha hb
      simp only [Option.some.injEq] at h
      subst h
      have h1 := hrec a ra ha
      have h2 := hrec b rb hb
      simp only [E.den, ibin, vint_int]
      exact orK_in ⟨Int.add_le_add h1.1 h2.1, Int.add_le_add h1.2 h2.2⟩
    · simp only [Option.some.injEq] at h; subst h; exact wrap_range k _
  · rename_i k a b
    split at h
    · rename_i ra rb ha hb
      simp only [Option.some.injEq] at h
      subst h
      have h1 := hrec a ra ha
      have h2 := hrec b rb hb
      simp only [E.den, ibin, vint_int]
      exact orK_in ⟨Int.sub_le_sub h1.1 h2.2, Int.sub_le_sub h1.2 h2.1⟩
    · simp only [Option.some.injEq] at h; subst h; exact wrap_range k _
  · rename_i k a b
    split at h
    · rename_i ra rb ha hb
      have h1 := hrec a ra ha
      have h2 := hrec b rb hb
      split at h
      · rename_i hc
        rw [Bool.and_eq_true] at hc
        have c1 := of_decide_eq_true hc.1
        have c2 := of_decide_eq_true hc.2
        simp only [Option.some.injEq] at h
        subst h
        simp only [E.den, ibin, vint_int]
        refine orK_in ⟨?_, ?_⟩
        · exact Int.mul_le_mul h1.1 h2.1 c2 (Int.le_trans c1 h1.1)
        · exact Int.mul_le_mul h1.2 h2.2 (Int.le_trans c2 h2.1) (Int.le_trans c1 (Int.le_trans h1.1 h1.2))
      · simp only [Option.some.injEq] at h; subst h; exact wrap_range k _
    · simp only [Option.some.injEq] at h; subst h; exact wrap_range k _
  · rename_i k a
    split at h
    · rename_i ra ha
      simp only [Option.some.injEq] at h
      subst h
      simp only [E.den, vint_int]
      exact orK_in (hrec a ra ha)
    · simp only [Option.some.injEq] at h; subst h; exact wrap_range k _
  · rename_i c a b
    split at h
    · rename_i ra rb ha hb
      have h1 := hrec a ra ha
      have h2 := hrec b rb hb
      simp only [Option.some.injEq] at h
      subst h
      simp only [E.den]
      unfold inR at *
      simp only
      cases vbool (c.den ρ φ) with
      | true => simp only [if_true]; omega
      | false => simp only [Bool.false_eq_true, if_false]; omega
    · exact absurd h (by simp)
  · rename_i a
    split at h
    · rename_i hs
      simp only [Option.some.injEq] at h
      subst h
      obtain ⟨x, hx, hle⟩ := so_strC F hs
      simp only [E.den, vint_int, hx]
      have : vlen (.string x) ≤ 140737488355328 := by
        unfold vlen
        simp only
        split <;> omega
      exact ⟨Int.natCast_nonneg _, by simp only; omega⟩
    · simp only [Option.some.injEq] at h
      subst h
      have := vlen_le (a.den ρ φ)
      simp only [E.den, vint_int]
      exact ⟨Int.natCast_nonneg _, by simp only; omega⟩
  · rename_i a b
    simp only [Option.some.injEq] at h
    subst h
    simp only [E.den, vint_int]
    generalize (vstr (a.den ρ φ)).getD (vint (b.den ρ φ)).toNat 0 = x
    have := x.toNat_lt
    exact ⟨Int.natCast_nonneg _, by simp only; omega⟩
  · split at h
    · rename_i k hk
      simp only [Option.some.injEq] at h
      subst h
      exact so_inR F hk
    · exact absurd h (by simp)
theorem rng_in {fs : Facts} (hf : fs.hold ρ φ) : ∀ (n : Nat) (e : E) (r : Int × Int), rng cx fs n e = some r → inR r (vint (e.den ρ φ)) := by
  intro n
  induction n with
  | zero =>
    intro e r h
    simp only [rng] at h
    split at h
    · rename_i k hk
      simp only [Option.some.injEq] at h
      subst h
      exact so_inR F hk
    · exact absurd h (by simp)
  | succ n ih =>
    intro e r h
    simp only [rng, Option.map_eq_some_iff] at h
    obtain ⟨r0, h0, rfl⟩ := h
    exact meet_in (rng0_in F ih h0) (Facts.bounds_sound ρ φ e hf)
end

/-! ### Sums -/
structure Lin where
  c : Int
  ts : List (Int × E)
def addT (q : Int) (x : E) : List (Int × E) → List (Int × E)
  | [] => [(q, x)]
  | (p, y) :: ts => if y.eqv x then (p + q, y) :: ts else (p, y) :: addT q x ts
def addTs (s : Int) : List (Int × E) → List (Int × E) → List (Int × E)
  | [], ts => ts
  | (q, x) :: us, ts => addTs s us (addT (s * q) x ts)
def Lin.plus (a : Lin) (s : Int) (b : Lin) : Lin := ⟨a.c + s * b.c, addTs s b.ts a.ts⟩
def lin (cx : Cx) (fs : Facts) : Nat → E → Lin
  | 0, e => ⟨0, [(1, e)]⟩
  | n + 1, e => match e with
    | .int _ m => ⟨m, []⟩
    | .bin .add k a b => match rng cx fs 8 a, rng cx fs 8 b with
      | some ra, some rb => if within k (ra.1 + rb.1, ra.2 + rb.2) then (lin cx fs n a).plus 1 (lin cx fs n b) else ⟨0, [(1, e)]⟩
      | _, _ => ⟨0, [(1, e)]⟩
    | .bin .sub k a b => match rng cx fs 8 a, rng cx fs 8 b with
      | some ra, some rb => if within k (ra.1 - rb.2, ra.2 - rb.1) then (lin cx fs n a).plus (-1) (lin cx fs n b) else ⟨0, [(1, e)]⟩
      | _, _ => ⟨0, [(1, e)]⟩
    | .conv k a => match rng cx fs 8 a with
      | some ra => if within k ra then lin cx fs n a else ⟨0, [(1, e)]⟩
      | none => ⟨0, [(1, e)]⟩
    | e => ⟨0, [(1, e)]⟩
section
variable (ρ : Nat → Value) (φ : Nat → List Value → List Value)
def evT : List (Int × E) → Int
  | [] => 0
  | (q, x) :: ts => q * vint (x.den ρ φ) + evT ts
def Lin.ev (l : Lin) : Int := l.c + evT ρ φ l.ts
theorem addT_ev (q : Int) (x : E) : ∀ ts, evT ρ φ (addT q x ts) = q * vint (x.den ρ φ) + evT ρ φ ts
  | [] => rfl
  | (p, y) :: ts => by
    simp only [addT]
    split
    · rename_i h
      rw [E.eqv_eq h]
      simp only [evT, Int.add_mul]
      omega
    · simp only [evT, addT_ev q x ts]
      omega
theorem addTs_ev (s : Int) : ∀ us ts, evT ρ φ (addTs s us ts) = s * evT ρ φ us + evT ρ φ ts
  | [], ts => by simp [addTs, evT]
  | (q, x) :: us, ts => by
    simp only [addTs, addTs_ev s us, addT_ev, evT, Int.mul_add, Int.mul_assoc]
    omega
theorem Lin.plus_ev (a : Lin) (s : Int) (b : Lin) : (a.plus s b).ev ρ φ = a.ev ρ φ + s * b.ev ρ φ := by
  simp only [Lin.plus, Lin.ev, addTs_ev, Int.mul_add]
  omega
end
theorem lin_ev {ρ : Nat → Value} {φ : Nat → List Value → List Value} {cx : Cx} (F : Fits cx.Γ cx.S ρ φ) {fs : Facts} (hf : fs.hold ρ φ) : ∀ (n : Nat) (e : E), (lin cx fs n e).ev ρ φ = vint (e.den ρ φ) := by
  intro n
  have atom : ∀ e : E, (Lin.mk 0 [(1, e)]).ev ρ φ = vint (e.den ρ φ) := by
    intro e
    simp [Lin.ev, evT]
  induction n with
  | zero => intro e; exact atom e
  | succ n ih =>
    intro e
    unfold lin
    split
    · simp [Lin.ev, evT, E.den]
    · rename_i k a b
      split
      · rename_i ra rb ha hb
        split
        · rename_i hw
          have h1 := rng_in F hf _ a ra ha
          have h2 := rng_in F hf _ b rb hb
          rw [Lin.plus_ev, ih, ih]
          simp only [E.den, ibin, vint_int]
          rw [within_wrap hw ⟨Int.add_le_add h1.1 h2.1, Int.add_le_add h1.2 h2.2⟩]
          omega
        · exact atom _
      · exact atom _
    · rename_i k a b
      split
      · rename_i ra rb ha hb
        split
        · rename_i hw
          have h1 := rng_in F hf _ a ra ha
          have h2 := rng_in F hf _ b rb hb
          rw [Lin.plus_ev, ih, ih]
          simp only [E.den, ibin, vint_int]
          rw [within_wrap hw ⟨Int.sub_le_sub h1.1 h2.2, Int.sub_le_sub h1.2 h2.1⟩]
          omega
        · exact atom _
      · exact atom _
    · rename_i k a
      split
      · rename_i ra ha
        split
        · rename_i hw
          rw [ih]
          simp only [E.den, vint_int]
          rw [within_wrap hw (rng_in F hf _ a ra ha)]
        · exact atom _
      · exact atom _
    · exact atom _

/-- Between which numbers a sum lies. -/
def rngT (cx : Cx) (fs : Facts) : List (Int × E) → Option (Int × Int)
  | [] => some (0, 0)
  | (q, x) :: ts => if intBeq q 0 then rngT cx fs ts else match rng cx fs 8 x, rngT cx fs ts with
    | some r, some s => if decide (0 ≤ q) then some (q * r.1 + s.1, q * r.2 + s.2) else some (q * r.2 + s.1, q * r.1 + s.2)
    | _, _ => none
def Lin.rng (cx : Cx) (fs : Facts) (l : Lin) : Option (Int × Int) := (rngT cx fs l.ts).map fun r => (l.c + r.1, l.c + r.2)
section
variable {ρ : Nat → Value} {φ : Nat → List Value → List Value} {cx : Cx} (F : Fits cx.Γ cx.S ρ φ) {fs : Facts} (hf : fs.hold ρ φ)
 include F hf
theorem rngT_in : ∀ (ts : List (Int × E)) (r : Int × Int), rngT cx fs ts = some r → inR r (evT ρ φ ts)
  | [], r, h => by
    simp only [rngT, Option.some.injEq] at h
    subst h
    exact ⟨Int.le_refl _, Int.le_refl _⟩
  | (q, x) :: ts, r, h => by
    simp only [rngT] at h
    split at h
    · rename_i hq
      have hq := intBeq_eq hq
      subst hq
      have := rngT_in ts r h
      simpa [evT] using this
    · split at h
      · rename_i rx s hx hs
        have h1 := rng_in F hf _ x rx hx
        have h2 := rngT_in ts s hs
        unfold inR at *
        simp only [evT]
        generalize vint (x.den ρ φ) = v at h1
        split at h
        · rename_i hq
          have hq := of_decide_eq_true hq
          simp only [Option.some.injEq] at h
          subst h
          have a1 := Int.mul_le_mul_of_nonneg_left h1.1 hq
          have a2 := Int.mul_le_mul_of_nonneg_left h1.2 hq
          simp only
          omega
        · rename_i hq
          have hq : ¬ 0 ≤ q := fun h => hq (decide_eq_true h)
          simp only [Option.some.injEq] at h
          subst h
          have a1 := Int.mul_le_mul_of_nonpos_left (show q ≤ 0 by omega) h1.1
          have a2 := Int.mul_le_mul_of_nonpos_left (show q ≤ 0 by omega) h1.2
          simp only
          omega
      · exact absurd h (by simp)
theorem Lin.rng_in (l : Lin) (r : Int × Int) (h : l.rng cx fs = some r) : inR r (l.ev ρ φ) := by
  unfold Lin.rng at h
  simp only [Option.map_eq_some_iff] at h
  obtain ⟨s, hs, rfl⟩ := h
  have := rngT_in F hf l.ts s hs
  unfold inR at *
  simp only [Lin.ev]
  omega
end

/-- Is a difference less than 0: by its range, by one fact. -/
def lessByFacts (cx : Cx) (fs : Facts) (d : Lin) : Facts → Option Bool
  | [] => none
  | (e, b) :: r =>
    match (match e with
      | .cmp .lss p q =>
        let f := (lin cx fs 8 p).plus (-1) (lin cx fs 8 q)
        if b then
          (match (d.plus (-1) f).rng cx fs with
          | some g => if decide (g.2 ≤ 0) then some true else match (d.plus 1 f).rng cx fs with
            | some g => if decide (-1 ≤ g.1) then some false else none
            | none => none
          | none => none)
        else
          (match (d.plus (-1) f).rng cx fs with
          | some g => if decide (0 ≤ g.1) then some false else match (d.plus 1 f).rng cx fs with
            | some g => if decide (g.2 < 0) then some true else none
            | none => none
          | none => none)
      | _ => none) with
    | some x => some x
    | none => lessByFacts cx fs d r
def linDecide (cx : Cx) (fs : Facts) : E → Option Bool
  | .cmp .lss a b =>
    let d := (lin cx fs 8 a).plus (-1) (lin cx fs 8 b)
    match d.rng cx fs with
    | some r => if decide (r.2 < 0) then some true else if decide (0 ≤ r.1) then some false else lessByFacts cx fs d fs
    | none => lessByFacts cx fs d fs
  | .cmp .eql a b =>
    let d := (lin cx fs 8 a).plus (-1) (lin cx fs 8 b)
    match d.rng cx fs with
    | some r => if decide (r.2 < 0) || decide (0 < r.1) then some false else if intBeq r.1 0 && intBeq r.2 0 then some true else none
    | none => none
  | _ => none
section
variable {ρ : Nat → Value} {φ : Nat → List Value → List Value} {cx : Cx} (F : Fits cx.Γ cx.S ρ φ) {fs : Facts} (hf : fs.hold ρ φ)
 include F hf
theorem lessByFacts_sound (d : Lin) {x : Bool} : ∀ (r : Facts), (∀ p ∈ r, p ∈ fs) → lessByFacts cx fs d r = some x → decide (d.ev ρ φ < 0) = x
  | [], _, h => by simp [lessByFacts] at h
  | (e, b) :: r, hsub, h => by
    simp only [lessByFacts] at h
    split at h
    · rename_i y hy
      simp only [Option.some.injEq] at h
      subst h
      split at hy
      · rename_i p q
        have hfact := hf (E.cmp .lss p q, b) (hsub _ (by simp))
        simp only [E.den, icmp, Value.bool.injEq] at hfact
        have hfe : ((lin cx fs 8 p).plus (-1) (lin cx fs 8 q)).ev ρ φ = vint (p.den ρ φ) - vint (q.den ρ φ) := by
          rw [Lin.plus_ev, lin_ev F hf, lin_ev F hf]
          omega
        generalize (lin cx fs 8 p).plus (-1) (lin cx fs 8 q) = f at hy hfe
        cases b with
        | true =>
          simp only [if_true] at hy
          have hfact := of_decide_eq_true hfact
          split at hy
          · rename_i g hg
            have h1 := Lin.rng_in F hf _ g hg
            rw [Lin.plus_ev] at h1
            unfold inR at h1
            split at hy
            · rename_i hc
              have hc := of_decide_eq_true hc
              simp only [Option.some.injEq] at hy
              subst hy
              exact decide_eq_true (by omega)
            · split at hy
              · rename_i g' hg'
                have h2 := Lin.rng_in F hf _ g' hg'
                rw [Lin.plus_ev] at h2
                unfold inR at h2
                split at hy
                · rename_i hc
                  have hc := of_decide_eq_true hc
                  simp only [Option.some.injEq] at hy
                  subst hy
                  exact decide_eq_false (by omega)
                · exact absurd hy (by simp)
              · exact absurd hy (by simp)
          · exact absurd hy (by simp)
        | false =>
          simp only [Bool.false_eq_true, if_false] at hy
          have hfact := of_decide_eq_false hfact
          split at hy
          · rename_i g hg
            have h1 := Lin.rng_in F hf _ g hg
            rw [Lin.plus_ev] at h1
            unfold inR at h1
            split at hy
            · rename_i hc
              have hc := of_decide_eq_true hc
              simp only [Option.some.injEq] at hy
              subst hy
              exact decide_eq_false (by omega)
            · split at hy
              · rename_i g' hg'
                have h2 := Lin.rng_in F hf _ g' hg'
                rw [Lin.plus_ev] at h2
                unfold inR at h2
                split at hy
                · rename_i hc
                  have hc := of_decide_eq_true hc
                  simp only [Option.some.injEq] at hy
                  subst hy
                  exact decide_eq_true (by omega)
                · exact absurd hy (by simp)
              · exact absurd hy (by simp)
          · exact absurd hy (by simp)
      · exact absurd hy (by simp)
    · exact lessByFacts_sound d r (fun p hp => hsub p (by simp [hp])) h
theorem linDecide_sound {c : E} {b : Bool} (h : linDecide cx fs c = some b) : c.den ρ φ = .bool b := by
  unfold linDecide at h
  split at h
  · rename_i x y
    have hde : ((lin cx fs 8 x).plus (-1) (lin cx fs 8 y)).ev ρ φ = vint (x.den ρ φ) - vint (y.den ρ φ) := by
      rw [Lin.plus_ev, lin_ev F hf, lin_ev F hf]
      omega
    simp only at h
    generalize (lin cx fs 8 x).plus (-1) (lin cx fs 8 y) = d at h hde
    have key : decide (d.ev ρ φ < 0) = b := by
      split at h
      · rename_i r hr
        have h1 := Lin.rng_in F hf _ r hr
        unfold inR at h1
        split at h
        · rename_i hc
          have hc := of_decide_eq_true hc
          simp only [Option.some.injEq] at h
          subst h
          exact decide_eq_true (by omega)
        · split at h
          · rename_i hc
            have hc := of_decide_eq_true hc
            simp only [Option.some.injEq] at h
            subst h
            exact decide_eq_false (by omega)
          · exact lessByFacts_sound F hf d fs (fun p hp => hp) h
      · exact lessByFacts_sound F hf d fs (fun p hp => hp) h
    simp only [E.den, icmp]
    congr 1
    rw [← key, hde]
    rw [Bool.eq_iff_iff]
    constructor
    · intro h
      have := of_decide_eq_true h
      exact decide_eq_true (by omega)
    · intro h
      have := of_decide_eq_true h
      exact decide_eq_true (by omega)
  · rename_i x y
    have hde : ((lin cx fs 8 x).plus (-1) (lin cx fs 8 y)).ev ρ φ = vint (x.den ρ φ) - vint (y.den ρ φ) := by
      rw [Lin.plus_ev, lin_ev F hf, lin_ev F hf]
      omega
    simp only at h
    generalize (lin cx fs 8 x).plus (-1) (lin cx fs 8 y) = d at h hde
    split at h
    · rename_i r hr
      have h1 := Lin.rng_in F hf _ r hr
      unfold inR at h1
      simp only [E.den, icmp]
      split at h
      · rename_i hc
        rw [Bool.or_eq_true] at hc
        simp only [Option.some.injEq] at h
        subst h
        congr 1
        rw [beq_eq_false_iff_ne]
        rcases hc with hc | hc
        · have := of_decide_eq_true hc; omega
        · have := of_decide_eq_true hc; omega
      · split at h
        · rename_i hc
          rw [Bool.and_eq_true] at hc
          have c1 := intBeq_eq hc.1
          have c2 := intBeq_eq hc.2
          simp only [Option.some.injEq] at h
          subst h
          congr 1
          rw [beq_iff_eq]
          omega
        · exact absurd h (by simp)
    · exact absurd h (by simp)
  · exact absurd h (by simp)
end

/-- What a condition is. -/
def dec (cx : Cx) (fs : Facts) : E → Option Bool
  | .bool b => some b
  | .not a => (dec cx fs a).map (!·)
  | .ite c a b => match dec cx fs c with
    | some true => dec cx fs a
    | some false => dec cx fs b
    | none => fs.look (.ite c a b)
  | c => match fs.look c with
    | some b => some b
    | none => match boundsDecide fs c with
      | some b => some b
      | none => linDecide cx fs c
theorem dec_sound {ρ : Nat → Value} {φ : Nat → List Value → List Value} {cx : Cx} (F : Fits cx.Γ cx.S ρ φ) {fs : Facts} (H : fs.hold ρ φ) : ∀ {c : E} {b : Bool}, dec cx fs c = some b → c.den ρ φ = .bool b := by
  intro c
  have gen : ∀ (c : E) (b : Bool), (match fs.look c with | some b => some b | none => match boundsDecide fs c with | some b => some b | none => linDecide cx fs c) = some b → c.den ρ φ = .bool b := by
    intro c b h
    split at h
    · rename_i b' hb
      simp only [Option.some.injEq] at h
      subst h
      exact Facts.look_sound ρ φ H hb
    · split at h
      · rename_i b' hb
        simp only [Option.some.injEq] at h
        subst h
        exact boundsDecide_sound ρ φ H hb
      · exact linDecide_sound F H h
  induction c with
  | bool b => intro b' h; simp only [dec, Option.some.injEq] at h; subst h; rfl
  | not a ih =>
    intro b h
    simp only [dec, Option.map_eq_some_iff] at h
    obtain ⟨b', h1, h2⟩ := h
    simp only [E.den, ih h1, vbool_bool, h2]
  | ite c x y ihc ihx ihy =>
    intro b h
    simp only [dec] at h
    split at h
    · rename_i hc
      simp only [E.den, ihc hc, vbool_bool, if_true]
      exact ihx h
    · rename_i hc
      simp only [E.den, ihc hc, vbool_bool, Bool.false_eq_true, if_false]
      exact ihy h
    · exact Facts.look_sound ρ φ H h
  | _ => intro b h; exact gen _ b h
/- Terms for variables. -/
mutual
def E.subst (f : Nat → E) : E → E
  | .var i => f i
  | .bin op k a b => mkBin op k (a.subst f) (b.subst f)
  | .shf op k a b => mkShf op k (a.subst f) (b.subst f)
  | .cmp op a b => mkCmp op (a.subst f) (b.subst f)
  | .beq a b => mkBeq (a.subst f) (b.subst f)
  | .seq a b => mkSeq (a.subst f) (b.subst f)
  | .not a => mkNot (a.subst f)
  | .conv k a => mkConv k (a.subst f)
  | .ite c a b => .ite (c.subst f) (a.subst f) (b.subst f)
  | .idx i l => .idx (i.subst f) (l.substL f)
  | .app g j a => .app g j (a.substL f)
  | .cons a b => .cons a b
  | .len a => .len (a.subst f)
  | .byte a b => .byte (a.subst f) (b.subst f)
  | .cut a b c => .cut (a.subst f) (b.subst f) (c.subst f)
  | .tup l => .tup (l.substL f)
  | .el g i sz o s => .el (g.subst f) (i.subst f) sz o s
  | .int k n => .int k n
  | .bool b => .bool b
  | .val v => .val v
  | .nil => .nil
def E.substL (f : Nat → E) : E → E
  | .cons a b => .cons (a.subst f) (b.substL f)
  | _ => .nil
end
theorem subst_den (ρ : Nat → Value) (φ : Nat → List Value → List Value) (f : Nat → E) (e : E) :
    (e.subst f).den ρ φ = e.den (fun i => (f i).den ρ φ) φ ∧ (e.substL f).dens ρ φ = e.dens (fun i => (f i).den ρ φ) φ := by
  induction e with
  | var i => exact ⟨rfl, rfl⟩
  | int k n => exact ⟨rfl, rfl⟩
  | bool b => exact ⟨rfl, rfl⟩
  | val v => exact ⟨rfl, rfl⟩
  | bin o k a b iha ihb => exact ⟨by simp only [E.subst, mkBin_den, E.den, iha.1, ihb.1], rfl⟩
  | shf o k a b iha ihb => exact ⟨by simp only [E.subst, mkShf_den, E.den, iha.1, ihb.1], rfl⟩
  | cmp o a b iha ihb => exact ⟨by simp only [E.subst, mkCmp_den, E.den, iha.1, ihb.1], rfl⟩
  | beq a b iha ihb => exact ⟨by simp only [E.subst, mkBeq_den, E.den, iha.1, ihb.1], rfl⟩
  | seq a b iha ihb => exact ⟨by simp only [E.subst, mkSeq_den, E.den, iha.1, ihb.1], rfl⟩
  | not a iha => exact ⟨by simp only [E.subst, mkNot_den, E.den, iha.1], rfl⟩
  | conv k a iha => exact ⟨by simp only [E.subst, mkConv_den, E.den, iha.1], rfl⟩
  | ite c a b ihc iha ihb => exact ⟨by simp only [E.subst, E.den, ihc.1, iha.1, ihb.1], rfl⟩
  | idx i l ihi ihl => exact ⟨by simp only [E.subst, E.den, ihi.1, ihl.2], rfl⟩
  | app g j a iha => exact ⟨by simp only [E.subst, E.den, iha.2], rfl⟩
  | nil => exact ⟨rfl, rfl⟩
  | cons a b iha ihb => exact ⟨rfl, by simp only [E.substL, E.dens, iha.1, ihb.2]⟩
  | len a iha => exact ⟨by simp only [E.subst, E.den, iha.1], rfl⟩
  | byte a b iha ihb => exact ⟨by simp only [E.subst, E.den, iha.1, ihb.1], rfl⟩
  | cut a b c iha ihb ihc => exact ⟨by simp only [E.subst, E.den, iha.1, ihb.1, ihc.1], rfl⟩
  | tup l ihl => exact ⟨by simp only [E.subst, E.den, ihl.2], rfl⟩
  | el g i sz o s ihg ihi => exact ⟨by simp only [E.subst, E.den, ihg.1, ihi.1], rfl⟩
def atL (es : List E) (i : Nat) : E := es.getD i (.val undef)
def preOk (cx : Cx) (fs : Facts) (es : List E) : Facts → Bool
  | [] => true
  | (e, b) :: r => (match dec cx fs (e.subst (atL es)) with | some x => x == b | none => false) && preOk cx fs es r
section
variable {ρ : Nat → Value} {φ : Nat → List Value → List Value} {cx : Cx}
theorem preOk_hold (F : Fits cx.Γ cx.S ρ φ) {fs : Facts} (hf : fs.hold ρ φ) {es : List E} : ∀ {pre : Facts}, preOk cx fs es pre = true → pre.hold (fun i => (es.map (·.den ρ φ)).getD i undef) φ
  | [], _, p, hp => by simp at hp
  | (e, b) :: pre, h, p, hp => by
    simp only [preOk, Bool.and_eq_true] at h
    rcases List.mem_cons.1 hp with rfl | hp
    · have h1 := h.1
      split at h1
      · rename_i x hx
        have h1 : x = b := by simpa using h1
        subst h1
        have hd := dec_sound F hf hx
        rw [(subst_den ρ φ (atL es) e).1] at hd
        have e1 : (fun i => (atL es i).den ρ φ) = fun i => (es.map (·.den ρ φ)).getD i undef := by
          funext i
          unfold atL
          rw [List.getD_eq_getElem?_getD, List.getD_eq_getElem?_getD, List.getElem?_map]
          cases es[i]? <;> rfl
        rw [e1] at hd
        exact hd
      · exact absurd h1 (by simp)
    · exact preOk_hold F hf h.2 p hp

end
def E.noApp : E → Bool
  | .bin _ _ a b | .shf _ _ a b | .cmp _ a b | .beq a b | .seq a b | .idx a b | .cons a b | .byte a b => a.noApp && b.noApp
  | .not a | .conv _ a | .len a | .tup a => a.noApp
  | .ite a b c | .cut a b c => a.noApp && b.noApp && c.noApp
  | .el g i _ _ _ => g.noApp && i.noApp
  | .app _ _ _ => false
  | .var _ | .int _ _ | .bool _ | .val _ | .nil => true
theorem noApp_den (ρ : Nat → Value) (φ φ' : Nat → List Value → List Value) : ∀ e : E, e.noApp = true → e.den ρ φ = e.den ρ φ' ∧ e.dens ρ φ = e.dens ρ φ' := by
  intro e
  induction e with
  | var i => intro _; exact ⟨rfl, rfl⟩
  | int k n => intro _; exact ⟨rfl, rfl⟩
  | bool b => intro _; exact ⟨rfl, rfl⟩
  | val v => intro _; exact ⟨rfl, rfl⟩
  | nil => intro _; exact ⟨rfl, rfl⟩
  | bin o k a b iha ihb => intro hl; simp only [E.noApp, Bool.and_eq_true] at hl; exact ⟨by simp only [E.den, (iha hl.1).1, (ihb hl.2).1], rfl⟩
  | shf o k a b iha ihb => intro hl; simp only [E.noApp, Bool.and_eq_true] at hl; exact ⟨by simp only [E.den, (iha hl.1).1, (ihb hl.2).1], rfl⟩
  | cmp o a b iha ihb => intro hl; simp only [E.noApp, Bool.and_eq_true] at hl; exact ⟨by simp only [E.den, (iha hl.1).1, (ihb hl.2).1], rfl⟩
  | beq a b iha ihb => intro hl; simp only [E.noApp, Bool.and_eq_true] at hl; exact ⟨by simp only [E.den, (iha hl.1).1, (ihb hl.2).1], rfl⟩
  | seq a b iha ihb => intro hl; simp only [E.noApp, Bool.and_eq_true] at hl; exact ⟨by simp only [E.den, (iha hl.1).1, (ihb hl.2).1], rfl⟩
  | byte a b iha ihb => intro hl; simp only [E.noApp, Bool.and_eq_true] at hl; exact ⟨by simp only [E.den, (iha hl.1).1, (ihb hl.2).1], rfl⟩
  | idx a b iha ihb => intro hl; simp only [E.noApp, Bool.and_eq_true] at hl; exact ⟨by simp only [E.den, (iha hl.1).1, (ihb hl.2).2], rfl⟩
  | cons a b iha ihb => intro hl; simp only [E.noApp, Bool.and_eq_true] at hl; exact ⟨rfl, by simp only [E.dens, (iha hl.1).1, (ihb hl.2).2]⟩
  | not a iha => intro hl; simp only [E.noApp] at hl; exact ⟨by simp only [E.den, (iha hl).1], rfl⟩
  | conv k a iha => intro hl; simp only [E.noApp] at hl; exact ⟨by simp only [E.den, (iha hl).1], rfl⟩
  | app g j a iha => intro hl; simp [E.noApp] at hl
  | len a iha => intro hl; simp only [E.noApp] at hl; exact ⟨by simp only [E.den, (iha hl).1], rfl⟩
  | tup a iha => intro hl; simp only [E.noApp] at hl; exact ⟨by simp only [E.den, (iha hl).2], rfl⟩
  | ite a b c iha ihb ihc => intro hl; simp only [E.noApp, Bool.and_eq_true] at hl; exact ⟨by simp only [E.den, (iha hl.1.1).1, (ihb hl.1.2).1, (ihc hl.2).1], rfl⟩
  | cut a b c iha ihb ihc => intro hl; simp only [E.noApp, Bool.and_eq_true] at hl; exact ⟨by simp only [E.den, (iha hl.1.1).1, (ihb hl.1.2).1, (ihc hl.2).1], rfl⟩
  | el g i sz o s ihg ihi => intro hl; simp only [E.noApp, Bool.and_eq_true] at hl; exact ⟨by simp only [E.den, (ihg hl.1).1, (ihi hl.2).1], rfl⟩

/-- A condition that speaks of no symbol. -/
theorem holdN {ρ : Nat → Value} {φ φ' : Nat → List Value → List Value} {fs : Facts} (hn : (fs.all fun p => p.1.noApp) = true) (h : fs.hold ρ φ) : fs.hold ρ φ' := by
  intro p hp
  rw [← (noApp_den ρ φ φ' p.1 (by simpa using List.all_eq_true.1 hn p hp)).1]
  exact h p hp
end Go.SX
