/- SX: regions whose order is drawn: whatever order comes up, each operation does the same. -/
import Derived.Test.YthakekgdllmbcaaDoorSXk
import Derived.LoopN
import Derived.Scope
namespace Go.SX
open Go Go.RowKit

structure RI where
  dst : Option Tmp
  v : SV
  new : Option (List SC)
  wr : Option (Nat × Nat × List SC)
  bef : Nat
  deriving Inhabited

def plainG : Ground → Bool
  | .textOnly _ | .gcOnly _ => false
  | _ => true
theorem plainG_binds {e : Edge} (h : plainG e.ground = true) : Region.binds .any e = true := by
  unfold Region.binds
  cases hg : e.ground <;> rw [hg] at h <;> simp_all [plainG]

def befs (acc : List RI) : List Edge → Nat
  | [] => 0
  | e :: es => if plainG e.ground then (2 ^ e.on ||| ((acc[e.on]?).map (·.bef)).getD 0) ||| befs acc es else befs acc es
theorem befs_spec {acc : List RI} {k : Nat} : ∀ {es : List Edge}, (befs acc es).testBit k = true → ∃ e ∈ es, plainG e.ground = true ∧ (k = e.on ∨ ∃ r, acc[e.on]? = some r ∧ r.bef.testBit k = true)
  | [], h => by simp [befs] at h
  | e :: es, h => by
    simp only [befs] at h
    split at h
    · rename_i hp
      simp only [Nat.testBit_or, Bool.or_eq_true] at h
      rcases h with (h | h) | h
      · rw [Nat.testBit_two_pow] at h
        exact ⟨e, by simp, hp, Or.inl (of_decide_eq_true h).symm⟩
      · cases hr : acc[e.on]? with
        | none => rw [hr] at h; simp at h
        | some r => rw [hr] at h; exact ⟨e, by simp, hp, Or.inr ⟨r, hr, by simpa using h⟩⟩
      · obtain ⟨e', h1, h2⟩ := befs_spec h
        exact ⟨e', by simp [h1], h2⟩
    · obtain ⟨e', h1, h2⟩ := befs_spec h
      exact ⟨e', by simp [h1], h2⟩

def wrt (p : Nat → Bool) (t : Nat) : List RI → Nat → Option SV
  | [], _ => none
  | r :: is, k => match r.dst with
    | some d => if Nat.beq d t && p k then some r.v else wrt p t is (k + 1)
    | none => wrt p t is (k + 1)
def stE (n : Nat) (p : Nat → Bool) : List RI → Nat → BK → BK
  | [], _, B => B
  | r :: is, k, B => stE n p is (k + 1) (if p k then effB B ⟨r.v, r.new, r.wr⟩ (n + k) else B)
def dsts : List Oper → List Nat
  | [] => []
  | o :: os => match o.dst with
    | some d => d :: dsts os
    | none => dsts os
def Lr (σ : St) (ds : List Nat) (is : List RI) (p : Nat → Bool) : LK := fun t => if hasN t ds then wrt p t is 0 else σ.L t
def Br (σ : St) (is : List RI) (p hid : Nat → Bool) : BK := fun id => if hid id then none else stE σ.next p is 0 σ.B id
def noHid : Nat → Bool := fun _ => false
def needsB : Op → Bool
  | .load .. | .store .. | .call _ => true
  | _ => false

inductive DR where
  | ok (is : List RI) | split (c : E) | stuck
def bitsOf (m : Nat) : Nat → Bool := fun k => m.testBit k
def edgesOk (i : Nat) : List Edge → Bool
  | [] => true
  | e :: es => (!(Region.binds .any e) || Nat.blt e.on i) && edgesOk i es
def wrOld (next : Nat) : Option (Nat × Nat × List SC) → Bool
  | some (i, _, _) => Nat.blt i next
  | none => true
def regGo (cx : Cx) (N : Fm) (hd : Nat → Nat → Bool) (ops : Array Oper) (ds : List Nat) (σ : St) : List Oper → List RI → DR
  | [], acc => .ok acc
  | o :: rest, acc =>
    if dstOk N o.dst && edgesOk acc.length o.after.toList then
      let m := befs acc o.after.toList
      match guardX cx (Lr σ ds acc (bitsOf m)) σ.facts ops o with
      | .yes => match opx cx (Lr σ ds acc (bitsOf m)) (Br σ acc (bitsOf m) (hd acc.length)) σ.facts (σ.next + acc.length) o.op with
        | .ok δ => if wrOld (σ.next + acc.length) δ.wr then regGo cx N hd ops ds σ rest (acc ++ [⟨o.dst, δ.v, δ.new, δ.wr, m⟩]) else .stuck
        | .split c => .split c
        | .stuck => .stuck
      | .no => regGo cx N hd ops ds σ rest (acc ++ [⟨o.dst, undefSV, none, none, m⟩])
      | .split c => .split c
      | .stuck => .stuck
    else .stuck
def nodupN : List Nat → Bool
  | [] => true
  | d :: ds => !(hasN d ds) && nodupN ds
def wrIs (id : Nat) : Option (Nat × Nat × List SC) → Bool
  | some (i, _, _) => Nat.beq i id
  | none => false
def ordd (s i : Nat) (rs ri : RI) : Bool := ri.bef.testBit s || rs.bef.testBit i
def cmp1 (hd : Nat → Nat → Bool) (n : Nat) (s i : Nat) (t : Nat) (rs ri : RI) : Bool :=
  Nat.beq i s || ordd s i rs ri || (hd i t && !(Nat.beq t (n + i)) && !(wrIs t ri.wr))
def cmpA (hd : Nat → Nat → Bool) (n : Nat) (is : List RI) (s : Nat) (rs : RI) (t : Nat) : Bool :=
  (List.range is.length).all fun i => match is[i]? with
    | some ri => cmp1 hd n s i t rs ri
    | none => true
/-- Every store stands before or behind every operation that may see what it writes. -/
def cmpOk (hd : Nat → Nat → Bool) (n : Nat) (is : List RI) : Bool :=
  (List.range is.length).all fun s => match is[s]? with
    | some rs => match rs.wr with
      | none => true
      | some (t, _, _) => cmpA hd n is s rs t
    | none => true
/-- What an operation may not look at. -/
def hid0 (ops : Array Oper) (n : Nat) (i id : Nat) : Bool := Nat.blt id n && (match ops[i]? with
  | some o => !(needsB o.op)
  | none => true)
def hidA (is : List RI) (i id : Nat) (ri : RI) : Bool := (List.range is.length).any fun s => match is[s]? with
  | some rs => wrIs id rs.wr && !(Nat.beq s i) && !(ordd s i rs ri)
  | none => false
def hid1 (ops : Array Oper) (n : Nat) (is : List RI) (i id : Nat) : Bool := hid0 ops n i id || (match is[i]? with
  | some ri => hidA is i id ri
  | none => false)
def finT : List RI → List (Nat × SV) → List (Nat × SV)
  | [], l => l
  | r :: is, l => finT is (putT r.dst r.v l)
def finB : List RI → Nat → List (Nat × List SC) → List (Nat × List SC)
  | [], _, l => l
  | r :: is, nid, l => finB is (nid + 1) (newB r.new nid (wrB r.wr l))
def regF (cx : Cx) (N : Fm) (hd : Nat → Nat → Bool) (ops : Array Oper) (σ : St) : RR :=
  match regGo cx N hd ops (dsts ops.toList) σ ops.toList [] with
  | .ok is => if cmpOk hd σ.next is then .ok { tmps := finT is σ.tmps, boxes := finB is σ.next σ.boxes, next := σ.next + is.length, facts := σ.facts } else .stuck
  | .split c => .split c
  | .stuck => .stuck
def regD (cx : Cx) (N : Fm) (ops : Array Oper) (σ : St) : RR :=
  if cx.P.follows .mixedOrders && nodupN (dsts ops.toList) then
    match regGo cx N (hid0 ops σ.next) ops (dsts ops.toList) σ ops.toList [] with
    | .ok is => if cmpOk (hid0 ops σ.next) σ.next is then regF cx N (hid0 ops σ.next) ops σ else regF cx N (hid1 ops σ.next is) ops σ
    | .split c => .split c
    | .stuck => .stuck
  else .stuck

theorem hasN_mem {t : Nat} : ∀ {l : List Nat}, hasN t l = true ↔ t ∈ l
  | [] => by simp [hasN]
  | d :: l => by
    simp only [hasN, Bool.or_eq_true, List.mem_cons, hasN_mem (l := l)]
    constructor
    · rintro (h | h)
      · exact Or.inl (Nat.eq_of_beq_eq_true h).symm
      · exact Or.inr h
    · rintro (rfl | h)
      · exact Or.inl (Nat.beq_refl _)
      · exact Or.inr h

/-- Each is written by one at most. -/
def Uniq (is : List RI) : Prop := ∀ (i j : Nat) (ri rj : RI) (d : Nat), is[i]? = some ri → is[j]? = some rj → ri.dst = some d → rj.dst = some d → i = j

theorem wrt_some {p : Nat → Bool} {t : Nat} {s : SV} : ∀ {is : List RI} {k : Nat}, wrt p t is k = some s → ∃ j r, is[j]? = some r ∧ r.dst = some t ∧ p (k + j) = true ∧ r.v = s
  | [], k, h => by simp [wrt] at h
  | r :: is, k, h => by
    simp only [wrt] at h
    cases hd : r.dst with
    | none =>
      rw [hd] at h
      obtain ⟨j, r', h1, h2, h3, h4⟩ := wrt_some h
      exact ⟨j + 1, r', by simpa using h1, h2, by rw [← Nat.add_assoc, Nat.add_right_comm]; exact h3, h4⟩
    | some d =>
      rw [hd] at h
      simp only at h
      split at h
      · rename_i hc
        rw [Bool.and_eq_true] at hc
        simp only [Option.some.injEq] at h
        exact ⟨0, r, rfl, by rw [hd, Nat.eq_of_beq_eq_true hc.1], by simpa using hc.2, h⟩
      · obtain ⟨j, r', h1, h2, h3, h4⟩ := wrt_some h
        exact ⟨j + 1, r', by simpa using h1, h2, by rw [← Nat.add_assoc, Nat.add_right_comm]; exact h3, h4⟩
theorem wrt_of {p : Nat → Bool} {t : Nat} : ∀ {is : List RI} {k j : Nat} {r : RI}, Uniq is → is[j]? = some r → r.dst = some t → p (k + j) = true → wrt p t is k = some r.v
  | [], k, j, r, _, h, _, _ => by simp at h
  | r' :: is, k, 0, r, hu, h, hd, hp => by
    simp at h
    subst h
    simp [wrt, hd, show p k = true from by simpa using hp]
  | r' :: is, k, j + 1, r, hu, h, hd, hp => by
    have hne : ∀ d, r'.dst = some d → d ≠ t := fun d hd' e => by
      subst e
      have := hu 0 (j + 1) r' r d rfl h hd' hd
      omega
    have ih := wrt_of (p := p) (t := t) (k := k + 1) (fun a b ra rb d ha hb => by
      have := hu (a + 1) (b + 1) ra rb d (by simpa using ha) (by simpa using hb)
      intro h1 h2
      have := this h1 h2
      omega) (by simpa using h) hd (by rw [Nat.add_assoc, Nat.add_comm 1 j]; exact hp)
    simp only [wrt]
    cases hd' : r'.dst with
    | none => exact ih
    | some d =>
      simp only
      rw [if_neg]
      · exact ih
      · rw [Bool.and_eq_true]
        rintro ⟨h1, _⟩
        exact hne d hd' (Nat.eq_of_beq_eq_true h1)

def touch (n k id : Nat) (r : RI) : Bool := (r.new.isSome && Nat.beq id (n + k)) || wrIs id r.wr
theorem effB_at {B B' : BK} {δ : Dl} {nid id : Nat} (h : B id = B' id) : effB B δ nid id = effB B' δ nid id := by
  have hw : effW B δ.wr id = effW B' δ.wr id := by
    unfold effW
    cases δ.wr with
    | none => exact h
    | some y => obtain ⟨y1, y2, y3⟩ := y; simp only; rw [h]
  unfold effB
  cases δ.new with
  | none => exact hw
  | some y => simp only; rw [hw]
theorem effB_no {B : BK} {n k id : Nat} {r : RI} (h : touch n k id r = false) : effB B ⟨r.v, r.new, r.wr⟩ (n + k) id = B id := by
  unfold touch at h
  rw [Bool.or_eq_false_iff] at h
  have hw : effW B r.wr id = B id := by
    unfold effW
    cases hq : r.wr with
    | none => rfl
    | some y =>
      obtain ⟨y1, y2, y3⟩ := y
      have h2 := h.2
      rw [hq] at h2
      simp only [wrIs] at h2
      simp only
      rw [h2]
      rfl
  unfold effB
  simp only
  cases hq : r.new with
  | none => exact hw
  | some y =>
    have h1 := h.1
    rw [hq] at h1
    simp only [Option.isSome_some, Bool.true_and] at h1
    simp only
    rw [h1]
    exact hw
theorem stE_at {n : Nat} {p : Nat → Bool} {id : Nat} : ∀ {is : List RI} {k : Nat} {B B' : BK}, B id = B' id → stE n p is k B id = stE n p is k B' id
  | [], _, _, _, h => h
  | r :: is, k, B, B', h => by
    simp only [stE]
    apply stE_at
    split
    · exact effB_at h
    · exact h
theorem stE_congr {n : Nat} {p q : Nat → Bool} {id : Nat} : ∀ {is : List RI} {k : Nat} {B : BK}, (∀ j r, is[j]? = some r → touch n (k + j) id r = true → p (k + j) = q (k + j)) → stE n p is k B id = stE n q is k B id
  | [], _, _, _ => rfl
  | r :: is, k, B, h => by
    simp only [stE]
    have h0 : (if p k = true then effB B ⟨r.v, r.new, r.wr⟩ (n + k) else B) id = (if q k = true then effB B ⟨r.v, r.new, r.wr⟩ (n + k) else B) id := by
      cases ht : touch n k id r with
      | true =>
        have := h 0 r rfl (by simpa using ht)
        simp only [Nat.add_zero] at this
        rw [this]
      | false =>
        have := effB_no (B := B) ht
        split <;> split <;> simp only [this]
    rw [stE_at h0]
    exact stE_congr fun j r' hj hw => by
      have := h (j + 1) r' (by simpa using hj) (by rwa [show k + 1 + j = k + (j + 1) by omega] at hw)
      rwa [show k + 1 + j = k + (j + 1) by omega]
theorem stE_none {n : Nat} {p : Nat → Bool} {id : Nat} : ∀ {is : List RI} {k : Nat} {B : BK}, (∀ j r, is[j]? = some r → touch n (k + j) id r = true → p (k + j) = false) → stE n p is k B id = B id
  | [], _, _, _ => rfl
  | r :: is, k, B, h => by
    simp only [stE]
    have h0 : (if p k = true then effB B ⟨r.v, r.new, r.wr⟩ (n + k) else B) id = B id := by
      cases ht : touch n k id r with
      | true =>
        have := h 0 r rfl (by simpa using ht)
        simp only [Nat.add_zero] at this
        rw [this]
        rfl
      | false =>
        have := effB_no (B := B) ht
        split
        · exact this
        · rfl
    rw [stE_at h0]
    exact stE_none fun j r' hj hw => by
      have := h (j + 1) r' (by simpa using hj) (by rwa [show k + 1 + j = k + (j + 1) by omega] at hw)
      rwa [show k + 1 + j = k + (j + 1) by omega]
theorem effW_none {B : BK} {wr : Option (Nat × Nat × List SC)} {id : Nat} (h : B id = none) : effW B wr id = none := by
  unfold effW
  cases wr with
  | none => exact h
  | some y =>
    obtain ⟨y1, y2, y3⟩ := y
    simp only
    rw [h]
    split <;> rfl
/-- A block that was not made yet is not there. -/
theorem stE_unborn {n : Nat} {p : Nat → Bool} {id : Nat} : ∀ {is : List RI} {k : Nat} {B : BK}, B id = none → (∀ j r, is[j]? = some r → id = n + (k + j) → p (k + j) = false) → stE n p is k B id = none
  | [], _, _, h, _ => h
  | r :: is, k, B, h, hc => by
    simp only [stE]
    have h0 : (if p k = true then effB B ⟨r.v, r.new, r.wr⟩ (n + k) else B) id = none := by
      split
      · rename_i hp
        unfold effB
        simp only
        cases hq : r.new with
        | none => exact effW_none h
        | some y =>
          simp only
          split
          · rename_i hb
            have := hc 0 r rfl (Nat.eq_of_beq_eq_true hb)
            rw [Nat.add_zero, hp] at this
            exact absurd this (by simp)
          · exact effW_none h
      · exact h
    exact stE_unborn h0 fun j r' hj he => by
      have := hc (j + 1) r' (by simpa using hj) (by omega)
      rwa [show k + 1 + j = k + (j + 1) by omega]
theorem stE_append {n : Nat} {p : Nat → Bool} : ∀ {is js : List RI} {k : Nat} {B : BK}, stE n p (is ++ js) k B = stE n p js (k + is.length) (stE n p is k B)
  | [], js, k, B => by simp [stE]
  | r :: is, js, k, B => by
    simp only [List.cons_append, stE, List.length_cons]
    rw [stE_append (is := is)]
    congr 1
    omega

/-! ### Whatever order comes up -/
theorem dsts_mem {d : Nat} : ∀ {os : List Oper}, d ∈ dsts os ↔ ∃ (i : Nat) (o : Oper), os[i]? = some o ∧ o.dst = some d
  | [] => by simp [dsts]
  | o :: os => by
    have ih := dsts_mem (d := d) (os := os)
    constructor
    · intro h
      simp only [dsts] at h
      cases hd : o.dst with
      | none =>
        rw [hd] at h
        obtain ⟨i, o', h1, h2⟩ := ih.1 h
        exact ⟨i + 1, o', by simpa using h1, h2⟩
      | some e =>
        rw [hd] at h
        rcases List.mem_cons.1 h with rfl | h
        · exact ⟨0, o, rfl, hd⟩
        · obtain ⟨i, o', h1, h2⟩ := ih.1 h
          exact ⟨i + 1, o', by simpa using h1, h2⟩
    · rintro ⟨i, o', h1, h2⟩
      simp only [dsts]
      cases i with
      | zero =>
        simp at h1
        subst h1
        rw [h2]
        simp
      | succ i =>
        have := ih.2 ⟨i, o', by simpa using h1, h2⟩
        cases hd : o.dst with
        | none => exact this
        | some e => simp [this]
theorem nodup_uniq {d : Nat} : ∀ {os : List Oper} {i j : Nat} {oi oj : Oper}, nodupN (dsts os) = true → os[i]? = some oi → os[j]? = some oj → oi.dst = some d → oj.dst = some d → i = j
  | [], i, j, oi, oj, _, h, _, _, _ => by simp at h
  | o :: os, i, j, oi, oj, hn, hi, hj, hdi, hdj => by
    have hrec : nodupN (dsts os) = true := by
      simp only [dsts] at hn
      cases hd : o.dst with
      | none => rw [hd] at hn; exact hn
      | some e => rw [hd] at hn; simp only [nodupN, Bool.and_eq_true] at hn; exact hn.2
    have hno : ∀ (k : Nat) (ok : Oper), os[k]? = some ok → ok.dst = some d → o.dst = some d → False := by
      intro k ok hk hdk hd
      simp only [dsts, hd, nodupN, Bool.and_eq_true, Bool.not_eq_true'] at hn
      have := hasN_mem.2 (dsts_mem.2 ⟨k, ok, hk, hdk⟩)
      rw [this] at hn
      simp at hn
    cases i with
    | zero =>
      cases j with
      | zero => rfl
      | succ j =>
        simp at hi
        subst hi
        exact (hno j oj (by simpa using hj) hdj hdi).elim
    | succ i =>
      cases j with
      | zero =>
        simp at hj
        subst hj
        exact (hno i oi (by simpa using hi) hdi hdj).elim
      | succ j =>
        have := nodup_uniq hrec (by simpa using hi) (by simpa using hj) hdi hdj
        omega

/-- What the row of what was found says of one operation. -/
structure Item (cx : Cx) (N : Fm) (hd : Nat → Nat → Bool) (ops : Array Oper) (σ : St) (is : List RI) (i : Nat) (o : Oper) (r : RI) : Prop where
  dst : r.dst = o.dst
  lt : dstOk N o.dst = true
  bef : r.bef = befs (is.take i) o.after.toList
  edges : edgesOk i o.after.toList = true
  does : (guardX cx (Lr σ (dsts ops.toList) (is.take i) (bitsOf r.bef)) σ.facts ops o = .yes ∧
      opx cx (Lr σ (dsts ops.toList) (is.take i) (bitsOf r.bef)) (Br σ (is.take i) (bitsOf r.bef) (hd i)) σ.facts (σ.next + i) o.op = .ok ⟨r.v, r.new, r.wr⟩ ∧
      wrOld (σ.next + i) r.wr = true) ∨
    (guardX cx (Lr σ (dsts ops.toList) (is.take i) (bitsOf r.bef)) σ.facts ops o = .no ∧ r.v = undefSV ∧ r.new = none ∧ r.wr = none)

theorem regGo_spec {cx : Cx} {N : Fm} {hd : Nat → Nat → Bool} {ops : Array Oper} {σ : St} : ∀ {rest : List Oper} {acc is : List RI}, regGo cx N hd ops (dsts ops.toList) σ rest acc = .ok is →
    (∃ tl, is = acc ++ tl) ∧ is.length = acc.length + rest.length ∧ ∀ k o, rest[k]? = some o → ∃ r, is[acc.length + k]? = some r ∧ Item cx N hd ops σ is (acc.length + k) o r
  | [], acc, is, h => by
    simp only [regGo, DR.ok.injEq] at h
    subst h
    exact ⟨⟨[], by simp⟩, by simp, by simp⟩
  | o :: rest, acc, is, h => by
    have step : ∀ r : RI, regGo cx N hd ops (dsts ops.toList) σ rest (acc ++ [r]) = .ok is →
        (∀ is', (∃ tl, is' = acc ++ r :: tl) → Item cx N hd ops σ is' acc.length o r) →
        (∃ tl, is = acc ++ tl) ∧ is.length = acc.length + (o :: rest).length ∧ ∀ k o', (o :: rest)[k]? = some o' → ∃ r, is[acc.length + k]? = some r ∧ Item cx N hd ops σ is (acc.length + k) o' r := by
      intro r h hitem
      obtain ⟨⟨tl, h1⟩, h2, h3⟩ := regGo_spec h
      have h1' : is = acc ++ r :: tl := by rw [h1]; simp
      refine ⟨⟨r :: tl, h1'⟩, by rw [h2]; simp; omega, fun k o' hk => ?_⟩
      cases k with
      | zero =>
        simp at hk
        subst hk
        exact ⟨r, by rw [h1']; simp, hitem is ⟨tl, h1'⟩⟩
      | succ k =>
        obtain ⟨r', h4, h5⟩ := h3 k o' (by simpa using hk)
        simp only [List.length_append, List.length_cons, List.length_nil] at h4 h5
        exact ⟨r', by rw [← h4]; congr 1; omega, by rw [show acc.length + (k + 1) = acc.length + (0 + 1) + k by omega]; exact h5⟩
    have htake : ∀ r is', (∃ tl, is' = acc ++ r :: tl) → is'.take acc.length = acc := by
      rintro r is' ⟨tl, rfl⟩
      simp
    simp only [regGo] at h
    split at h
    · rename_i hc
      rw [Bool.and_eq_true] at hc
      split at h
      · rename_i hg
        split at h
        · rename_i δ hδ
          split at h
          · rename_i hw
            refine step _ h fun is' hi => ?_
            have ht := htake _ is' hi
            exact ⟨rfl, hc.1, by rw [ht], hc.2, Or.inl ⟨by rw [ht]; exact hg, by rw [ht]; exact hδ, hw⟩⟩
          · exact absurd h (by simp)
        · exact absurd h (by simp)
        · exact absurd h (by simp)
      · rename_i hg
        refine step _ h fun is' hi => ?_
        have ht := htake _ is' hi
        exact ⟨rfl, hc.1, by rw [ht], hc.2, Or.inr ⟨by rw [ht]; exact hg, rfl, rfl, rfl⟩⟩
      · exact absurd h (by simp)
      · exact absurd h (by simp)
    · exact absurd h (by simp)

theorem wrIs_of {id : Nat} {wr : Option (Nat × Nat × List SC)} (h : wrIs id wr = true) : ∃ off cs, wr = some (id, off, cs) := by
  cases wr with
  | none => simp [wrIs] at h
  | some y =>
    obtain ⟨y1, y2, y3⟩ := y
    simp only [wrIs] at h
    exact ⟨y2, y3, by rw [Nat.eq_of_beq_eq_true h]⟩
theorem cmpOk_spec {hd : Nat → Nat → Bool} {n : Nat} {is : List RI} (h : cmpOk hd n is = true) {s i t : Nat} {rs ri : RI} (hs : is[s]? = some rs) (hw : wrIs t rs.wr = true) (hi : is[i]? = some ri) :
    i = s ∨ ri.bef.testBit s = true ∨ rs.bef.testBit i = true ∨ (hd i t = true ∧ t ≠ n + i ∧ wrIs t ri.wr = false) := by
  obtain ⟨off, cs, hq⟩ := wrIs_of hw
  unfold cmpOk at h
  rw [List.all_eq_true] at h
  have h1 := h s (List.mem_range.2 (List.getElem?_eq_some_iff.1 hs).1)
  rw [hs] at h1
  simp only at h1
  rw [hq] at h1
  simp only [cmpA] at h1
  rw [List.all_eq_true] at h1
  have h2 := h1 i (List.mem_range.2 (List.getElem?_eq_some_iff.1 hi).1)
  rw [hi] at h2
  simp only [cmp1, ordd, Bool.or_eq_true, Bool.and_eq_true, Bool.not_eq_true'] at h2
  rcases h2 with (h2 | h2 | h2) | ⟨⟨h2, h3⟩, h4⟩
  · exact Or.inl (Nat.eq_of_beq_eq_true h2)
  · exact Or.inr (Or.inl h2)
  · exact Or.inr (Or.inr (Or.inl h2))
  · refine Or.inr (Or.inr (Or.inr ⟨h2, ?_, h4⟩))
    intro e
    rw [e, Nat.beq_refl] at h3
    exact absurd h3 (by simp)

theorem edgesOk_spec {i : Nat} : ∀ {es : List Edge}, edgesOk i es = true → ∀ e ∈ es, Region.binds .any e = true → e.on < i
  | [], _, e, he, _ => by simp at he
  | e' :: es, h, e, he, hb => by
    simp only [edgesOk, Bool.and_eq_true] at h
    rcases List.mem_cons.1 he with rfl | he
    · have h1 := h.1
      rw [hb] at h1
      simp only [Bool.not_true, Bool.false_or, Nat.blt] at h1
      exact Nat.lt_of_succ_le (Nat.le_of_ble_eq_true h1)
    · exact edgesOk_spec h.2 e he hb

def lst (listed : Array Bool) : Nat → Bool := fun j => listed.getD j false
theorem lst_rep (n j : Nat) : lst (Array.replicate n false) j = false := by
  unfold lst
  by_cases h : j < n <;> simp [h]
theorem lst_out {listed : Array Bool} {j : Nat} (h : listed.size ≤ j) : lst listed j = false := by
  unfold lst
  simp [h]

/-- What holds of a frame and a world when some have come up. -/
structure RL (ρ : Nat → Value) (φ : Nat → List Value → List Value) (fx : Fx) (ops : Array Oper) (σ : St) (is : List RI) (p : Nat → Bool) (a : Act) (w : World) (β : Nat → Option Nat) : Prop where
  m : M ρ φ fx (Lr σ (dsts ops.toList) is p) (Br σ is p noHid) β a w
  closed : ∀ j r, is[j]? = some r → p j = true → ∀ k, r.bef.testBit k = true → p k = true
  fresh : ∀ j, p j = false → β (σ.next + j) = none

section
variable {ρ : Nat → Value} {φ : Nat → List Value → List Value} {cx : Cx} {fx : Fx} {ops : Array Oper} {σ : St} {is : List RI} {hd : Nat → Nat → Bool}

theorem befs_lt {acc : List RI} {i : Nat} {o : Oper} (he : edgesOk i o.after.toList = true) (hacc : ∀ (j : Nat) (r : RI), acc[j]? = some r → ∀ k, r.bef.testBit k = true → k < j) {k : Nat} (h : (befs acc o.after.toList).testBit k = true) : k < i := by
  obtain ⟨e, h1, h2, h3⟩ := befs_spec h
  have hlt := edgesOk_spec he e h1 (plainG_binds h2)
  rcases h3 with rfl | ⟨r, h4, h5⟩
  · exact hlt
  · have := hacc _ r h4 k h5
    omega

theorem RL.step (V : Views cx ρ fx) (F : Fits cx.Γ cx.S ρ φ) (C : CtSound cx φ) (hf : σ.facts.hold ρ φ) (hall : ∀ k o, ops.toList[k]? = some o → ∃ r, is[k]? = some r ∧ Item cx fx.fm hd ops σ is k o r) (hlen : is.length = ops.toList.length)
    (hu : Uniq is) (hcmp : cmpOk hd σ.next is = true) (hB0 : ∀ id, σ.next ≤ id → σ.B id = none) (hbl : ∀ (j : Nat) (r : RI), is[j]? = some r → ∀ k, r.bef.testBit k = true → k < j) {Q : Exit → Act → World → Prop} {listed : Array Bool} (hsz : listed.size = ops.size)
    {a : Act} {w : World} {β : Nat → Option Nat} (H : RL ρ φ fx ops σ is (lst listed) a w β) {i : Nat} (hi : i ∈ Region.ready .any ops listed) :
    wpOp cx.P ops Q i (fun a' w' => ∃ β', RL ρ φ fx ops σ is (lst (listed.setIfInBounds i true)) a' w' β') a w := by
  obtain ⟨hun, o, ho, hed⟩ := mem_ready.1 hi
  have ho' : ops.toList[i]? = some o := by simpa using ho
  obtain ⟨r, hr, hit⟩ := hall i o ho'
  have hilt : i < listed.size := by rw [hsz]; exact (Array.getElem?_eq_some_iff.1 ho).1
  have hpi : lst listed i = false := by
    unfold lst
    simp only [Array.getD_eq_getD_getElem?, Array.getElem?_eq_getElem hilt, Option.getD_some] at hun ⊢
    exact hun
  -- what comes before it is listed
  have hbefL : ∀ k, r.bef.testBit k = true → lst listed k = true := by
    intro k hk
    rw [hit.bef] at hk
    obtain ⟨e, h1, h2, h3⟩ := befs_spec hk
    have he := hed e (by simpa using h1) (plainG_binds h2)
    rcases h3 with rfl | ⟨r', h4, h5⟩
    · exact he
    · have h4' : is[e.on]? = some r' := by
        rw [List.getElem?_take] at h4
        split at h4
        · exact h4
        · exact absurd h4 (by simp)
      exact H.closed _ r' h4' he k h5
  have hbit : ∀ k, bitsOf r.bef k = true → lst listed k = true := hbefL
  have hL : ∀ t s, Lr σ (dsts ops.toList) (is.take i) (bitsOf r.bef) t = some s → Lr σ (dsts ops.toList) is (lst listed) t = some s := by
    intro t s h
    unfold Lr at *
    split at h
    · rename_i hd
      rw [if_pos hd]
      obtain ⟨j, rj, h1, h2, h3, h4⟩ := wrt_some h
      have h1' : is[j]? = some rj := by
        rw [List.getElem?_take] at h1
        split at h1
        · exact h1
        · exact absurd h1 (by simp)
      rw [← h4]
      exact wrt_of hu h1' h2 (hbit _ h3)
    · rename_i hd
      rw [if_neg hd]
      exact h
  have hil : i < is.length := (List.getElem?_eq_some_iff.1 hr).1
  have hlt2 : (is.take i).length = i := by simp; omega
  have htk : ∀ j rj, (is.take i)[j]? = some rj → is[j]? = some rj ∧ j < i := by
    intro j rj hj
    rw [List.getElem?_take] at hj
    split at hj
    · rename_i hlt; exact ⟨hj, hlt⟩
    · exact absurd hj (by simp)
  have hB : ∀ id row, Br σ (is.take i) (bitsOf r.bef) (hd i) id = some row → Br σ is (lst listed) noHid id = some row := by
    intro id row h
    unfold Br at *
    split at h
    · exact absurd h (by simp)
    · rename_i hh
      have hh : hd i id = false := by simpa using hh
      show stE σ.next (lst listed) is 0 σ.B id = some row
      -- made at j: known to be made
      have hborn : ∀ j, id = σ.next + j → bitsOf r.bef j = true := by
        intro j he
        cases hq : bitsOf r.bef j with
        | true => rfl
        | false =>
          rw [stE_unborn (hB0 id (by omega)) (fun j' r' hj' he' => by
            have : j' = j := by omega
            subst this
            simpa using hq)] at h
          exact absurd h (by simp)
      rw [← h]
      have e1 : is = is.take i ++ is.drop i := (List.take_append_drop i is).symm
      rw [show stE σ.next (lst listed) is 0 σ.B = stE σ.next (lst listed) (is.take i ++ is.drop i) 0 σ.B by rw [← e1]]
      rw [stE_append, hlt2, Nat.zero_add, stE_none (is := is.drop i)]
      · apply stE_congr
        intro j rj hj ht
        obtain ⟨hj', hlt⟩ := htk j rj hj
        rw [Nat.zero_add] at ht ⊢
        unfold touch at ht
        rw [Bool.or_eq_true] at ht
        rcases ht with ht | ht
        · rw [Bool.and_eq_true] at ht
          have hb := hborn j (Nat.eq_of_beq_eq_true ht.2)
          rw [hb, hbit _ hb]
        · rcases cmpOk_spec hcmp hj' ht hr with h1 | h1 | h1 | h1
          · omega
          · rw [show bitsOf r.bef j = true from h1, hbefL _ h1]
          · have := hbl _ _ hj' _ h1
            omega
          · rw [h1.1] at hh
            exact absurd hh (by simp)
      · intro j rj hj ht
        rw [List.getElem?_drop] at hj
        unfold touch at ht
        rw [Bool.or_eq_true] at ht
        rcases ht with ht | ht
        · rw [Bool.and_eq_true] at ht
          have hb := hborn (i + j) (Nat.eq_of_beq_eq_true ht.2)
          have := hbl _ _ hr _ hb
          omega
        · rcases cmpOk_spec hcmp hj ht hr with h1 | h1 | h1 | h1
          · rw [← h1]; exact hpi
          · have := hbl _ _ hr _ h1
            omega
          · cases hq : lst listed (i + j) with
            | false => rfl
            | true =>
              have := H.closed _ rj hj hq i h1
              rw [hpi] at this
              exact absurd this (by simp)
          · rw [h1.1] at hh
            exact absurd hh (by simp)
  have hM := H.m.less hL hB
  have hn := H.fresh i hpi
  have hg := guardX_ok (cx := cx) F hM hf (ops := ops) (o := o)
  -- the listed ones, with this one
  have hp' : ∀ j, lst (listed.setIfInBounds i true) j = true ↔ (j = i ∨ lst listed j = true) := by
    intro j
    unfold lst
    by_cases hj : j = i
    · subst hj
      simp [hilt]
    · simp only [Array.getD_eq_getD_getElem?, Array.getElem?_setIfInBounds_ne (Ne.symm hj), hj, false_or]
  have hclosed : ∀ j rj, is[j]? = some rj → lst (listed.setIfInBounds i true) j = true → ∀ k, rj.bef.testBit k = true → lst (listed.setIfInBounds i true) k = true := by
    intro j rj hj hpj k hk
    rw [hp']
    rcases (hp' j).1 hpj with rfl | hpj
    · rw [hr] at hj
      simp only [Option.some.injEq] at hj
      subst hj
      exact Or.inr (hbefL k hk)
    · exact Or.inr (H.closed j rj hj hpj k hk)
  have hLafter : ∀ t s, Lr σ (dsts ops.toList) is (lst (listed.setIfInBounds i true)) t = some s → putL (Lr σ (dsts ops.toList) is (lst listed)) o.dst r.v t = some s := by
    intro t s h
    unfold Lr at h
    split at h
    · rename_i hd
      obtain ⟨j, rj, h1, h2, h3, h4⟩ := wrt_some h
      rw [Nat.zero_add, hp'] at h3
      rcases h3 with rfl | h3
      · rw [hr] at h1
        simp only [Option.some.injEq] at h1
        subst h1
        rw [← hit.dst, h2]
        simp only [putL, Nat.beq_refl, if_true]
        rw [h4]
      · have hne : o.dst ≠ some t := by
          intro e
          rw [← hit.dst] at e
          have := hu i j r rj t hr h1 e h2
          subst this
          rw [hpi] at h3
          exact absurd h3 (by simp)
        have : putL (Lr σ (dsts ops.toList) is (lst listed)) o.dst r.v t = Lr σ (dsts ops.toList) is (lst listed) t := by
          cases hod : o.dst with
          | none => rfl
          | some d =>
            have hdt : d ≠ t := fun e => hne (by rw [hod, e])
            simp only [putL]
            rw [if_neg]
            intro e
            exact hdt (Nat.eq_of_beq_eq_true e)
        rw [this]
        unfold Lr
        rw [if_pos hd, ← h4]
        exact wrt_of hu h1 h2 (by simpa using h3)
    · rename_i hd
      have hne : o.dst ≠ some t := by
        intro e
        exact hd (hasN_mem.2 (dsts_mem.2 ⟨i, o, ho', e⟩))
      have : putL (Lr σ (dsts ops.toList) is (lst listed)) o.dst r.v t = Lr σ (dsts ops.toList) is (lst listed) t := by
        cases hod : o.dst with
        | none => rfl
        | some d =>
          have hdt : d ≠ t := fun e => hne (by rw [hod, e])
          simp only [putL]
          rw [if_neg]
          intro e
          exact hdt (Nat.eq_of_beq_eq_true e)
      rw [this]
      unfold Lr
      rw [if_neg hd]
      exact h
  have hpne : ∀ j, j ≠ i → lst (listed.setIfInBounds i true) j = lst listed j := by
    intro j hj
    rw [Bool.eq_iff_iff, hp']
    constructor
    · rintro (h | h)
      · exact absurd h hj
      · exact h
    · exact Or.inr
  have hpi' : lst (listed.setIfInBounds i true) i = true := (hp' i).2 (Or.inl rfl)
  have key : wrOld (σ.next + i) r.wr = true → ∀ id, stE σ.next (lst (listed.setIfInBounds i true)) is 0 σ.B id = effB (stE σ.next (lst listed) is 0 σ.B) ⟨r.v, r.new, r.wr⟩ (σ.next + i) id := by
    intro hwo id
    cases htr : touch σ.next i id r with
    | false =>
      rw [effB_no htr]
      apply stE_congr
      intro j rj hj ht
      rw [Nat.zero_add] at ht ⊢
      apply hpne
      intro e
      subst e
      rw [hr] at hj
      simp only [Option.some.injEq] at hj
      subst hj
      rw [htr] at ht
      exact absurd ht (by simp)
    | true =>
      have e1 : is = is.take i ++ r :: is.drop (i + 1) := by
        have : is.drop i = r :: is.drop (i + 1) := by
          rw [List.drop_eq_getElem_cons hil]
          congr 1
          exact (List.getElem?_eq_some_iff.1 hr).2
        rw [← this]
        exact (List.take_append_drop i is).symm
      -- what comes later in the text and touches the same is not listed
      have hlate : ∀ j rj, (is.drop (i + 1))[j]? = some rj → touch σ.next (i + 1 + j) id rj = true → lst listed (i + 1 + j) = false := by
        intro j rj hj ht
        rw [List.getElem?_drop] at hj
        unfold touch at ht htr
        rw [Bool.or_eq_true] at ht htr
        rcases ht with ht | ht
        · rw [Bool.and_eq_true] at ht
          have h1 := Nat.eq_of_beq_eq_true ht.2
          rcases htr with h2 | h2
          · rw [Bool.and_eq_true] at h2
            have := Nat.eq_of_beq_eq_true h2.2
            omega
          · obtain ⟨off, cs, hq⟩ := wrIs_of h2
            rw [hq] at hwo
            simp only [wrOld, Nat.blt] at hwo
            have := Nat.le_of_ble_eq_true hwo
            omega
        · rcases cmpOk_spec hcmp hj ht hr with h1 | h1 | h1 | h1
          · omega
          · have := hbl _ _ hr _ h1
            omega
          · cases hq2 : lst listed (i + 1 + j) with
            | false => rfl
            | true =>
              have := H.closed _ rj hj hq2 i h1
              rw [hpi] at this
              exact absurd this (by simp)
          · rcases htr with h2 | h2
            · rw [Bool.and_eq_true] at h2
              exact absurd (Nat.eq_of_beq_eq_true h2.2) h1.2.1
            · rw [h1.2.2] at h2
              exact absurd h2 (by simp)
      rw [show stE σ.next (lst (listed.setIfInBounds i true)) is 0 σ.B = stE σ.next (lst (listed.setIfInBounds i true)) (is.take i ++ r :: is.drop (i + 1)) 0 σ.B by rw [← e1]]
      rw [show stE σ.next (lst listed) is 0 σ.B = stE σ.next (lst listed) (is.take i ++ r :: is.drop (i + 1)) 0 σ.B by rw [← e1]]
      rw [stE_append, stE_append]
      simp only [stE, hlt2, Nat.zero_add]
      rw [hpi', hpi]
      simp only [if_true, Bool.false_eq_true, if_false]
      rw [stE_none (fun j rj hj ht => by rw [hpne _ (by omega)]; exact hlate j rj hj ht)]
      have e3 : stE σ.next (lst listed) (is.drop (i + 1)) (i + 1) (stE σ.next (lst listed) (is.take i) 0 σ.B) id = stE σ.next (lst listed) (is.take i) 0 σ.B id := stE_none hlate
      rw [effB_at e3]
      apply effB_at
      apply stE_congr
      intro j rj hj _
      rw [Nat.zero_add]
      exact hpne _ (by have := (htk j rj hj).2; omega)
  unfold wpOp
  rw [ho]
  simp only
  rcases hit.does with ⟨hy, hop, hwo⟩ | ⟨hno, hv, hnew, hwr⟩
  · rw [if_pos (hg.1 hy)]
    refine Or.inl ?_
    refine opx_does V F C hM hf hn hop _ _ fun β' x w' hE hx => ⟨β', ?_⟩
    have hm := M.step (dst := o.dst) H.m hn hE (dstOk_lt hit.lt) hx
    refine ⟨hm.less hLafter ?_, hclosed, ?_⟩
    · intro id row h
      have h : stE σ.next (lst (listed.setIfInBounds i true)) is 0 σ.B id = some row := h
      rw [key hwo] at h
      exact h
    · intro j hj
      have hji : j ≠ i := by
        intro e
        have := (hp' j).2 (Or.inl e)
        rw [hj] at this
        exact absurd this (by simp)
      have hpj : lst listed j = false := by
        cases hq : lst listed j with
        | false => rfl
        | true =>
          have := (hp' j).2 (Or.inr hq)
          rw [hj] at this
          exact absurd this (by simp)
      cases hb : β' (σ.next + j) with
      | none => rfl
      | some b =>
        rcases hE.old _ b hb with h1 | ⟨h1, _⟩
        · rw [H.fresh j hpj] at h1; exact absurd h1 (by simp)
        · omega
  · rw [if_neg (by rw [hg.2 hno]; simp)]
    refine ⟨β, ⟨(H.m.skip (dstOk_lt hit.lt)).less (fun t s ht => ?_) (fun id row h => ?_), hclosed, fun j hj => ?_⟩⟩
    · have ht := hLafter t s ht
      rw [hv] at ht
      exact ht
    · have h : stE σ.next (lst (listed.setIfInBounds i true)) is 0 σ.B id = some row := h
      show stE σ.next (lst listed) is 0 σ.B id = some row
      rw [key (by rw [hwr]; rfl)] at h
      rw [effB_no (by simp [touch, hnew, hwr, wrIs])] at h
      exact h
    · refine H.fresh j ?_
      cases hq : lst listed j with
      | false => rfl
      | true =>
        have := (hp' j).2 (Or.inr hq)
        rw [hj] at this
        exact absurd this (by simp)

theorem bef_lt (hall : ∀ k o, ops.toList[k]? = some o → ∃ r, is[k]? = some r ∧ Item cx fx.fm hd ops σ is k o r) (hlen : is.length = ops.toList.length) :
    ∀ (n : Nat) (j : Nat) (r : RI), j < n → is[j]? = some r → ∀ k, r.bef.testBit k = true → k < j := by
  intro n
  induction n with
  | zero => intro j r hj; omega
  | succ n ih =>
    intro j r hj hr k hk
    have hjl : j < ops.toList.length := by rw [← hlen]; exact (List.getElem?_eq_some_iff.1 hr).1
    obtain ⟨r', hr', hit⟩ := hall j _ (List.getElem?_eq_getElem hjl)
    rw [hr] at hr'
    simp only [Option.some.injEq] at hr'
    subst hr'
    rw [hit.bef] at hk
    refine befs_lt hit.edges (fun j' r' hj' k' hk' => ?_) hk
    rw [List.getElem?_take] at hj'
    split at hj'
    · exact ih j' r' (by omega) hj' k' hk'
    · exact absurd hj' (by simp)

/-- Where nothing may come up any more, all have come up. -/
theorem all_listed (hall : ∀ k o, ops.toList[k]? = some o → ∃ r, is[k]? = some r ∧ Item cx fx.fm hd ops σ is k o r) {listed : Array Bool} (hsz : listed.size = ops.size) (hr : Region.ready .any ops listed = []) :
    ∀ (n : Nat) (j : Nat), j < n → j < ops.size → lst listed j = true := by
  intro n
  induction n with
  | zero => intro j hj; omega
  | succ n ih =>
    intro j hj hjs
    have hjl : j < listed.size := by omega
    cases hq : lst listed j with
    | true => rfl
    | false =>
      have hmem : j ∈ Region.ready .any ops listed := by
        rw [mem_ready]
        have ho : ops[j]? = some ops[j] := Array.getElem?_eq_getElem hjs
        obtain ⟨r, _, hit⟩ := hall j ops[j] (by simp [hjs])
        refine ⟨?_, ops[j], ho, fun e he hb => ?_⟩
        · unfold lst at hq
          simp only [Array.getD_eq_getD_getElem?, Array.getElem?_eq_getElem hjl, Option.getD_some] at hq ⊢
          exact hq
        · have hlt := edgesOk_spec hit.edges e (by simpa using he) hb
          exact ih e.on (by omega) (by omega)
      rw [hr] at hmem
      exact absurd hmem (by simp)

theorem countP_lt {p q : Nat → Bool} : ∀ (l : List Nat), (∀ x ∈ l, q x = true → p x = true) → (∃ x ∈ l, p x = true ∧ q x = false) → l.countP q < l.countP p
  | [], _, h => by obtain ⟨x, hx, _⟩ := h; simp at hx
  | y :: l, h1, h2 => by
    have hle : l.countP q ≤ l.countP p := List.countP_mono_left (fun x hx => h1 x (by simp [hx]))
    simp only [List.countP_cons]
    obtain ⟨x, hx, hp, hq⟩ := h2
    rcases List.mem_cons.1 hx with rfl | hx
    · rw [hp, hq]
      simp
      omega
    · have ih := countP_lt l (fun x hx => h1 x (by simp [hx])) ⟨x, hx, hp, hq⟩
      have hy := h1 y (by simp)
      cases hqy : q y with
      | false => cases p y <;> simp <;> omega
      | true => rw [hy hqy]; simp; omega

theorem wpAny_of_RL (V : Views cx ρ fx) (F : Fits cx.Γ cx.S ρ φ) (C : CtSound cx φ) (hf : σ.facts.hold ρ φ) (hall : ∀ k o, ops.toList[k]? = some o → ∃ r, is[k]? = some r ∧ Item cx fx.fm hd ops σ is k o r) (hlen : is.length = ops.toList.length)
    (hu : Uniq is) (hcmp : cmpOk hd σ.next is = true) (hB0 : ∀ id, σ.next ≤ id → σ.B id = none) {Q : Exit → Act → World → Prop}
    (hQ : ∀ a w β p, (∀ j, j < ops.size → p j = true) → (∀ j, ops.size ≤ j → p j = false) → RL ρ φ fx ops σ is p a w β → Q .normal a w) :
    ∀ (fuel : Nat) (listed : Array Bool) (a : Act) (w : World) (β : Nat → Option Nat), listed.size = ops.size → (∀ j, j < ops.size → lst listed j = false → True) → 
      (List.range ops.size).countP (fun j => !lst listed j) ≤ fuel → RL ρ φ fx ops σ is (lst listed) a w β → wpAny cx.P .any ops Q fuel listed a w := by
  have hbl : ∀ (j : Nat) (r : RI), is[j]? = some r → ∀ k, r.bef.testBit k = true → k < j := fun j r => bef_lt hall hlen (j + 1) j r (by omega)
  intro fuel
  induction fuel with
  | zero =>
    intro listed a w β hsz _ hcnt H
    have hall' : ∀ j, j < ops.size → lst listed j = true := by
      intro j hj
      have h0 : (List.range ops.size).countP (fun j => !lst listed j) = 0 := by omega
      rw [List.countP_eq_zero] at h0
      have := h0 j (List.mem_range.2 hj)
      simpa using this
    refine ⟨?_, hQ a w β _ hall' (fun j hj => lst_out (by omega)) H⟩
    apply List.eq_nil_iff_forall_not_mem.2
    intro j hj
    obtain ⟨h1, o, ho, _⟩ := mem_ready.1 hj
    have hj' := (Array.getElem?_eq_some_iff.1 ho).1
    have := hall' j hj'
    unfold lst at this
    have hjl : j < listed.size := by omega
    simp only [Array.getD_eq_getD_getElem?, Array.getElem?_eq_getElem hjl, Option.getD_some] at h1 this
    rw [h1] at this
    exact absurd this (by simp)
  | succ fuel ih =>
    intro listed a w β hsz _ hcnt H
    refine ⟨fun hr => hQ a w β _ (fun j hj => all_listed hall hsz hr (j + 1) j (by omega) hj) (fun j hj => lst_out (by omega)) H, fun i hi => ?_⟩
    have hstep := RL.step V F C hf hall hlen hu hcmp hB0 hbl hsz H hi (Q := Q)
    refine wpOp_mono (fun a' w' ⟨β', hR⟩ => ?_) hstep
    refine ih (listed.setIfInBounds i true) a' w' β' (by simp [hsz]) (fun _ _ _ => trivial) ?_ hR
    obtain ⟨hun, o, ho, _⟩ := mem_ready.1 hi
    have hil := (Array.getElem?_eq_some_iff.1 ho).1
    have hpi : lst listed i = false := by
      unfold lst
      have hjl : i < listed.size := by omega
      simp only [Array.getD_eq_getD_getElem?, Array.getElem?_eq_getElem hjl, Option.getD_some] at hun ⊢
      exact hun
    have hlt : (List.range ops.size).countP (fun j => !lst (listed.setIfInBounds i true) j) < (List.range ops.size).countP (fun j => !lst listed j) := by
      refine countP_lt _ (fun x hx => ?_) ⟨i, List.mem_range.2 hil, by simp [hpi], ?_⟩
      · intro h
        by_cases hxi : x = i
        · subst hxi; simp [hpi]
        · simp only [Bool.not_eq_true'] at h ⊢
          unfold lst at *
          simp only [Array.getD_eq_getD_getElem?, Array.getElem?_setIfInBounds_ne (Ne.symm hxi)] at h ⊢
          exact h
      · unfold lst
        simp [show i < listed.size by omega]
    omega

theorem finT_look (t : Nat) (s : SV) : ∀ {is : List RI} {l : List (Nat × SV)}, lookA t (finT is l) = some s →
    (∃ (j : Nat) (r : RI), is[j]? = some r ∧ r.dst = some t ∧ r.v = s) ∨ ((∀ (j : Nat) (r : RI), is[j]? = some r → r.dst ≠ some t) ∧ lookA t l = some s)
  | [], l, h => Or.inr ⟨by simp, h⟩
  | r :: is, l, h => by
    simp only [finT] at h
    rcases finT_look t s h with ⟨j, r', h1, h2⟩ | ⟨h1, h2⟩
    · exact Or.inl ⟨j + 1, r', by simpa using h1, h2⟩
    · rw [look_putT] at h2
      cases hd : r.dst with
      | none =>
        rw [hd] at h2
        refine Or.inr ⟨fun j r' hj => ?_, h2⟩
        cases j with
        | zero => simp at hj; subst hj; rw [hd]; simp
        | succ j => exact h1 j r' (by simpa using hj)
      | some d =>
        rw [hd] at h2
        simp only [putL] at h2
        split at h2
        · rename_i hb
          simp only [Option.some.injEq] at h2
          exact Or.inl ⟨0, r, rfl, by rw [hd, Nat.eq_of_beq_eq_true hb], h2⟩
        · rename_i hb
          refine Or.inr ⟨fun j r' hj => ?_, h2⟩
          cases j with
          | zero =>
            simp at hj
            subst hj
            rw [hd]
            intro e
            simp only [Option.some.injEq] at e
            subst e
            simp at hb
          | succ j => exact h1 j r' (by simpa using hj)

def effAll : List RI → Nat → BK → BK
  | [], _, B => B
  | r :: is, nid, B => effAll is (nid + 1) (effB B ⟨r.v, r.new, r.wr⟩ nid)
theorem effB_mono {B B' : BK} (h : ∀ id row, B id = some row → B' id = some row) (δ : Dl) (nid : Nat) : ∀ id row, effB B δ nid id = some row → effB B' δ nid id = some row := by
  have hw : ∀ id row, effW B δ.wr id = some row → effW B' δ.wr id = some row := by
    intro id row hh
    unfold effW at *
    cases hq : δ.wr with
    | none => rw [hq] at hh; exact h id row hh
    | some y =>
      obtain ⟨y1, y2, y3⟩ := y
      rw [hq] at hh
      simp only at hh ⊢
      split at hh
      · rename_i hb
        rw [if_pos hb]
        simp only [Option.map_eq_some_iff] at hh ⊢
        obtain ⟨r, hr, h2⟩ := hh
        exact ⟨r, h _ _ hr, h2⟩
      · rename_i hb
        rw [if_neg hb]
        exact h id row hh
  intro id row hh
  unfold effB at *
  cases hq : δ.new with
  | none => rw [hq] at hh; exact hw id row hh
  | some y =>
    rw [hq] at hh
    simp only at hh ⊢
    split at hh
    · rename_i hb; rw [if_pos hb]; exact hh
    · rename_i hb; rw [if_neg hb]; exact hw id row hh
theorem effAll_mono : ∀ {is : List RI} {nid : Nat} {B B' : BK}, (∀ id row, B id = some row → B' id = some row) → ∀ id row, effAll is nid B id = some row → effAll is nid B' id = some row
  | [], _, _, _, h => h
  | _ :: is, _, _, _, h => effAll_mono (is := is) (fun id row hh => effB_mono h _ _ id row hh)
theorem finB_look {id : Nat} {row : List SC} : ∀ {is : List RI} {nid : Nat} {l : List (Nat × List SC)}, lookA id (finB is nid l) = some row → effAll is nid (fun i => lookA i l) id = some row
  | [], _, _, h => h
  | r :: is, nid, l, h => by
    simp only [finB] at h
    have := finB_look h
    simp only [effAll]
    exact effAll_mono (fun id row h => look_boxes (δ := ⟨r.v, r.new, r.wr⟩) h) id row this

theorem effAll_is {n : Nat} {p : Nat → Bool} : ∀ {is : List RI} {k : Nat} {B : BK}, (∀ j, j < is.length → p (k + j) = true) → effAll is (n + k) B = stE n p is k B
  | [], _, _, _ => rfl
  | r :: is, k, B, hp => by
    simp only [effAll, stE]
    have h0 := hp 0 (by simp)
    simp only [Nat.add_zero] at h0
    rw [if_pos h0]
    exact effAll_is (k := k + 1) (fun j hj => by
      have := hp (j + 1) (by simp; omega)
      rwa [show k + 1 + j = k + (j + 1) by omega])

theorem regF_sound (V : Views cx ρ fx) (F : Fits cx.Γ cx.S ρ φ) (C : CtSound cx φ) {σ' : St} {Q : Exit → Act → World → Prop} {β : Nat → Option Nat} {a : Act} {w : World} {rid : Nat} (hc : cx.P.follows .mixedOrders = true ∧ nodupN (dsts ops.toList) = true) (h : regF cx fx.fm hd ops σ = .ok σ')
    (H : MS ρ φ fx σ β a w) (hf : σ.facts.hold ρ φ) (hQ : ∀ β' a' w', MS ρ φ fx σ' β' a' w' → σ'.facts.hold ρ φ → Q .normal a' w') : (Code.region rid ops true).wp cx.P Q a w := by
  unfold regF at h
  · split at h
    · rename_i is' his
      split at h
      · rename_i hcmp
        simp only [RR.ok.injEq] at h
        subst h
        obtain ⟨_, hlen, hall⟩ := regGo_spec his
        simp only [List.length_nil, Nat.zero_add] at hlen hall
        have hu : Uniq is' := by
          intro i j ri rj d hi hj hdi hdj
          have hil : i < ops.toList.length := by rw [← hlen]; exact (List.getElem?_eq_some_iff.1 hi).1
          have hjl : j < ops.toList.length := by rw [← hlen]; exact (List.getElem?_eq_some_iff.1 hj).1
          obtain ⟨r1, h1, i1⟩ := hall i _ (List.getElem?_eq_getElem hil)
          obtain ⟨r2, h2, i2⟩ := hall j _ (List.getElem?_eq_getElem hjl)
          rw [hi] at h1
          rw [hj] at h2
          simp only [Option.some.injEq] at h1 h2
          subst h1 h2
          exact nodup_uniq hc.2 (List.getElem?_eq_getElem hil) (List.getElem?_eq_getElem hjl) (by rw [← i1.dst]; exact hdi) (by rw [← i2.dst]; exact hdj)
        have hB0 : ∀ id, σ.next ≤ id → σ.B id = none := by
          intro id hid
          cases hq : σ.B id with
          | none => rfl
          | some row =>
            obtain ⟨b, _, _, hb, _⟩ := H.m.box id row hq
            rw [H.nxt id hid] at hb
            exact absurd hb (by simp)
        refine wp_region_any hc.1 ?_
        refine wpAny_of_RL V F C hf hall hlen hu hcmp hB0 (fun a1 w1 β1 p hp hpo HR => ?_) ops.size _ a _ β (by simp) (fun _ _ _ => trivial) ?_ ?_
        · refine hQ β1 a1 w1 ⟨HR.m.less ?_ ?_, ?_⟩ hf
          · intro t s ht
            have ht : lookA t (finT is' σ.tmps) = some s := ht
            unfold Lr
            rcases finT_look t s ht with ⟨j, r, h1, h2, h3⟩ | ⟨h1, h2⟩
            · have hjl : j < ops.toList.length := by rw [← hlen]; exact (List.getElem?_eq_some_iff.1 h1).1
              obtain ⟨r', h4, i4⟩ := hall j _ (List.getElem?_eq_getElem hjl)
              rw [h1] at h4
              simp only [Option.some.injEq] at h4
              subst h4
              have hd : hasN t (dsts ops.toList) = true := hasN_mem.2 (dsts_mem.2 ⟨j, _, List.getElem?_eq_getElem hjl, by rw [← i4.dst]; exact h2⟩)
              rw [if_pos hd, ← h3]
              refine wrt_of hu h1 h2 ?_
              rw [Nat.zero_add]
              exact hp j (by simpa using hjl)
            · rw [if_neg]
              · exact h2
              · intro hd
                obtain ⟨i, o, ho, hod⟩ := dsts_mem.1 (hasN_mem.1 hd)
                obtain ⟨r, hr, hi⟩ := hall i o ho
                exact h1 i r hr (by rw [hi.dst]; exact hod)
          · intro id row hid
            have hid : lookA id (finB is' σ.next σ.boxes) = some row := hid
            have he := finB_look hid
            show stE σ.next p is' 0 σ.B id = some row
            rw [← effAll_is (n := σ.next) (k := 0) (fun j hj => by
              rw [Nat.zero_add]
              exact hp j (by rw [hlen] at hj; simpa using hj))]
            exact he
          · intro id hid
            have hid : σ.next + is'.length ≤ id := hid
            have hl : ops.size = is'.length := by rw [hlen]; simp
            have := HR.fresh (id - σ.next) (hpo _ (by omega))
            rwa [show σ.next + (id - σ.next) = id by omega] at this
        · rw [List.countP_eq_length_filter]
          refine Nat.le_trans (List.length_filter_le _ _) ?_
          simp
        · refine ⟨(H.m.drew).less ?_ ?_, ?_, ?_⟩
          · intro t s ht
            unfold Lr at ht
            split at ht
            · obtain ⟨j, r, h1, h2, h3, h4⟩ := wrt_some ht
              rw [lst_rep] at h3
              exact absurd h3 (by simp)
            · exact ht
          · intro id row hh
            have hh : stE σ.next (lst (Array.replicate ops.size false)) is' 0 σ.B id = some row := hh
            rw [stE_none (fun j _ _ _ => lst_rep _ _)] at hh
            exact hh
          · intro j r _ hl
            rw [lst_rep] at hl
            exact absurd hl (by simp)
          · intro j _
            exact H.nxt _ (by omega)
      · exact absurd h (by simp)
    · exact absurd h (by simp)
    · exact absurd h (by simp)
theorem regD_sound (V : Views cx ρ fx) (F : Fits cx.Γ cx.S ρ φ) (C : CtSound cx φ) {σ' : St} {Q : Exit → Act → World → Prop} {β : Nat → Option Nat} {a : Act} {w : World} {rid : Nat} (h : regD cx fx.fm ops σ = .ok σ')
    (H : MS ρ φ fx σ β a w) (hf : σ.facts.hold ρ φ) (hQ : ∀ β' a' w', MS ρ φ fx σ' β' a' w' → σ'.facts.hold ρ φ → Q .normal a' w') : (Code.region rid ops true).wp cx.P Q a w := by
  unfold regD at h
  split at h
  · rename_i hc
    rw [Bool.and_eq_true] at hc
    split at h
    · split at h
      · exact regF_sound V F C hc h H hf hQ
      · exact regF_sound V F C hc h H hf hQ
    · exact absurd h (by simp)
    · exact absurd h (by simp)
  · exact absurd h (by simp)
end
end Go.SX

/- SX: code: ways, loops; functions. -/
namespace Go.SX
open Go Go.RowKit

inductive XX where
  | normal | exit (id : Nat) | ret
def XX.toExit : XX → Exit
  | .normal => .normal
  | .exit id => .exit id
  | .ret => .ret
inductive Tree where
  | leaf (x : XX) (σ : St) | ite (c : E) (t e : Tree) | stuck
def Tree.bind (f : St → Tree) : Tree → Tree
  | .leaf .normal σ => f σ
  | .leaf x σ => .leaf x σ
  | .ite c t e => .ite c (t.bind f) (e.bind f)
  | .stuck => .stuck
def Tree.unblock (id : Nat) : Tree → Tree
  | .leaf (.exit i) σ => if Nat.beq i id then .leaf .normal σ else .leaf (.exit i) σ
  | .leaf x σ => .leaf x σ
  | .ite c t e => .ite c (t.unblock id) (e.unblock id)
  | .stuck => .stuck
def Tree.all (ρ : Nat → Value) (φ : Nat → List Value → List Value) (K : XX → St → Prop) : Tree → Prop
  | .leaf x σ => K x σ
  | .ite c t e => (c.den ρ φ = .bool true → t.all ρ φ K) ∧ (c.den ρ φ = .bool false → e.all ρ φ K)
  | .stuck => False

/-- The number of the first region: by it a loop is known. -/
def firstId : Code → Option Nat
  | .region id _ _ => some id
  | .seq a b => match firstId a with
    | some i => some i
    | none => firstId b
  | .cond _ a b => match firstId a with
    | some i => some i
    | none => firstId b
  | .block _ c => firstId c
  | .loop c => firstId c
  | .scope c => firstId c
  | _ => none
/-- All loops' bodies. -/
def loops : Code → List Code
  | .seq a b => loops a ++ loops b
  | .cond _ a b => loops a ++ loops b
  | .block _ c => loops c
  | .loop c => c :: loops c
  | .scope c => loops c
  | _ => []
def loopsAt (k : Nat) (body : Code) : List Code := (loops body).filter fun c => match firstId c with
  | some i => Nat.beq i k
  | none => false
def loopOf (k : Nat) (body : Code) : Code := (loopsAt k body).headD .skip

/-- All temporaries that a code writes. -/
def wrs : Code → List Nat
  | .region _ ops _ => dsts ops.toList
  | .seq a b => wrs a ++ wrs b
  | .cond _ a b => wrs a ++ wrs b
  | .block _ c => wrs c
  | .loop c => wrs c
  | .scope c => wrs c
  | _ => []

/-- What a loop takes and gives: temporaries that are read; the ways out, and what stands in which temporaries there. -/
structure Lp where
  key : Nat
  sym : Nat
  ins : List (Nat × PK)
  exits : List (XX × List (Nat × RK))
  als : List (Nat × E)
  pre : Facts
  mu : E
  deriving Inhabited
/-- Temporaries that hold what a term says. -/
def alsOk (L : LK) (es : List E) : List (Nat × E) → Bool
  | [] => true
  | (t, e) :: r => (match L t with
    | some (.one ⟨false, [.e x]⟩) => x.eqv (e.subst (atL es))
    | _ => false) && alsOk L es r
def findLp (k : Nat) : List Lp → Option Lp
  | [] => none
  | l :: ls => if Nat.beq l.key k then some l else findLp k ls
theorem findLp_mem {k : Nat} : ∀ {ls : List Lp} {l : Lp}, findLp k ls = some l → l ∈ ls ∧ l.key = k
  | [], l, h => by simp [findLp] at h
  | l' :: ls, l, h => by
    simp only [findLp] at h
    split at h
    · rename_i hb
      simp only [Option.some.injEq] at h
      subst h
      exact ⟨by simp, Nat.eq_of_beq_eq_true hb⟩
    · have := findLp_mem h
      exact ⟨by simp [this.1], this.2⟩
def outSorts (os : List (Nat × RK)) : List So := os.flatMap fun p => p.2.sorts
def Lp.sorts (lp : Lp) : List So := .int .i64 :: lp.exits.flatMap fun e => outSorts e.2
def RK.isVal : RK → Bool
  | .val _ _ => true
  | .row _ _ => false
def outsT (sym : Nat) (args : E) : Nat → List (Nat × RK) → List (Nat × SV)
  | _, [] => []
  | j, (t, r) :: os => (t, .one (r.part sym args 0 j)) :: outsT sym args (j + r.sorts.length) os
def keepT (ws : List Nat) : List (Nat × SV) → List (Nat × SV)
  | [] => []
  | (t, s) :: l => if hasN t ws then keepT ws l else (t, s) :: keepT ws l
def exitsTree (sym : Nat) (args : E) (σ : St) (ws : List Nat) : Nat → Nat → List (XX × List (Nat × RK)) → Tree
  | _, _, [] => .stuck
  | k, j, [(x, os)] => .leaf x (withTmps σ (outsT sym args j os ++ keepT ws σ.tmps) (.cmp .eql (.app sym 0 args) (.int .i64 (Int.ofNat k))))
  | k, j, (x, os) :: es => .ite (.cmp .eql (.app sym 0 args) (.int .i64 (Int.ofNat k)))
      (.leaf x (withTmps σ (outsT sym args j os ++ keepT ws σ.tmps) (.cmp .eql (.app sym 0 args) (.int .i64 (Int.ofNat k)))))
      (exitsTree sym args σ ws (k + 1) (j + (outSorts os).length) es)
 where withTmps (σ : St) (l : List (Nat × SV)) (c : E) : St := { tmps := l, boxes := σ.boxes, next := σ.next, facts := addFact c true σ.facts }
def allMay (fm : Fm) (ws : List Nat) : Bool := ws.all fun t => Nat.blt t fm.N && fm.may t
section
variable {ρ : Nat → Value} {φ : Nat → List Value → List Value}
theorem atL_den {es : List E} : (fun i => (atL es i).den ρ φ) = fun i => (es.map (·.den ρ φ)).getD i undef := by
  funext i
  unfold atL
  rw [List.getD_eq_getElem?_getD, List.getD_eq_getElem?_getD, List.getElem?_map]
  cases es[i]? <;> rfl

end
def argsL : E → List E
  | .cons a b => a :: argsL b
  | _ => []
theorem argsL_dens (ρ : Nat → Value) (φ : Nat → List Value → List Value) (e : E) : e.dens ρ φ = (argsL e).map (·.den ρ φ) := by
  induction e with
  | cons a b _ ihb => simp only [E.dens, argsL, List.map_cons, ihb]
  | _ => rfl
/-- What is known of a call's arguments when it answers yes. -/
def impsOf (cx : Cx) (sym : Nat) (es : List E) : List Sig → Facts
  | [] => []
  | g :: gs => (if Nat.beq g.sym sym && soOk cx (g.ps.flatMap PK.sorts) es && (g.imp.all fun p => p.1.noApp) then g.imp.map (fun p => (p.1.subst (atL es), p.2)) else []) ++ impsOf cx sym es gs
theorem impsOf_hold {ρ : Nat → Value} {φ : Nat → List Value → List Value} {cx : Cx} (F : Fits cx.Γ cx.S ρ φ) {sym : Nat} {es : List E} (h : (φ sym (es.map (·.den ρ φ))).getD 0 undef = .bool true) : ∀ {ct : List Sig}, (∀ g ∈ ct, g.Sound cx.P φ) → (impsOf cx sym es ct).hold ρ φ
  | [], _, p, hp => by simp [impsOf] at hp
  | g :: ct, C, p, hp => by
    simp only [impsOf] at hp
    rcases List.mem_append.1 hp with hp1 | hp1
    · split at hp1
      · rename_i hc
        simp only [Bool.and_eq_true] at hc
        obtain ⟨⟨h1, h2⟩, h3⟩ := hc
        have h1 := Nat.eq_of_beq_eq_true h1
        subst h1
        have := holdN (φ' := φ) h3 ((C g (by simp)).tells _ (soOk_has F h2) h)
        obtain ⟨q, hq, rfl⟩ := List.mem_map.1 hp1
        simp only
        rw [(subst_den ρ φ (atL es) q.1).1, atL_den]
        exact this q hq
      · simp at hp1
    · exact impsOf_hold F h (fun g hg => C g (by simp [hg])) p hp1
/-- A fact, taken apart by the sorts of its parts. -/
def addF (cx : Cx) : E → Bool → Facts → Facts
  | .not a, b, fs => if cx.so a = .bool then addF cx a (!b) fs else (.not a, b) :: fs
  | .ite a x (.bool false), true, fs => addF cx a true (addF cx x true fs)
  | .ite a (.bool true) y, false, fs => if cx.so a = .bool ∧ cx.so y = .bool then addF cx a false (addF cx y false fs) else (.ite a (.bool true) y, false) :: fs
  | .app g 0 args, true, fs => (.app g 0 args, true) :: (impsOf cx g (argsL args) cx.ct ++ fs)
  | c, b, fs => addFact c b fs
theorem so_bool0 {ρ : Nat → Value} {φ : Nat → List Value → List Value} {cx : Cx} (F : Fits cx.Γ cx.S ρ φ) {e : E} (h : cx.so e = .bool) : e.den ρ φ = .bool (vbool (e.den ρ φ)) := by
  have := E.so_has F e
  rw [show e.so cx.Γ cx.S = .bool from h] at this
  obtain ⟨b, hb⟩ := this
  rw [hb]
  rfl
theorem addF_hold {ρ : Nat → Value} {φ : Nat → List Value → List Value} {cx : Cx} (F : Fits cx.Γ cx.S ρ φ) (C : CtSound cx φ) : ∀ (c : E) (b : Bool) {fs : Facts}, fs.hold ρ φ → c.den ρ φ = .bool b → (addF cx c b fs).hold ρ φ := by
  intro c
  have gen0 : ∀ (c : E) (b : Bool) {fs : Facts}, fs.hold ρ φ → c.den ρ φ = .bool b → Facts.hold ρ φ ((c, b) :: fs) := by
    intro c b fs H h p hp
    rcases List.mem_cons.1 hp with rfl | hp
    · exact h
    · exact H p hp
  induction c with
  | not a ih =>
    intro b fs H h
    simp only [addF]
    split
    · rename_i hb
      refine ih (!b) H ?_
      rw [so_bool0 F hb]
      simp only [E.den, Value.bool.injEq] at h
      rw [← h]
      simp
    · exact gen0 _ b H h
  | ite a x y iha ihx ihy =>
    intro b fs H h
    unfold addF
    split
    · rename_i heq
      cases heq
    · rename_i heq
      cases heq
      have h1 : vbool (a.den ρ φ) = true := by
        cases hq : vbool (a.den ρ φ) with
        | true => rfl
        | false => simp [E.den, hq] at h
      simp only [E.den, h1, if_true] at h
      exact iha true (ihx true H h) (vbool_true h1)
    · rename_i heq
      cases heq
      split
      · rename_i hab
        have h1 : vbool (a.den ρ φ) = false := by
          cases hq : vbool (a.den ρ φ) with
          | false => rfl
          | true => simp [E.den, hq] at h
        simp only [E.den, h1, Bool.false_eq_true, if_false] at h
        exact iha false (ihy false H h) (by rw [so_bool0 F hab.1, h1])
      · exact gen0 _ false H h
    · rename_i heq
      cases heq
    · exact addFact_hold ρ φ _ _ H h
  | app g j args _ =>
    intro b fs H h
    unfold addF
    split
    · rename_i heq
      cases heq
    · rename_i heq
      cases heq
    · rename_i heq
      cases heq
    · rename_i heq
      cases heq
      refine gen0 _ true ?_ h
      intro p hp
      rcases List.mem_append.1 hp with hp | hp
      · refine impsOf_hold F ?_ C p hp
        rw [← argsL_dens]
        exact h
      · exact H p hp
    · exact addFact_hold ρ φ _ _ H h
  | _ => intro b fs H h; exact addFact_hold ρ φ _ b H h
def E.strip : E → E
  | .not a => a.strip
  | e => e
def withFact (cx : Cx) (σ : St) (c : E) (b : Bool) : St := { σ with facts := addF cx c b σ.facts }
def rep (f : St → Tree) : Nat → St → Tree
  | 0, _ => .stuck
  | m + 1, σ => (f σ).bind (rep f m)
def lpX (cx : Cx) (fm : Fm) (lp : Lp) (c : Code) (σ : St) : Tree :=
  match flats cx σ.L σ.B (lp.ins.map (·.2)) (lp.ins.map fun p => .tmp p.1) with
  | some es => if allMay fm (wrs c) && lp.exits.all (fun e => e.2.all fun p => p.2.isVal) && preOk cx σ.facts es lp.pre && alsOk σ.L es lp.als then exitsTree lp.sym (toL es) σ (wrs c) 0 1 lp.exits else .stuck
  | none => .stuck

def exec (cx : Cx) (N : Fm) (ls : List Lp) : Nat → Code → St → Tree
  | 0, _, _ => .stuck
  | n + 1, c, σ =>
    match c with
    | .skip => .leaf .normal σ
    | .region id ops draw =>
      match (if draw then regD cx N ops σ else regT cx N ops ops.toList σ) with
      | .ok σ' => .leaf .normal σ'
      | .split e => if cx.so e.strip = .bool then .ite e.strip (exec cx N ls n (.region id ops draw) (withFact cx σ e.strip true)) (exec cx N ls n (.region id ops draw) (withFact cx σ e.strip false)) else .stuck
      | .stuck => .stuck
    | .seq a b => (exec cx N ls n a σ).bind (exec cx N ls n b)
    | .cond o a b =>
      match (opd σ.L o).bind SV.ex with
      | some e => match dec cx σ.facts e with
        | some true => exec cx N ls n a σ
        | some false => exec cx N ls n b σ
        | none => if cx.so e.strip = .bool then .ite e.strip (exec cx N ls n (.cond o a b) (withFact cx σ e.strip true)) (exec cx N ls n (.cond o a b) (withFact cx σ e.strip false)) else .stuck
      | none => .stuck
    | .block id c => (exec cx N ls n c σ).unblock id
    | .loop c => match (firstId c).bind (fun k => findLp k ls) with
      | some lp => lpX cx N lp c σ
      | none => rep (exec cx N ls n c) n σ
    | .exit id => .leaf (.exit id) σ
    | .ret => .leaf .ret σ
    | .scope c => exec cx N ls n c σ
    | _ => .stuck

section
variable {ρ : Nat → Value} {φ : Nat → List Value → List Value} {cx : Cx} {fx : Fx}

theorem Tree.all_mono {K K' : XX → St → Prop} (h : ∀ x σ, K x σ → K' x σ) : ∀ {T : Tree}, T.all ρ φ K → T.all ρ φ K'
  | .leaf _ _, H => h _ _ H
  | .ite _ _ _, H => ⟨fun hc => Tree.all_mono h (H.1 hc), fun hc => Tree.all_mono h (H.2 hc)⟩
  | .stuck, H => H.elim
theorem Tree.all_bind {f : St → Tree} {K : XX → St → Prop} : ∀ {T : Tree}, (T.bind f).all ρ φ K → T.all ρ φ fun x σ => match x with
    | .normal => (f σ).all ρ φ K
    | x => K x σ
  | .leaf .normal _, H => H
  | .leaf (.exit _) _, H => H
  | .leaf .ret _, H => H
  | .ite _ _ _, H => ⟨fun hc => Tree.all_bind (H.1 hc), fun hc => Tree.all_bind (H.2 hc)⟩
  | .stuck, H => H.elim
theorem Tree.all_unblock {id : Nat} {K : XX → St → Prop} : ∀ {T : Tree}, (T.unblock id).all ρ φ K → T.all ρ φ fun x σ => match x with
    | .exit i => if i = id then K .normal σ else K (.exit i) σ
    | x => K x σ
  | .leaf .normal _, H => H
  | .leaf (.exit i) _, H => by
    simp only [Tree.unblock] at H
    simp only [Tree.all]
    by_cases h : i = id
    · subst h
      simp only [Nat.beq_refl, if_true] at H ⊢
      exact H
    · have : ¬ Nat.beq i id = true := fun e => h (Nat.eq_of_beq_eq_true e)
      rw [if_neg this] at H
      rw [if_neg h]
      exact H
  | .leaf .ret _, H => H
  | .ite _ _ _, H => ⟨fun hc => Tree.all_unblock (H.1 hc), fun hc => Tree.all_unblock (H.2 hc)⟩
  | .stuck, H => H.elim

/-- At the end of a piece of code. -/
def Ends (ρ : Nat → Value) (φ : Nat → List Value → List Value) (fx : Fx) (Q : Exit → Act → World → Prop) (x : XX) (σ : St) : Prop :=
  ∀ β a w, MS ρ φ fx σ β a w → σ.facts.hold ρ φ → Q x.toExit a w

theorem MS.facts {σ : St} {β : Nat → Option Nat} {a : Act} {w : World} (H : MS ρ φ fx σ β a w) (fs : Facts) : MS ρ φ fx { σ with facts := fs } β a w := ⟨H.m, H.nxt⟩

def outsAt (tm : Array Value) (out : List Value) : Nat → List (Nat × RK) → Prop
  | _, [] => True
  | j, (t, r) :: os => (∃ x, tm[t]? = some x ∧ ∀ w w' : World, r.gives w w' out j x) ∧ outsAt tm out (j + r.sorts.length) os
/-- Way number k, and where what it gives begins. -/
def exitAt : Nat → Nat → List (XX × List (Nat × RK)) → Nat → Option (XX × Nat × List (Nat × RK))
  | _, _, [], _ => none
  | k, j, (x, os) :: es, m => if Nat.beq k m then some (x, j, os) else exitAt (k + 1) (j + (outSorts os).length) es m

/-- A loop does what its contract says. -/
def Lp.Sound (lp : Lp) (P : Program) (φ : Nat → List Value → List Value) (N : Nat) (c : Code) : Prop :=
  ∀ (a : Act) (w : World) (fl : List Value) (Q : Exit → Act → World → Prop), a.tmps.size = N → a.defers = [] → readsAll w (lp.ins.map (·.2)) (lp.ins.map fun p => a.eval (.tmp p.1)) fl → lp.pre.hold (fun i => fl.getD i undef) φ → (∀ p ∈ lp.als, a.tmps[p.1]? = some (p.2.den (fun i => fl.getD i undef) φ)) →
    (∀ k x j os a' w', exitAt 0 1 lp.exits k = some (x, j, os) → (φ lp.sym fl).getD 0 undef = .int .i64 (Int.ofNat k) → a'.tmps.size = N → a'.defers = [] → (∀ t, hasN t (wrs c) = false → a'.tmps[t]? = a.tmps[t]?) →
      outsAt a'.tmps (φ lp.sym fl) j os → Below w.heap.size w w' → Q x.toExit a' w') → (Code.loop c).wp P Q a w

theorem keepT_look {ws : List Nat} {t : Nat} {s : SV} : ∀ {l : List (Nat × SV)}, lookA t (keepT ws l) = some s → hasN t ws = false ∧ lookA t l = some s
  | [], h => by simp [keepT, lookA] at h
  | (u, s') :: l, h => by
    simp only [keepT] at h
    split at h
    · rename_i hu
      obtain ⟨h1, h2⟩ := keepT_look h
      refine ⟨h1, ?_⟩
      simp only [lookA]
      rw [if_neg]
      · exact h2
      · intro e
        rw [Nat.eq_of_beq_eq_true e] at hu
        rw [hu] at h1
        exact absurd h1 (by simp)
    · rename_i hu
      simp only [lookA] at h
      split at h
      · rename_i hb
        have := Nat.eq_of_beq_eq_true hb
        subst this
        simp only [Option.some.injEq] at h
        subst h
        refine ⟨by simpa using hu, ?_⟩
        simp [lookA]
      · rename_i hb
        obtain ⟨h1, h2⟩ := keepT_look h
        refine ⟨h1, ?_⟩
        simp only [lookA]
        rw [if_neg hb]
        exact h2

theorem outsT_look {sym : Nat} {args : E} {tm : Array Value} {t : Nat} {s : SV} {β : Nat → Option Nat} : ∀ {os : List (Nat × RK)} {j : Nat} {rest : List (Nat × SV)}, os.all (fun p => p.2.isVal) = true → outsAt tm (φ sym (args.dens ρ φ)) j os →
    lookA t (outsT sym args j os ++ rest) = some s → (∃ x, tm[t]? = some x ∧ s.is ρ φ β x) ∨ lookA t rest = some s
  | [], j, rest, _, _, h => Or.inr h
  | (u, r) :: os, j, rest, hv, ho, h => by
    simp only [List.all_cons, Bool.and_eq_true] at hv
    simp only [outsT, List.cons_append, lookA] at h
    split at h
    · rename_i hb
      have := Nat.eq_of_beq_eq_true hb
      subst this
      simp only [Option.some.injEq] at h
      subst h
      obtain ⟨x, hx, hg⟩ := ho.1
      refine Or.inl ⟨x, hx, ?_⟩
      exact part_val (w := default) (w' := default) (fun n s e => by rw [e] at hv; simp [RK.isVal] at hv) (hg _ _)
    · exact outsT_look hv.2 ho.2 h

theorem exits_all {K : XX → St → Prop} {sym : Nat} {args : E} {σ : St} {ws : List Nat} : ∀ {es : List (XX × List (Nat × RK))} {k j : Nat}, (exitsTree sym args σ ws k j es).all ρ φ K → ∀ m x i os, exitAt k j es m = some (x, i, os) →
    (φ sym (args.dens ρ φ)).getD 0 undef = .int .i64 (Int.ofNat m) → K x (exitsTree.withTmps σ (outsT sym args i os ++ keepT ws σ.tmps) (.cmp .eql (.app sym 0 args) (.int .i64 (Int.ofNat m)))) ∧ (E.cmp .eql (.app sym 0 args) (.int .i64 (Int.ofNat m))).den ρ φ = .bool true
  | [], k, j, h, m, x, i, os, he, hm => by simp [exitAt] at he
  | (y, ys) :: es, k, j, h, m, x, i, os, he, hm => by
    have hden : ∀ q : Nat, (E.cmp .eql (.app sym 0 args) (.int .i64 (Int.ofNat q))).den ρ φ = .bool (Int.ofNat m == Int.ofNat q) := by
      intro q
      simp only [E.den, hm, icmp, vint_int]
    simp only [exitAt] at he
    split at he
    · rename_i hb
      have := Nat.eq_of_beq_eq_true hb
      subst this
      simp only [Option.some.injEq, Prod.mk.injEq] at he
      obtain ⟨rfl, rfl, rfl⟩ := he
      refine ⟨?_, by rw [hden]; simp⟩
      cases es with
      | nil => exact h
      | cons e0 es0 => exact h.1 (by rw [hden]; simp)
    · rename_i hb
      cases es with
      | nil => simp [exitAt] at he
      | cons e0 es0 =>
      refine exits_all (h.2 ?_) m x i os he hm
      rw [hden]
      congr 1
      rw [beq_eq_false_iff_ne]
      intro e
      exact hb (by rw [show k = m from (Int.ofNat.inj e).symm]; exact Nat.beq_refl _)

theorem alsOk_hold {L : LK} {B : BK} {β : Nat → Option Nat} {a : Act} {w : World} (H : M ρ φ fx L B β a w) {es : List E} : ∀ {als : List (Nat × E)}, alsOk L es als = true → ∀ p ∈ als, a.tmps[p.1]? = some (p.2.den (fun i => (es.map (·.den ρ φ)).getD i undef) φ)
  | [], _, p, hp => by simp at hp
  | (t, e) :: als, h, p, hp => by
    simp only [alsOk, Bool.and_eq_true] at h
    rcases List.mem_cons.1 hp with rfl | hp
    · have h1 := h.1
      split at h1
      · rename_i x hx
        obtain ⟨v, hv, hs⟩ := H.tmps t _ hx
        have hs : v = x.den ρ φ := hs
        rw [hv, hs, E.eqv_eq h1, (subst_den ρ φ (atL es) e).1, atL_den]
      · exact absurd h1 (by simp)
    · exact alsOk_hold H h.2 p hp

theorem lpX_sound (V : Views cx ρ fx) (F : Fits cx.Γ cx.S ρ φ) {lp : Lp} {c : Code} {σ : St} {β : Nat → Option Nat} {a : Act} {w : World} {Q : Exit → Act → World → Prop} (hs : lp.Sound cx.P φ fx.fm.N c)
    (H : MS ρ φ fx σ β a w) (hf : σ.facts.hold ρ φ) (h : (lpX cx fx.fm lp c σ).all ρ φ (Ends ρ φ fx Q)) : (Code.loop c).wp cx.P Q a w := by
  unfold lpX at h
  split at h
  · rename_i es hes
    split at h
    · rename_i hc
      rw [Bool.and_eq_true, Bool.and_eq_true, Bool.and_eq_true] at hc
      obtain ⟨⟨hc, hpre⟩, hals⟩ := hc
      have hr := flats_reads V F H.m hes
      rw [List.map_map] at hr
      refine hs a w _ Q H.m.size H.m.dfr hr (preOk_hold F hf hpre) (alsOk_hold H.m hals) ?_
      intro k x j os a' w' he hk hsz hdf hfr ho hbl
      rw [← toL_dens] at hk ho
      obtain ⟨hE, hcond⟩ := exits_all h k x j os he hk
      have hval : os.all (fun p => p.2.isVal) = true := by
        have hmem : ∀ {es : List (XX × List (Nat × RK))} {k j : Nat}, exitAt k j es (k + 0) = exitAt k j es k := fun {_ _ _} => rfl
        have : ∀ (es : List (XX × List (Nat × RK))) (k' j' : Nat), exitAt k' j' es k = some (x, j, os) → (x, os) ∈ es := by
          intro es
          induction es with
          | nil => intro k' j' he; simp [exitAt] at he
          | cons e es ih =>
            obtain ⟨y, ys⟩ := e
            intro k' j' he
            simp only [exitAt] at he
            split at he
            · simp only [Option.some.injEq, Prod.mk.injEq] at he
              obtain ⟨rfl, _, rfl⟩ := he
              simp
            · exact List.mem_cons_of_mem _ (ih _ _ he)
        exact List.all_eq_true.1 hc.2 _ (this _ _ _ he)
      refine hE β a' w' ⟨⟨?_, ?_, hdf, ?_, ?_, ?_, H.m.inj, fun id b hb => Nat.lt_of_lt_of_le (H.m.inh id b hb) hbl.size⟩, H.nxt⟩ (addFact_hold ρ φ _ _ hf hcond)
      · intro t s ht
        rcases outsT_look (β := β) hval ho ht with h1 | h1
        · exact h1
        · obtain ⟨h2, h3⟩ := keepT_look h1
          rw [hfr t h2]
          exact H.m.tmps t s h3
      · rw [hsz]
      · intro t ht
        rw [hfr t, H.m.frm t ht]
        cases hq : hasN t (wrs c) with
        | false => rfl
        | true =>
          have := List.all_eq_true.1 hc.1 t (hasN_mem.1 hq)
          rw [Bool.and_eq_true] at this
          rw [this.2] at ht
          exact absurd ht (by simp)
      · refine ⟨hbl.os.trans H.m.low.os, hbl.tape.trans H.m.low.tape, hbl.output.trans H.m.low.output, Nat.le_trans H.m.low.size hbl.size, fun b hb hX => ?_⟩
        rw [hbl.block b (Nat.lt_of_lt_of_le hb H.m.low.size)]
        exact H.m.low.block b hb hX
      · intro id row hrow
        obtain ⟨b, vs, T, h1, h2, h3, h4⟩ := H.m.box id row hrow
        exact ⟨b, vs, T, h1, h2, by rw [hbl.block b (H.m.inh _ _ h1)]; exact h3, h4⟩
    · exact h.elim
  · exact h.elim

theorem exec_sound (V : Views cx ρ fx) (F : Fits cx.Γ cx.S ρ φ) (C : CtSound cx φ) {ls : List Lp} (body : Code) (hls : ∀ lp ∈ ls, ∀ c ∈ loops body, firstId c = some lp.key → lp.Sound cx.P φ fx.fm.N c) :
    ∀ (n : Nat) (c : Code) (σ : St) (β : Nat → Option Nat) (a : Act) (w : World) (Q : Exit → Act → World → Prop), (∀ l ∈ loops c, l ∈ loops body) → MS ρ φ fx σ β a w → σ.facts.hold ρ φ →
      (exec cx fx.fm ls n c σ).all ρ φ (Ends ρ φ fx Q) → c.wp cx.P Q a w := by
  intro n
  induction n with
  | zero => intro c σ β a w Q _ _ _ h; exact h.elim
  | succ n ih =>
    intro c σ β a w Q hsub H hf h
    have two : ∀ {e : E} {t1 t2 : Tree}, cx.so e = .bool → (Tree.ite e t1 t2).all ρ φ (Ends ρ φ fx Q) →
        (e.den ρ φ = .bool true ∧ t1.all ρ φ (Ends ρ φ fx Q)) ∨ (e.den ρ φ = .bool false ∧ t2.all ρ φ (Ends ρ φ fx Q)) := by
      intro e t1 t2 hb hall
      have hb := so_bool F hb
      cases hv : vbool (e.den ρ φ) with
      | true => rw [hv] at hb; exact Or.inl ⟨hb, hall.1 hb⟩
      | false => rw [hv] at hb; exact Or.inr ⟨hb, hall.2 hb⟩
    have fact : ∀ {e : E} {b : Bool}, e.den ρ φ = .bool b → MS ρ φ fx (withFact cx σ e b) β a w ∧ (withFact cx σ e b).facts.hold ρ φ := by
      intro e b he
      exact ⟨H.facts _, addF_hold F C e b hf he⟩
    simp only [exec] at h
    split at h
    · exact wp_skip (h β a w H hf)
    · rename_i id ops draw
      split at h
      · rename_i σ' hr
        cases draw with
        | true =>
          simp only [if_true] at hr
          exact regD_sound V F C hr H hf fun β' a' w' h1 h2 => h β' a' w' h1 h2
        | false =>
          simp only [Bool.false_eq_true, if_false] at hr
          exact wp_region_list (regT_sound V F C hr H hf fun β' a' w' h1 h2 => h β' a' w' h1 h2)
      · rename_i e hr
        split at h
        · rename_i hb
          rcases two hb h with ⟨h1, h2⟩ | ⟨h1, h2⟩
          · obtain ⟨g1, g2⟩ := fact h1
            exact ih _ _ β a w Q hsub g1 g2 h2
          · obtain ⟨g1, g2⟩ := fact h1
            exact ih _ _ β a w Q hsub g1 g2 h2
        · exact h.elim
      · exact h.elim
    · rename_i x y
      refine wp_seq ?_
      refine ih x σ β a w _ (fun l hl => hsub l (by simp [loops, hl])) H hf (Tree.all_mono ?_ (Tree.all_bind h))
      intro x' σ' hx β' a' w' hM hF
      cases x' with
      | normal => exact ih y σ' β' a' w' Q (fun l hl => hsub l (by simp [loops, hl])) hM hF hx
      | exit id => exact hx β' a' w' hM hF
      | ret => exact hx β' a' w' hM hF
    · rename_i o x y
      split at h
      · rename_i e he
        have hev : a.eval o = e.den ρ φ := exIs H.m he
        split at h
        · rename_i hd
          have hd := dec_sound F hf hd
          exact wp_cond_true (by rw [hev, hd]) (ih x σ β a w Q (fun l hl => hsub l (by simp [loops, hl])) H hf h)
        · rename_i hd
          have hd := dec_sound F hf hd
          exact wp_cond_false (by rw [hev, hd]) (ih y σ β a w Q (fun l hl => hsub l (by simp [loops, hl])) H hf h)
        · split at h
          · rename_i hb
            rcases two hb h with ⟨h1, h2⟩ | ⟨h1, h2⟩
            · obtain ⟨g1, g2⟩ := fact h1
              exact ih _ _ β a w Q hsub g1 g2 h2
            · obtain ⟨g1, g2⟩ := fact h1
              exact ih _ _ β a w Q hsub g1 g2 h2
          · exact h.elim
      · exact h.elim
    · rename_i id x
      refine wp_block ?_
      refine ih x σ β a w _ hsub H hf (Tree.all_mono ?_ (Tree.all_unblock h))
      intro x' σ' hx β' a' w' hM hF
      cases x' with
      | normal => exact hx β' a' w' hM hF
      | exit i =>
        simp only [XX.toExit, Exit.inBlock]
        simp only at hx
        split
        · rename_i hi
          rw [if_pos hi] at hx
          exact hx β' a' w' hM hF
        · rename_i hi
          rw [if_neg hi] at hx
          exact hx β' a' w' hM hF
      | ret => exact hx β' a' w' hM hF
    · rename_i x
      split at h
      · rename_i lp hlp
        simp only [Option.bind_eq_some_iff] at hlp
        obtain ⟨k, hk, hl⟩ := hlp
        obtain ⟨hmem, rfl⟩ := findLp_mem hl
        exact lpX_sound V F (hls lp hmem x (hsub x (by simp [loops])) hk) H hf h
      · refine wp_loop_rounds n ?_
        have key : ∀ (m : Nat) (σ : St) (β : Nat → Option Nat) (a : Act) (w : World), MS ρ φ fx σ β a w → σ.facts.hold ρ φ → (rep (exec cx fx.fm ls n x) m σ).all ρ φ (Ends ρ φ fx Q) → Code.rounds cx.P x Q m a w := by
          intro m
          induction m with
          | zero => intro σ β a w _ _ h; exact h.elim
          | succ m ihm =>
            intro σ β a w H hf h
            rw [rounds_succ]
            simp only [rep] at h
            refine ih x σ β a w _ (fun l hl => hsub l (by simp [loops, hl])) H hf (Tree.all_mono ?_ (Tree.all_bind h))
            intro x' σ' hx β' a' w' hM hF
            cases x' with
            | normal => exact ihm σ' β' a' w' hM hF hx
            | exit id => exact hx β' a' w' hM hF
            | ret => exact hx β' a' w' hM hF
        exact key n σ β a w H hf h
    · rename_i id
      exact wp_exit (h β a w H hf)
    · exact wp_ret (h β a w H hf)
    · rename_i x
      refine wp_scope_straight ?_
      refine ih x σ β a w _ hsub H hf (Tree.all_mono ?_ h)
      intro x' σ' hx β' a' w' hM hF
      cases x' with
      | normal => exact hx β' a' w' hM hF
      | exit i => exact hx β' a' w' hM hF
      | ret => exact hx β' a' w' hM hF
    · exact h.elim
end

/-! ### Functions -/
inductive RTree where
  | leaf (v : SV) (σ : St) | ite (c : E) (t e : RTree) | stuck
def resPart (cx : Cx) (σ : St) : ResultVar → Option Part
  | .tmp t => match σ.L t with
    | some (.one p) => some p
    | _ => none
  | .cell t ty => match (σ.L t).bind SV.sc with
    | some (.ptr id off) => match loadX cx σ.B σ.facts ty (.ptr id off) with
      | .ok δ => match δ.v with
        | .one p => some p
        | _ => none
      | _ => none
    | _ => none
def resParts (cx : Cx) (σ : St) : List ResultVar → Option (List Part)
  | [] => some []
  | r :: rs => match resPart cx σ r, resParts cx σ rs with
    | some p, some ps => some (p :: ps)
    | _, _ => none
def resX (cx : Cx) (fn : Func) (σ : St) : Option SV :=
  match resParts cx σ fn.results.toList with
  | some [p] => some (.one p)
  | some ps => some (.tup ps)
  | none => none
def Tree.res (cx : Cx) (fn : Func) : Tree → RTree
  | .leaf .normal σ => match resX cx fn σ with
    | some v => .leaf v σ
    | none => .stuck
  | .leaf .ret σ => match resX cx fn σ with
    | some v => .leaf v σ
    | none => .stuck
  | .leaf (.exit _) _ => .stuck
  | .ite c t e => .ite c (t.res cx fn) (e.res cx fn)
  | .stuck => .stuck
def RTree.all (ρ : Nat → Value) (φ : Nat → List Value → List Value) (K : SV → St → Prop) : RTree → Prop
  | .leaf v σ => K v σ
  | .ite c t e => (c.den ρ φ = .bool true → t.all ρ φ K) ∧ (c.den ρ φ = .bool false → e.all ρ φ K)
  | .stuck => False

def argT : Nat → List SV → List (Nat × SV)
  | _, [] => []
  | i, s :: ss => (i, s) :: argT (i + 1) ss
def start (args : List SV) (facts : Facts) : St := { tmps := argT 0 args, boxes := [], next := 0, facts }
def fnX (cx : Cx) (ls : List Lp) (n : Nat) (fn : Func) (c : Code) (args : List SV) (facts : Facts) : RTree :=
  (exec cx ⟨args.length + (fn.ntmps - args.length), none⟩ ls n c (start args facts)).res cx fn

section
variable {ρ : Nat → Value} {φ : Nat → List Value → List Value} {cx : Cx} {fx : Fx}
theorem argT_look {t : Nat} {s : SV} : ∀ {ss : List SV} {i : Nat}, lookA t (argT i ss) = some s → ∃ j, t = i + j ∧ ss[j]? = some s
  | [], i, h => by simp [argT, lookA] at h
  | s' :: ss, i, h => by
    simp only [argT, lookA] at h
    split at h
    · rename_i hb
      simp only [Option.some.injEq] at h
      subst h
      exact ⟨0, by rw [Nat.add_zero]; exact (Nat.eq_of_beq_eq_true hb).symm, rfl⟩
    · obtain ⟨j, h1, h2⟩ := argT_look h
      exact ⟨j + 1, by omega, by simpa using h2⟩

def resStep (tmps : Array Value) : ResultVar → Sem Value
  | .tmp t => pure (tmps.getD t undef)
  | .cell t ty => do loadVar ty (← asAddr (tmps.getD t undef))
theorem results_eq (fn : Func) (tmps : Array Value) : results fn tmps = (do
    let vs ← fn.results.mapM (resStep tmps)
    pure (if h : vs.size = 1 then vs[0] else .tuple vs)) := by
  unfold results
  congr 1

theorem resPart_run (V : Views cx ρ fx) (F : Fits cx.Γ cx.S ρ φ) {σ : St} {β : Nat → Option Nat} {a : Act} {w : World} (H : MS ρ φ fx σ β a w) (hf : σ.facts.hold ρ φ) {r : ResultVar} {p : Part} (h : resPart cx σ r = some p) :
    ∃ x, (resStep a.tmps r).run cx.P w = .ok x w ∧ p.is ρ φ β x := by
  unfold resPart at h
  split at h
  · rename_i t
    split at h
    · rename_i p' hp
      simp only [Option.some.injEq] at h
      subst h
      exact ⟨_, rfl, opd_is (x := .tmp t) H.m hp⟩
    · exact absurd h (by simp)
  · rename_i t ty
    split at h
    · rename_i id off hc
      split at h
      · rename_i δ hδ
        split at h
        · rename_i p' hp
          simp only [Option.some.injEq] at h
          subst h
          have hcis := scIs H.m (x := .tmp t) hc
          obtain ⟨b, hb, hv⟩ := hcis
          have hr := loadX_run V F H.m hf hδ (v := .pointer (some ⟨b, off, none⟩)) ⟨b, hb, rfl⟩
          obtain ⟨_, _, x, hx, hxv⟩ := hr
          rw [hp] at hxv
          refine ⟨x, ?_, hxv⟩
          have hv : a.tmps.getD t undef = _ := hv
          simp only [resStep]
          rw [hv]
          simpa [asAddr, Instr.loadAt, Instr.sureAddr] using hx
        · exact absurd h (by simp)
      · exact absurd h (by simp)
    · exact absurd h (by simp)

theorem resParts_run (V : Views cx ρ fx) (F : Fits cx.Γ cx.S ρ φ) {σ : St} {β : Nat → Option Nat} {a : Act} {w : World} (H : MS ρ φ fx σ β a w) (hf : σ.facts.hold ρ φ) : ∀ {rs : List ResultVar} {ps : List Part}, resParts cx σ rs = some ps →
    ∃ xs : List Value, (rs.mapM (resStep a.tmps)).run cx.P w = .ok xs w ∧ All2 (Part.is ρ φ β) ps xs
  | [], ps, h => by
    simp only [resParts, Option.some.injEq] at h
    subst h
    exact ⟨[], by simp, trivial⟩
  | r :: rs, ps, h => by
    simp only [resParts] at h
    split at h
    · rename_i p ps' hp hps
      simp only [Option.some.injEq] at h
      subst h
      obtain ⟨x, hx1, hx2⟩ := resPart_run V F H hf hp
      obtain ⟨xs, hxs1, hxs2⟩ := resParts_run V F H hf hps
      refine ⟨x :: xs, ?_, hx2, hxs2⟩
      simp only [List.mapM_cons, Sem.run_bind, hx1, Result.andThen_ok, hxs1, Sem.run_pure]
    · exact absurd h (by simp)

theorem resX_run (V : Views cx ρ fx) (F : Fits cx.Γ cx.S ρ φ) {fn : Func} {σ : St} {β : Nat → Option Nat} {a : Act} {w : World} (H : MS ρ φ fx σ β a w) (hf : σ.facts.hold ρ φ) {v : SV} (h : resX cx fn σ = some v) :
    ∃ x, (results fn a.tmps).run cx.P w = .ok x w ∧ v.is ρ φ β x := by
  have base : ∀ {ps : List Part}, resParts cx σ fn.results.toList = some ps → ∃ xs : List Value, (results fn a.tmps).run cx.P w = .ok (if h : xs.toArray.size = 1 then xs.toArray[0] else .tuple xs.toArray) w ∧ All2 (Part.is ρ φ β) ps xs := by
    intro ps hps
    obtain ⟨xs, h1, h2⟩ := resParts_run V F H hf hps
    refine ⟨xs, ?_, h2⟩
    rw [results_eq, Array.mapM_eq_mapM_toList]
    simp only [Sem.run_bind, Sem.run_map, h1, Result.andThen_ok, Sem.run_pure]
  unfold resX at h
  split at h
  · rename_i p hps
    simp only [Option.some.injEq] at h
    subst h
    obtain ⟨xs, h1, h2⟩ := base hps
    match xs, h2 with
    | [x], h2 => exact ⟨x, by rw [h1]; rfl, h2.1⟩
  · rename_i ps hne hps
    simp only [Option.some.injEq] at h
    subst h
    obtain ⟨xs, h1, h2⟩ := base hps
    refine ⟨.tuple xs.toArray, ?_, xs, rfl, h2⟩
    rw [h1, dif_neg]
    intro e
    have hl := h2.length
    have e : xs.length = 1 := by simpa using e
    match ps, hne, hl with
    | [p], hne, _ => exact hne p rfl
    | [], _, hl => simp only [List.length_nil] at hl; omega
    | _ :: _ :: _, _, hl => simp only [List.length_cons] at hl; omega
  · exact absurd h (by simp)

/-- **A function does what its tree says.** -/
theorem calls_sx (F : Fits cx.Γ cx.S ρ φ) (C : CtSound cx φ) {ls : List Lp} {f : FuncId} {fn : Func} {c : Code} {n : Nat} {args : List SV} {facts : Facts} {xs : List Value} {T : RTree} {w : World} {R : Ending → World → Prop}
    (hls : ∀ lp ∈ ls, ∀ l ∈ loops c, firstId l = some lp.key → lp.Sound cx.P φ (args.length + (fn.ntmps - args.length)) l)
    (hfn : cx.P.funcs[f]? = some fn) (hb : fn.body = some c) (hT : fnX cx ls n fn c args facts = T) (V : Views cx ρ ⟨⟨args.length + (fn.ntmps - args.length), none⟩, #[], [], w⟩) (ha : All2 (SV.is ρ φ fun _ => none) args xs) (hfa : facts.hold ρ φ)
    (hR : T.all ρ φ fun v σ => ∀ β a w' x, MS ρ φ ⟨⟨args.length + (fn.ntmps - args.length), none⟩, #[], [], w⟩ σ β a w' → v.is ρ φ β x → R (.returned x) w') :
    Calls cx.P f xs.toArray w R := by
  refine calls_of_wp hfn hb ?_
  subst hT
  have hlen := ha.length
  have hinit : MS ρ φ ⟨⟨args.length + (fn.ntmps - args.length), none⟩, #[], [], w⟩ (start args facts) (fun _ => none) { tmps := xs.toArray ++ Array.replicate (fn.ntmps - xs.toArray.size) undef, defers := [] } w := by
    refine ⟨⟨?_, ?_, rfl, ?_, LowX.refl _ _, ?_, ?_, ?_⟩, fun _ _ => rfl⟩
    · intro t s h
      obtain ⟨j, h1, h2⟩ := argT_look h
      rw [Nat.zero_add] at h1
      subst h1
      obtain ⟨x, hx, hsx⟩ := ha.get h2
      refine ⟨x, ?_, hsx⟩
      have hjl := (List.getElem?_eq_some_iff.1 hx).1
      rw [Array.getElem?_append_left (by simpa using hjl)]
      simpa using hx
    · simp [hlen]
    · intro t ht
      simp [Fm.may] at ht
    · intro id row h
      simp [St.B, start, lookA] at h
    · intro id id' b h
      simp at h
    · intro id b h
      simp at h
  refine exec_sound V F C c hls n c _ _ _ w _ (fun l hl => hl) hinit hfa ?_
  unfold fnX at hR
  generalize exec cx ⟨args.length + (fn.ntmps - args.length), none⟩ ls n c (start args facts) = T at hR
  induction T with
  | leaf x σ =>
    cases x with
    | normal =>
      simp only [Tree.res] at hR
      split at hR
      · rename_i v hv
        intro β a w' hM hF
        obtain ⟨x, h1, h2⟩ := resX_run V F hM hF hv
        exact ⟨hM.m.dfr, x, h1, hR β a w' x hM h2⟩
      · exact hR.elim
    | ret =>
      simp only [Tree.res] at hR
      split at hR
      · rename_i v hv
        intro β a w' hM hF
        obtain ⟨x, h1, h2⟩ := resX_run V F hM hF hv
        exact ⟨hM.m.dfr, x, h1, hR β a w' x hM h2⟩
      · exact hR.elim
    | exit id => exact hR.elim
  | ite c t e iht ihe => exact ⟨fun hc => iht (hR.1 hc), fun hc => ihe (hR.2 hc)⟩
  | stuck => exact hR.elim
end
end Go.SX

/- SX: arguments as variables, slices among them; a loop's contract out of its body. -/
namespace Go.SX
open Go Go.RowKit

/-! ### Arguments -/
def PK.okK : PK → Bool
  | .val false [_] => true
  | .val true _ => true
  | .sl (_ :: _) => true
  | _ => false
def sortsP (ps : List PK) : List So := ps.flatMap PK.sorts
def argsV : Nat → Nat → List PK → List SV
  | _, _, [] => []
  | i, e, p :: ps => match p with
    | .val a ss => .one ⟨a, (List.range' i ss.length).map fun j => .e (.var j)⟩ :: argsV (i + ss.length) e ps
    | .sl _ => .one ⟨false, [.e (.var e)]⟩ :: argsV (i + 2) (e + 1) ps
def vwV : Nat → Nat → List PK → List Vw
  | _, _, [] => []
  | i, e, p :: ps => match p with
    | .val _ ss => vwV (i + ss.length) e ps
    | .sl ss => ⟨e, i, i + 1, ss⟩ :: vwV (i + 2) (e + 1) ps
def exS : List PK → List So
  | [] => []
  | p :: ps => match p with
    | .val _ _ => exS ps
    | .sl _ => .one :: exS ps
def exV : List PK → List Value → List Value
  | p :: ps, x :: xs => match p with
    | .val _ _ => exV ps xs
    | .sl _ => x :: exV ps xs
  | _, _ => []
def vwFacts : List Vw → Facts
  | [] => []
  | v :: vs => (.cmp .lss (.int .i64 4611686018427387904) (.var v.l), false) :: (.cmp .lss (.var v.l) (.int .i64 0), false) :: vwFacts vs
/-- A function's, a loop's context. -/
def cxP (P : Program) (ct : List Sig) (sy : List (Nat × List So)) (ps : List PK) : Cx := ⟨P, sortsP ps ++ exS ps, ct, vwV 0 (sortsP ps).length ps, sy⟩

theorem all2_get {ss : List So} {vs : List Value} (h : All2 So.has ss vs) (i : Nat) : (ss.getD i .any).has (vs.getD i undef) := by
  rw [List.getD_eq_getElem?_getD, List.getD_eq_getElem?_getD]
  cases hs : ss[i]? with
  | none => trivial
  | some s =>
    obtain ⟨v, hv, hh⟩ := h.get hs
    rw [hv]
    exact hh

theorem getD_mid (A B C : List Value) (j : Nat) (h : j < B.length) : (A ++ B ++ C).getD (A.length + j) undef = B.getD j undef := by
  rw [List.getD_eq_getElem?_getD, List.append_assoc, List.getElem?_append_right (by omega), show A.length + j - A.length = j by omega, List.getElem?_append_left h, List.getD_eq_getElem?_getD]

theorem vars_is {ρ : Nat → Value} {φ : Nat → List Value → List Value} {β : Nat → Option Nat} : ∀ (l : List Value) (i : Nat), (∀ j, j < l.length → ρ (i + j) = l.getD j undef) →
    All2 (SC.is ρ φ β) ((List.range' i l.length).map fun j => .e (.var j)) l
  | [], _, _ => trivial
  | v :: l, i, h => by
    simp only [List.length_cons, List.range'_succ, List.map_cons]
    refine ⟨?_, vars_is l (i + 1) fun j hj => ?_⟩
    · have := h 0 (by simp)
      simp only [Nat.add_zero] at this
      exact this.symm
    · have := h (j + 1) (by simp; omega)
      rw [show i + 1 + j = i + (j + 1) by omega, this]
      rfl

/-- What the arguments are: A before them, X the slices' own variables before them. -/
theorem argsV_is {w : World} {φ : Nat → List Value → List Value} {β : Nat → Option Nat} {fm : Fm} {a0 : Array Value} : ∀ {ps : List PK} {xs fl : List Value} (A X : List Value) (ρ : Nat → Value), ps.all PK.okK = true → readsAll w ps xs fl →
    (∀ j, j < fl.length → ρ (A.length + j) = fl.getD j undef) → (∀ j, j < (exV ps xs).length → ρ (X.length + j) = (exV ps xs).getD j undef) →
    All2 (SV.is ρ φ β) (argsV A.length X.length ps) xs ∧ All2 So.has (sortsP ps) fl ∧ All2 So.has (exS ps) (exV ps xs) ∧ (∀ v ∈ vwV A.length X.length ps, v.ok ρ ⟨fm, a0, [], w⟩)
  | [], [], fl, A, X, ρ, _, h, _, _ => by
    have h : fl = [] := h
    subst h
    exact ⟨trivial, trivial, trivial, by simp [vwV]⟩
  | p :: ps, x :: xs, fl, A, X, ρ, hk, h, h1, h2 => by
    obtain ⟨f1, f2, rfl, hp, hr⟩ := h
    simp only [List.all_cons, Bool.and_eq_true] at hk
    have hin1 : ∀ j, j < f1.length → ρ (A.length + j) = f1.getD j undef := by
      intro j hj
      rw [h1 j (by simp; omega), List.getD_eq_getElem?_getD, List.getElem?_append_left hj, List.getD_eq_getElem?_getD]
    have hin2 : ∀ j, j < f2.length → ρ ((A ++ f1).length + j) = f2.getD j undef := by
      intro j hj
      have := h1 (f1.length + j) (by simp; omega)
      rw [List.length_append, Nat.add_assoc, this, List.getD_eq_getElem?_getD, List.getElem?_append_right (by omega), show f1.length + j - f1.length = j by omega, List.getD_eq_getElem?_getD]
    cases p with
    | val a ss =>
      have key : All2 So.has ss f1 ∧ (SV.one ⟨a, (List.range' A.length ss.length).map fun j => .e (.var j)⟩).is ρ φ β x := by
        cases a with
        | true =>
          obtain ⟨rfl, h4⟩ := hp
          refine ⟨h4, f1, rfl, ?_⟩
          have := vars_is (φ := φ) (β := β) f1 A.length hin1
          rw [← h4.length] at this
          exact this
        | false =>
          match ss, hk.1, hp with
          | [s], _, hp =>
            obtain ⟨rfl, h4⟩ := hp
            refine ⟨h4, ?_⟩
            have := hin1 0 (by simp)
            simp only [Nat.add_zero] at this
            exact this.symm
      obtain ⟨k1, k2⟩ := key
      have hlen := k1.length
      obtain ⟨g1, g2, g3, g4⟩ := argsV_is (φ := φ) (β := β) (fm := fm) (a0 := a0) (A ++ f1) X ρ hk.2 hr hin2 (by simpa [exV] using h2)
      have e : (A ++ f1).length = A.length + ss.length := by rw [List.length_append, hlen]
      rw [e] at g1 g4
      refine ⟨⟨k2, g1⟩, ?_, ?_, g4⟩
      · unfold sortsP at *
        simp only [List.flatMap_cons, PK.sorts]
        exact All2.append k1 g2
      · simpa [exS, exV] using g3
    | sl ss =>
      obtain ⟨ad, len, cap, vs, rfl, rfl, h4, h5, h6, h7, h8⟩ := hp
      have hx0 := h2 0 (by simp [exV])
      simp only [exV, Nat.add_zero, List.getD_cons_zero] at hx0
      obtain ⟨g1, g2, g3, g4⟩ := argsV_is (φ := φ) (β := β) (fm := fm) (a0 := a0) (A ++ [.int .i64 (Int.ofNat len), .tuple vs.toArray]) (X ++ [.slice ad len cap]) ρ hk.2 hr hin2 (fun j hj => by
        have := h2 (j + 1) (by simp [exV]; omega)
        simp only [exV, List.getD_cons_succ] at this
        rw [List.length_append, List.length_cons, List.length_nil, show X.length + (0 + 1) + j = X.length + (j + 1) by omega]
        exact this)
      simp only [List.length_append, List.length_cons, List.length_nil] at g1 g4
      refine ⟨⟨hx0.symm, g1⟩, ?_, ⟨rfl, g3⟩, ?_⟩
      · unfold sortsP at *
        simp only [List.flatMap_cons, PK.sorts]
        have hi : (Int.ofNat len) ≤ 4611686018427387904 := Int.ofNat_le.2 h6
        exact ⟨⟨_, rfl, by simp [lowOf], by simp only [highOf]; omega⟩, trivial, g2⟩
      · intro v hv
        simp only [vwV, List.mem_cons] at hv
        rcases hv with rfl | hv
        · have ha := hin1 0 (by simp)
          have hb := hin1 1 (by simp)
          simp only [Nat.add_zero, List.getD_cons_zero, List.getD_cons_succ] at ha hb
          refine ⟨ad, len, cap, vs, hx0, ha, hb, h4, h5, h6, ?_, h7, ?_⟩
          · match ss, hk.1 with
            | _ :: _, _ => simp
          · rcases h8 with h8 | ⟨b, off, h8, hbl, hcell⟩
            · exact Or.inl h8
            · exact Or.inr ⟨b, off, h8, hbl, by simp, hcell⟩
        · exact g4 v hv
  | [], _ :: _, _, _, _, _, _, h, _, _ => h.elim
  | _ :: _, [], _, _, _, _, _, h, _, _ => h.elim

theorem vwFacts_hold {ρ : Nat → Value} {φ : Nat → List Value → List Value} {fx : Fx} : ∀ {vs : List Vw}, (∀ v ∈ vs, v.ok ρ fx) → (vwFacts vs).hold ρ φ
  | [], _, p, hp => by simp [vwFacts] at hp
  | v :: vs, h, p, hp => by
    obtain ⟨ad, len, cap, us, _, h2, _, _, _, h6, _⟩ := h v (by simp)
    have hi : (Int.ofNat len) ≤ 4611686018427387904 := Int.ofNat_le.2 h6
    have h0 : (0 : Int) ≤ Int.ofNat len := Int.natCast_nonneg len
    simp only [vwFacts, List.mem_cons] at hp
    rcases hp with rfl | rfl | hp
    · simp only [E.den, h2, icmp, vint_int]
      exact congrArg Value.bool (decide_eq_false (by omega))
    · simp only [E.den, h2, icmp, vint_int]
      exact congrArg Value.bool (decide_eq_false (by omega))
    · exact vwFacts_hold (fun v hv => h v (by simp [hv])) p hp

/-! ### Terms that name the first variables only -/
def E.lt (n : Nat) : E → Bool
  | .var i => Nat.blt i n
  | .bin _ _ a b | .shf _ _ a b | .cmp _ a b | .beq a b | .seq a b | .idx a b | .cons a b | .byte a b => a.lt n && b.lt n
  | .not a | .conv _ a | .app _ _ a | .len a | .tup a => a.lt n
  | .ite a b c | .cut a b c => a.lt n && b.lt n && c.lt n
  | .el g i _ _ _ => g.lt n && i.lt n
  | .int _ _ | .bool _ | .val _ | .nil => true
theorem lt_den {n : Nat} {ρ ρ' : Nat → Value} (φ : Nat → List Value → List Value) (h : ∀ i, i < n → ρ i = ρ' i) : ∀ e : E, e.lt n = true → e.den ρ φ = e.den ρ' φ ∧ e.dens ρ φ = e.dens ρ' φ := by
  intro e
  induction e with
  | var i =>
    intro hl
    simp only [E.lt, Nat.blt] at hl
    exact ⟨h i (Nat.lt_of_succ_le (Nat.le_of_ble_eq_true hl)), rfl⟩
  | int k n => intro _; exact ⟨rfl, rfl⟩
  | bool b => intro _; exact ⟨rfl, rfl⟩
  | val v => intro _; exact ⟨rfl, rfl⟩
  | nil => intro _; exact ⟨rfl, rfl⟩
  | bin o k a b iha ihb => intro hl; simp only [E.lt, Bool.and_eq_true] at hl; exact ⟨by simp only [E.den, (iha hl.1).1, (ihb hl.2).1], rfl⟩
  | shf o k a b iha ihb => intro hl; simp only [E.lt, Bool.and_eq_true] at hl; exact ⟨by simp only [E.den, (iha hl.1).1, (ihb hl.2).1], rfl⟩
  | cmp o a b iha ihb => intro hl; simp only [E.lt, Bool.and_eq_true] at hl; exact ⟨by simp only [E.den, (iha hl.1).1, (ihb hl.2).1], rfl⟩
  | beq a b iha ihb => intro hl; simp only [E.lt, Bool.and_eq_true] at hl; exact ⟨by simp only [E.den, (iha hl.1).1, (ihb hl.2).1], rfl⟩
  | seq a b iha ihb => intro hl; simp only [E.lt, Bool.and_eq_true] at hl; exact ⟨by simp only [E.den, (iha hl.1).1, (ihb hl.2).1], rfl⟩
  | byte a b iha ihb => intro hl; simp only [E.lt, Bool.and_eq_true] at hl; exact ⟨by simp only [E.den, (iha hl.1).1, (ihb hl.2).1], rfl⟩
  | idx a b iha ihb => intro hl; simp only [E.lt, Bool.and_eq_true] at hl; exact ⟨by simp only [E.den, (iha hl.1).1, (ihb hl.2).2], rfl⟩
  | cons a b iha ihb => intro hl; simp only [E.lt, Bool.and_eq_true] at hl; exact ⟨rfl, by simp only [E.dens, (iha hl.1).1, (ihb hl.2).2]⟩
  | not a iha => intro hl; simp only [E.lt] at hl; exact ⟨by simp only [E.den, (iha hl).1], rfl⟩
  | conv k a iha => intro hl; simp only [E.lt] at hl; exact ⟨by simp only [E.den, (iha hl).1], rfl⟩
  | app g j a iha => intro hl; simp only [E.lt] at hl; exact ⟨by simp only [E.den, (iha hl).2], rfl⟩
  | len a iha => intro hl; simp only [E.lt] at hl; exact ⟨by simp only [E.den, (iha hl).1], rfl⟩
  | tup a iha => intro hl; simp only [E.lt] at hl; exact ⟨by simp only [E.den, (iha hl).2], rfl⟩
  | ite a b c iha ihb ihc => intro hl; simp only [E.lt, Bool.and_eq_true] at hl; exact ⟨by simp only [E.den, (iha hl.1.1).1, (ihb hl.1.2).1, (ihc hl.2).1], rfl⟩
  | cut a b c iha ihb ihc => intro hl; simp only [E.lt, Bool.and_eq_true] at hl; exact ⟨by simp only [E.den, (iha hl.1.1).1, (ihb hl.1.2).1, (ihc hl.2).1], rfl⟩
  | el g i sz o s ihg ihi => intro hl; simp only [E.lt, Bool.and_eq_true] at hl; exact ⟨by simp only [E.den, (ihg hl.1).1, (ihi hl.2).1], rfl⟩

section
variable (ρ : Nat → Value) (φ : Nat → List Value → List Value)
def SC.val : SC → Value
  | .e x => x.den ρ φ
  | _ => undef
def Part.vals (p : Part) : List Value := p.cs.map (SC.val ρ φ)
end
def cellsOk (cx : Cx) (n : Nat) : List So → List SC → Bool
  | [], [] => true
  | s :: ss, .e x :: cs => (decide (s = .any) || decide (cx.so x = s)) && x.lt n && cellsOk cx n ss cs
  | _, _ => false
def partOk (cx : Cx) (n : Nat) (r : RK) (p : Part) : Bool :=
  match r with
  | .val a ss => (a == p.agg) && cellsOk cx n ss p.cs && (a || Nat.beq ss.length 1)
  | .row _ _ => false
section
variable {ρ : Nat → Value} {φ : Nat → List Value → List Value} {cx : Cx}
theorem cellsOk_has (F : Fits cx.Γ cx.S ρ φ) {n : Nat} : ∀ {ss : List So} {cs : List SC}, cellsOk cx n ss cs = true → All2 So.has ss (cs.map (SC.val ρ φ)) ∧ ∀ β, ∀ vs : List Value, All2 (SC.is ρ φ β) cs vs → vs = cs.map (SC.val ρ φ)
  | [], [], _ => ⟨trivial, fun β vs h => by cases vs with | nil => rfl | cons _ _ => exact h.elim⟩
  | s :: ss, .e x :: cs, h => by
    simp only [cellsOk, Bool.and_eq_true] at h
    obtain ⟨h1, h2⟩ := cellsOk_has F h.2
    refine ⟨⟨has_of F h.1.1, h1⟩, fun β vs hv => ?_⟩
    cases vs with
    | nil => exact hv.elim
    | cons v vs =>
      have e1 : v = x.den ρ φ := hv.1
      rw [e1, h2 β vs hv.2]
      rfl
  | [], _ :: _, h => by simp [cellsOk] at h
  | _ :: _, [], h => by simp [cellsOk] at h
  | _ :: _, .ptr _ _ :: _, h => by simp [cellsOk] at h
  | _ :: _, .pti _ _ _ :: _, h => by simp [cellsOk] at h
  | _ :: _, .slc _ _ _ _ :: _, h => by simp [cellsOk] at h
  | _ :: _, .vad _ _ _ _ :: _, h => by simp [cellsOk] at h
theorem cellsOk_lt {n : Nat} {ρ' : Nat → Value} (hρ : ∀ i, i < n → ρ i = ρ' i) : ∀ {ss : List So} {cs : List SC}, cellsOk cx n ss cs = true → cs.map (SC.val ρ φ) = cs.map (SC.val ρ' φ)
  | [], [], _ => rfl
  | s :: ss, .e x :: cs, h => by
    simp only [cellsOk, Bool.and_eq_true] at h
    simp only [List.map_cons, SC.val, (lt_den φ hρ x h.1.2).1, cellsOk_lt hρ h.2]
  | [], _ :: _, h => by simp [cellsOk] at h
  | _ :: _, [], h => by simp [cellsOk] at h
  | _ :: _, .ptr _ _ :: _, h => by simp [cellsOk] at h
  | _ :: _, .pti _ _ _ :: _, h => by simp [cellsOk] at h
  | _ :: _, .slc _ _ _ _ :: _, h => by simp [cellsOk] at h
  | _ :: _, .vad _ _ _ _ :: _, h => by simp [cellsOk] at h
theorem partOk_lt {n : Nat} {ρ' : Nat → Value} (hρ : ∀ i, i < n → ρ i = ρ' i) {r : RK} {p : Part} (h : partOk cx n r p = true) : p.vals ρ φ = p.vals ρ' φ := by
  unfold partOk at h
  split at h
  · simp only [Bool.and_eq_true] at h
    exact cellsOk_lt hρ h.1.2
  · exact absurd h (by simp)

theorem pick_mid (A B C : List Value) : pick (A ++ B ++ C) A.length B.length = B := by
  unfold pick
  apply List.ext_getElem
  · simp
  · intro i h1 h2
    simp only [List.getElem_map, List.getElem_range', Nat.one_mul]
    rw [List.getD_eq_getElem?_getD, List.append_assoc, List.getElem?_append_right (by omega)]
    rw [show A.length + i - A.length = i by omega, List.getElem?_append_left (by omega)]
    simp [h2]

theorem partOk_gives (F : Fits cx.Γ cx.S ρ φ) {n : Nat} {r : RK} {p : Part} (h : partOk cx n r p = true) : All2 So.has r.sorts (p.vals ρ φ) ∧
    ∀ β x (w w' : World) (A C : List Value), p.is ρ φ β x → r.gives w w' (A ++ p.vals ρ φ ++ C) A.length x := by
  unfold partOk at h
  unfold Part.vals
  split at h
  · rename_i a ss
    simp only [Bool.and_eq_true] at h
    obtain ⟨⟨h1, h2⟩, h3⟩ := h
    have h1 : a = p.agg := by simpa using h1
    obtain ⟨g1, g2⟩ := cellsOk_has F h2
    refine ⟨g1, fun β x w w' A C hp => ?_⟩
    have hl := g1.length
    obtain ⟨pa, pc⟩ := p
    simp only at h1 g1 g2 hl
    subst h1
    cases a with
    | true =>
      obtain ⟨vs, rfl, ha⟩ := hp
      have := g2 β vs ha
      subst this
      simp only [RK.gives]
      rw [hl, pick_mid]
    | false =>
      rw [Bool.false_or] at h3
      have h3 := Nat.eq_of_beq_eq_true h3
      match pc, hl, hp, g2 with
      | [c], _, hp, g2 =>
        have := g2 β [x] ⟨hp, trivial⟩
        simp only [List.map_cons, List.map_nil, List.cons.injEq, and_true] at this
        subst this
        simp only [RK.gives, List.map_cons, List.map_nil]
        rw [List.getD_eq_getElem?_getD, List.append_assoc, List.getElem?_append_right (Nat.le_refl _)]
        simp
      | [], hl, _, _ => simp only [List.map_nil, List.length_nil] at hl; omega
      | _ :: _ :: _, hl, _, _ => simp only [List.map_cons, List.length_cons] at hl; omega
  · exact absurd h (by simp)
/-- A value of a kind, as an argument reads it. -/
theorem partOk_reads (F : Fits cx.Γ cx.S ρ φ) {n : Nat} {a : Bool} {ss : List So} {p : Part} (h : partOk cx n (.val a ss) p = true) {β : Nat → Option Nat} {x : Value} {w : World} (hp : p.is ρ φ β x) : (PK.val a ss).reads w x (p.vals ρ φ) := by
  obtain ⟨h1, h2⟩ := partOk_gives F h
  have h3 := h2 β x w w [] [] hp
  simp only [List.nil_append, List.append_nil, List.length_nil] at h3
  have hl : ss.length = (p.vals ρ φ).length := h1.length
  cases a with
  | true =>
    refine ⟨?_, h1⟩
    have e := pick_mid [] (p.vals ρ φ) []
    simp only [List.nil_append, List.append_nil, List.length_nil] at e
    have h3 : x = .agg (pick (p.vals ρ φ) 0 ss.length).toArray := h3
    rw [h3, hl, e]
  | false =>
    have hss : ss.length = 1 := by
      unfold partOk at h
      simp only [Bool.and_eq_true, Bool.false_or] at h
      exact Nat.eq_of_beq_eq_true h.2
    have h3 : x = (p.vals ρ φ).getD 0 undef := h3
    refine ⟨?_, h1⟩
    generalize p.vals ρ φ = l at h3 hl
    match l, hl, h3 with
    | [y], _, h3 => simp at h3; rw [h3]
    | [], hl, _ => simp only [List.length_nil] at hl; omega
    | _ :: _ :: _, hl, _ => simp only [List.length_cons] at hl; omega
end
end Go.SX

/- SX: a loop's contract, out of the tree of its body. -/
namespace Go.SX
open Go Go.RowKit

def xxB : XX → XX → Bool
  | .normal, .normal => true
  | .exit i, .exit j => Nat.beq i j
  | .ret, .ret => true
  | _, _ => false
theorem xxB_eq {a b : XX} (h : xxB a b = true) : a = b := by
  cases a <;> cases b <;> simp [xxB] at h <;> simp_all
def Tree.run (ρ : Nat → Value) (φ : Nat → List Value → List Value) : Tree → Option (XX × St)
  | .leaf x σ => some (x, σ)
  | .ite c t e => if vbool (c.den ρ φ) then t.run ρ φ else e.run ρ φ
  | .stuck => none
theorem Tree.all_of_run {ρ : Nat → Value} {φ : Nat → List Value → List Value} {K : XX → St → Prop} : ∀ {T : Tree} {x : XX} {σ : St}, T.run ρ φ = some (x, σ) → K x σ → T.all ρ φ K
  | .leaf _ _, _, _, h, hk => by
    simp only [Tree.run, Option.some.injEq, Prod.mk.injEq] at h
    obtain ⟨rfl, rfl⟩ := h
    exact hk
  | .ite c t e, x, σ, h, hk => by
    simp only [Tree.run] at h
    constructor
    · intro hc
      rw [hc] at h
      exact Tree.all_of_run (by simpa using h) hk
    · intro hc
      rw [hc] at h
      exact Tree.all_of_run (by simpa using h) hk
  | .stuck, _, _, h, _ => by simp [Tree.run] at h

/-! ### One round -/
/-- Where the loop's own temporaries stand at a round's end: the terms of the next round's arguments. -/
def nextE (n : Nat) (cx : Cx) (ws : List Nat) (L : LK) : Nat → List (Nat × PK) → Option (List E)
  | _, [] => some []
  | i, (t, p) :: ins =>
    match nextE n cx ws L (i + p.sorts.length) ins with
    | some r =>
      if hasN t ws then
        match p, L t with
        | .val a ss, some (.one q) => if partOk cx n (.val a ss) q then (exs q.cs).map (· ++ r) else none
        | _, _ => none
      else some (((List.range' i p.sorts.length).map E.var) ++ r)
    | none => none
def outsE (n : Nat) (cx : Cx) (L : LK) : List (Nat × RK) → Option (List E)
  | [] => some []
  | (t, r) :: os =>
    match L t, outsE n cx L os with
    | some (.one q), some es => if partOk cx n r q then (exs q.cs).map (· ++ es) else none
    | _, _ => none
def dfl (ss : List So) : List Value := ss.map fun s => coe s undef
/-- What a way out gives: its own temporaries, something in the place of the other ways'. -/
def exitE (n : Nat) (cx : Cx) (L : LK) (x : XX) : Nat → List (XX × List (Nat × RK)) → Option (Nat × Nat × List E)
  | _, [] => none
  | k, (y, os) :: es =>
    if xxB y x then (outsE n cx L os).map fun l => (k, 0, l)
    else (exitE n cx L x (k + 1) es).map fun r => (r.1, r.2.1 + (outSorts os).length, r.2.2)

/-- What the named temporaries hold does not change. -/
def alsKeep (es : List E) : List (Nat × E) → Bool
  | [] => true
  | (_, e) :: r => (e.subst (atL es)).eqv e && alsKeep es r
/-- Every leaf of the body's tree is as it should be. -/
def leafOk (n : Nat) (cx : Cx) (lp : Lp) (ws : List Nat) (x : XX) (σ : St) : Bool :=
  match x with
  | .normal => match nextE n cx ws σ.L 0 lp.ins with
    | some es => alsKeep es lp.als && preOk cx σ.facts es lp.pre && (match dec cx σ.facts (mkLss (lp.mu.subst (atL es)) lp.mu) with | some b => b | none => false) && (match dec cx σ.facts (mkLss lp.mu (.int .i64 0)) with | some b => !b | none => false)
    | none => false
  | x => match exitE n cx σ.L x 0 lp.exits with
    | some _ => true
    | none => false
def Tree.lok (n : Nat) (cx : Cx) (lp : Lp) (ws : List Nat) : Tree → Bool
  | .leaf x σ => leafOk n cx lp ws x σ
  | .ite c t e => c.lt n && t.lok n cx lp ws && e.lok n cx lp ws
  | .stuck => false

/-- The start of a round. -/
def lpStart (lp : Lp) : St :=
  { tmps := (lp.ins.map (·.1)).zip (argsV 0 (sortsP (lp.ins.map (·.2))).length (lp.ins.map (·.2))) ++ lp.als.map (fun p => (p.1, .one ⟨false, [.e p.2]⟩)), boxes := [], next := 0, facts := lp.pre ++ vwFacts (vwV 0 (sortsP (lp.ins.map (·.2))).length (lp.ins.map (·.2))) }
def lpCx (P : Program) (ct : List Sig) (sy : List (Nat × List So)) (lp : Lp) : Cx := cxP P ct sy (lp.ins.map (·.2))
def lpTree (P : Program) (ct : List Sig) (sy : List (Nat × List So)) (lps : List Lp) (N fuel : Nat) (lp : Lp) (c : Code) : Tree :=
  exec (lpCx P ct sy lp) ⟨N, some (wrs c)⟩ lps fuel c (lpStart lp)

/-- The values of one round: 'none': another round with these. -/
def lpStep (lp : Lp) (cx : Cx) (n : Nat) (ws : List Nat) (T : Tree) (φ : Nat → List Value → List Value) (fl : List Value) : List Value ⊕ List Value :=
  let ρ := fun i => coe ((sortsP (lp.ins.map (·.2))).getD i .any) (fl.getD i undef)
  match T.run ρ φ with
  | some (.normal, σ) => match nextE n cx ws σ.L 0 lp.ins with
    | some es => .inl (es.map (·.den ρ φ))
    | none => .inr (.int .i64 (-1) :: dfl (lp.exits.flatMap fun e => outSorts e.2))
  | some (x, σ) => match exitE n cx σ.L x 0 lp.exits with
    | some (k, a, es) => .inr (.int .i64 (Int.ofNat k) :: (dfl (((lp.exits.flatMap fun e => outSorts e.2)).take a) ++ es.map (·.den ρ φ) ++ dfl (((lp.exits.flatMap fun e => outSorts e.2)).drop (a + es.length))))
    | none => .inr (.int .i64 (-1) :: dfl (lp.exits.flatMap fun e => outSorts e.2))
  | none => .inr (.int .i64 (-1) :: dfl (lp.exits.flatMap fun e => outSorts e.2))
def lpItr (lp : Lp) (cx : Cx) (n : Nat) (ws : List Nat) (T : Tree) (φ : Nat → List Value → List Value) : Nat → List Value → List Value
  | 0, _ => .int .i64 (-1) :: dfl (lp.exits.flatMap fun e => outSorts e.2)
  | m + 1, fl => match lpStep lp cx n ws T φ fl with
    | .inl fl' => lpItr lp cx n ws T φ m fl'
    | .inr out => out
/-- What a loop means. -/
def lpF (lp : Lp) (cx : Cx) (n : Nat) (ws : List Nat) (T : Tree) (φ : Nat → List Value → List Value) (fl : List Value) : List Value :=
  lpItr lp cx n ws T φ ((vint (lp.mu.den (fun i => coe ((sortsP (lp.ins.map (·.2))).getD i .any) (fl.getD i undef)) φ) + 1).toNat + 1) fl

section
variable {ρ : Nat → Value} {φ : Nat → List Value → List Value} {cx : Cx}
theorem PK.reads_mono {p : PK} {w w' : World} {v : Value} {f : List Value} (h : p.reads w v f) (hb : Below w.heap.size w w') : p.reads w' v f := by
  cases p with
  | val a ss => cases a <;> exact h
  | sl ss =>
    obtain ⟨ad, len, cap, vs, h1, h2, h3, h4, h5, h6, h7⟩ := h
    refine ⟨ad, len, cap, vs, h1, h2, h3, h4, h5, h6, ?_⟩
    rcases h7 with h7 | ⟨b, off, h7, h8, h9⟩
    · exact Or.inl h7
    · exact Or.inr ⟨b, off, h7, Nat.lt_of_lt_of_le h8 hb.size, fun i u hu => by rw [hb.cell (p := ⟨b, off + i, none⟩) h8]; exact h9 i u hu⟩

theorem exs_vals : ∀ {cs : List SC} {es : List E}, exs cs = some es → cs.map (SC.val ρ φ) = es.map (·.den ρ φ)
  | [], es, h => by
    simp only [exs, Option.some.injEq] at h
    subst h
    rfl
  | .e x :: cs, es, h => by
    simp only [exs, Option.map_eq_some_iff] at h
    obtain ⟨es', he, rfl⟩ := h
    simp only [List.map_cons, SC.val, exs_vals he]
  | .ptr _ _ :: _, _, h => by simp [exs] at h
  | .pti _ _ _ :: _, _, h => by simp [exs] at h
  | .slc _ _ _ _ :: _, _, h => by simp [exs] at h
  | .vad _ _ _ _ :: _, _, h => by simp [exs] at h

theorem PK.reads_len {p : PK} {w : World} {v : Value} {f : List Value} (h : p.reads w v f) : f.length = p.sorts.length := by
  cases p with
  | val a ss => cases a <;> exact h.2.length.symm
  | sl ss => obtain ⟨_, _, _, _, _, rfl, _⟩ := h; rfl

/-- The next round's arguments. -/
theorem nextE_reads (F : Fits cx.Γ cx.S ρ φ) {n : Nat} {ws : List Nat} {fx : Fx} {L : LK} {B : BK} {β : Nat → Option Nat} {a1 a2 : Act} {w1 w2 : World} (H : M ρ φ fx L B β a2 w2) (hbl : Below w1.heap.size w1 w2)
    (hfr : ∀ t, hasN t ws = false → a2.tmps[t]? = a1.tmps[t]?) : ∀ {ins : List (Nat × PK)} {fl : List Value} {i : Nat} {es : List E}, nextE n cx ws L i ins = some es →
    readsAll w1 (ins.map (·.2)) (ins.map fun p => a1.eval (.tmp p.1)) fl → (∀ j, j < fl.length → ρ (i + j) = fl.getD j undef) → readsAll w2 (ins.map (·.2)) (ins.map fun p => a2.eval (.tmp p.1)) (es.map (·.den ρ φ))
  | [], fl, i, es, h, hr, hρ => by
    simp only [nextE, Option.some.injEq] at h
    subst h
    rfl
  | (t, p) :: ins, fl, i, es, h, hr, hρ => by
    obtain ⟨f1, f2, rfl, hp, hr2⟩ := hr
    have hl := PK.reads_len hp
    simp only [nextE] at h
    split at h
    · rename_i r hnr
      have ih := nextE_reads F H hbl hfr hnr hr2 (fun j hj => by
        have := hρ (f1.length + j) (by simp; omega)
        rw [← hl, show i + f1.length + j = i + (f1.length + j) by omega, this, List.getD_eq_getElem?_getD, List.getElem?_append_right (by omega), show f1.length + j - f1.length = j by omega, List.getD_eq_getElem?_getD])
      split at h
      · split at h
        · rename_i ag ss q hq
          split at h
          · rename_i hok
            simp only [Option.map_eq_some_iff] at h
            obtain ⟨es', he, rfl⟩ := h
            have hx := opd_is (x := .tmp t) H hq
            rw [List.map_append]
            refine ⟨_, _, rfl, ?_, ih⟩
            have := partOk_reads (w := w2) F hok hx
            unfold Part.vals at this
            rw [exs_vals he] at this
            exact this
          · exact absurd h (by simp)
        · exact absurd h (by simp)
      · rename_i ht
        simp only [Option.some.injEq] at h
        subst h
        rw [List.map_append]
        refine ⟨_, _, rfl, ?_, ih⟩
        have he : a2.eval (.tmp t) = a1.eval (.tmp t) := by
          simp only [Act.eval, Array.getD_eq_getD_getElem?, hfr t (by simpa using ht)]
        have hv : ((List.range' i p.sorts.length).map E.var).map (·.den ρ φ) = f1 := by
          rw [List.map_map]
          apply List.ext_getElem
          · simp [hl]
          · intro j h1 h2
            simp only [List.getElem_map, List.getElem_range', Function.comp, E.den, Nat.one_mul]
            have := hρ j (by simp; omega)
            rw [this, List.getD_eq_getElem?_getD, List.getElem?_append_left h2, List.getElem?_eq_getElem h2]
            rfl
        rw [hv]
        show p.reads w2 (a2.eval (.tmp t)) f1
        rw [he]
        exact PK.reads_mono (p := p) (v := a1.eval (.tmp t)) hp hbl
    · exact absurd h (by simp)

theorem nextE_has (F : Fits cx.Γ cx.S ρ φ) {n : Nat} {ws : List Nat} {L : LK} (hΓ : ∀ j, cx.Γ.getD j .any = cx.Γ.getD j .any) : ∀ {ins : List (Nat × PK)} {i : Nat} {es : List E}, nextE n cx ws L i ins = some es →
    (∀ j, (((ins.map (·.2)).flatMap PK.sorts).getD j .any).has (ρ (i + j))) → All2 So.has ((ins.map (·.2)).flatMap PK.sorts) (es.map (·.den ρ φ))
  | [], i, es, h, _ => by
    simp only [nextE, Option.some.injEq] at h
    subst h
    trivial
  | (t, p) :: ins, i, es, h, hs => by
    simp only [nextE] at h
    split at h
    · rename_i r hnr
      have ih := nextE_has F hΓ hnr (fun j => by
        have := hs (p.sorts.length + j)
        simp only [List.map_cons, List.flatMap_cons] at this
        rw [List.getD_eq_getElem?_getD, List.getElem?_append_right (by omega), show p.sorts.length + j - p.sorts.length = j by omega, ← List.getD_eq_getElem?_getD] at this
        rwa [show i + p.sorts.length + j = i + (p.sorts.length + j) by omega])
      split at h
      · split at h
        · rename_i ag ss q hq
          split at h
          · rename_i hok
            simp only [Option.map_eq_some_iff] at h
            obtain ⟨es', he, rfl⟩ := h
            rw [List.map_append]
            simp only [List.map_cons, List.flatMap_cons]
            refine All2.append ?_ ih
            have := (partOk_gives F hok).1
            unfold Part.vals at this
            rw [exs_vals he] at this
            exact this
          · exact absurd h (by simp)
        · exact absurd h (by simp)
      · simp only [Option.some.injEq] at h
        subst h
        rw [List.map_append]
        simp only [List.map_cons, List.flatMap_cons]
        refine All2.append ?_ ih
        have hs' : ∀ j, j < p.sorts.length → (p.sorts.getD j .any).has (ρ (i + j)) := by
          intro j hj
          have := hs j
          simp only [List.map_cons, List.flatMap_cons] at this
          rw [List.getD_eq_getElem?_getD, List.getElem?_append_left hj, ← List.getD_eq_getElem?_getD] at this
          exact this
        clear hs ih hnr
        generalize p.sorts = ss at hs'
        revert i
        induction ss with
        | nil => intro i _; trivial
        | cons s ss ih' =>
          intro i hs'
          simp only [List.length_cons, List.range'_succ, List.map_cons]
          refine ⟨?_, ih' (i + 1) fun j hj => ?_⟩
          · have := hs' 0 (by simp)
            simpa [E.den] using this
          · have := hs' (j + 1) (by simp; omega)
            rw [show i + 1 + j = i + (j + 1) by omega]
            simpa using this
    · exact absurd h (by simp)

theorem nextE_lt {n : Nat} {ws : List Nat} {L : LK} {ρ' : Nat → Value} (hρ : ∀ i, i < n → ρ i = ρ' i) : ∀ {ins : List (Nat × PK)} {i : Nat} {es : List E}, nextE n cx ws L i ins = some es →
    i + ((ins.map (·.2)).flatMap PK.sorts).length ≤ n → es.map (·.den ρ φ) = es.map (·.den ρ' φ)
  | [], i, es, h, _ => by
    simp only [nextE, Option.some.injEq] at h
    subst h
    rfl
  | (t, p) :: ins, i, es, h, hn => by
    simp only [List.map_cons, List.flatMap_cons, List.length_append] at hn
    simp only [nextE] at h
    split at h
    · rename_i r hnr
      have ih := nextE_lt hρ hnr (by omega)
      split at h
      · split at h
        · rename_i ag ss q hq
          split at h
          · rename_i hok
            simp only [Option.map_eq_some_iff] at h
            obtain ⟨es', he, rfl⟩ := h
            rw [List.map_append, List.map_append, ih]
            have := partOk_lt (φ := φ) hρ hok
            unfold Part.vals at this
            rw [exs_vals he, exs_vals he] at this
            rw [this]
          · exact absurd h (by simp)
        · exact absurd h (by simp)
      · simp only [Option.some.injEq] at h
        subst h
        rw [List.map_append, List.map_append, ih]
        congr 1
        rw [List.map_map, List.map_map]
        apply List.map_congr_left
        intro j hj
        simp only [List.mem_range'_1] at hj
        simp only [Function.comp, E.den]
        exact hρ j (by omega)
    · exact absurd h (by simp)

theorem outsE_has (F : Fits cx.Γ cx.S ρ φ) {n : Nat} {L : LK} : ∀ {os : List (Nat × RK)} {es : List E}, outsE n cx L os = some es → All2 So.has (outSorts os) (es.map (·.den ρ φ))
  | [], es, h => by
    simp only [outsE, Option.some.injEq] at h
    subst h
    trivial
  | (t, r) :: os, es, h => by
    simp only [outsE] at h
    split at h
    · rename_i q es' hq hes
      split at h
      · rename_i hok
        simp only [Option.map_eq_some_iff] at h
        obtain ⟨e1, he, rfl⟩ := h
        rw [List.map_append]
        unfold outSorts
        simp only [List.flatMap_cons]
        refine All2.append ?_ (outsE_has F hes)
        have := (partOk_gives F hok).1
        unfold Part.vals at this
        rw [exs_vals he] at this
        exact this
      · exact absurd h (by simp)
    · exact absurd h (by simp)
theorem outsE_lt {n : Nat} {L : LK} {ρ' : Nat → Value} (hρ : ∀ i, i < n → ρ i = ρ' i) : ∀ {os : List (Nat × RK)} {es : List E}, outsE n cx L os = some es → es.map (·.den ρ φ) = es.map (·.den ρ' φ)
  | [], es, h => by
    simp only [outsE, Option.some.injEq] at h
    subst h
    rfl
  | (t, r) :: os, es, h => by
    simp only [outsE] at h
    split at h
    · rename_i q es' hq hes
      split at h
      · rename_i hok
        simp only [Option.map_eq_some_iff] at h
        obtain ⟨e1, he, rfl⟩ := h
        rw [List.map_append, List.map_append, outsE_lt hρ hes]
        have := partOk_lt (φ := φ) hρ hok
        unfold Part.vals at this
        rw [exs_vals he, exs_vals he] at this
        rw [this]
      · exact absurd h (by simp)
    · exact absurd h (by simp)
theorem outsE_at (F : Fits cx.Γ cx.S ρ φ) {n : Nat} {fx : Fx} {L : LK} {B : BK} {β : Nat → Option Nat} {a : Act} {w : World} (H : M ρ φ fx L B β a w) : ∀ {os : List (Nat × RK)} {es : List E} (A C : List Value), outsE n cx L os = some es →
    outsAt a.tmps (A ++ es.map (·.den ρ φ) ++ C) A.length os
  | [], _, _, _, _ => trivial
  | (t, r) :: os, es, A, C, h => by
    simp only [outsE] at h
    split at h
    · rename_i q es' hq hes
      split at h
      · rename_i hok
        simp only [Option.map_eq_some_iff] at h
        obtain ⟨e1, he, rfl⟩ := h
        obtain ⟨g1, g2⟩ := partOk_gives F hok
        unfold Part.vals at g1 g2
        rw [exs_vals he] at g1 g2
        obtain ⟨x, hx, hsx⟩ := H.tmps t _ hq
        rw [List.map_append]
        refine ⟨⟨x, hx, fun w w' => ?_⟩, ?_⟩
        · have := g2 β x w w' A (es'.map (·.den ρ φ) ++ C) hsx
          simpa [List.append_assoc] using this
        · have ih := outsE_at F H (A ++ e1.map (·.den ρ φ)) C hes
          have hl := g1.length
          rw [List.length_append, ← hl] at ih
          simpa [List.append_assoc] using ih
      · exact absurd h (by simp)
    · exact absurd h (by simp)
end

theorem dfl_has (ss : List So) : All2 So.has ss (dfl ss) := by
  induction ss with
  | nil => trivial
  | cons s ss ih => exact ⟨coe_has s _, ih⟩

theorem exitE_spec {n : Nat} {cx : Cx} {L : LK} {x : XX} : ∀ {es : List (XX × List (Nat × RK))} {k m a j : Nat} {l : List E}, exitE n cx L x k es = some (m, a, l) →
    ∃ os, exitAt k j es m = some (x, j + a, os) ∧ outsE n cx L os = some l ∧ k ≤ m ∧ ∃ pre post, (es.flatMap fun e => outSorts e.2) = pre ++ outSorts os ++ post ∧ pre.length = a
  | [], _, _, _, _, _, h => by simp [exitE] at h
  | (y, os) :: es, k, m, a, j, l, h => by
    simp only [exitE] at h
    split at h
    · rename_i hb
      have := xxB_eq hb
      subst this
      simp only [Option.map_eq_some_iff, Prod.mk.injEq] at h
      obtain ⟨l', hl, rfl, rfl, rfl⟩ := h
      exact ⟨os, by simp [exitAt], hl, Nat.le_refl _, [], es.flatMap fun e => outSorts e.2, by simp, rfl⟩
    · simp only [Option.map_eq_some_iff] at h
      obtain ⟨r, hr, h⟩ := h
      simp only [Prod.mk.injEq] at h
      obtain ⟨r1, r2, r3⟩ := r
      simp only at h
      obtain ⟨rfl, rfl, rfl⟩ := h
      obtain ⟨os', h1, h2, h3, pre, post, h4, h5⟩ := exitE_spec (j := j + (outSorts os).length) hr
      refine ⟨os', ?_, h2, by omega, outSorts os ++ pre, post, by simp [h4], by simp [h5]; omega⟩
      simp only [exitAt]
      rw [if_neg (fun e => by have := Nat.eq_of_beq_eq_true e; omega), h1]
      congr 3
      omega

theorem run_lt {ρ ρ' : Nat → Value} {φ : Nat → List Value → List Value} {n : Nat} {cx : Cx} {lp : Lp} {ws : List Nat} (hρ : ∀ i, i < n → ρ i = ρ' i) : ∀ {T : Tree}, T.lok n cx lp ws = true → T.run ρ φ = T.run ρ' φ
  | .leaf _ _, _ => rfl
  | .ite c t e, h => by
    simp only [Tree.lok, Bool.and_eq_true] at h
    simp only [Tree.run, (lt_den φ hρ c h.1.1).1, run_lt hρ h.1.2, run_lt hρ h.2]
  | .stuck, _ => rfl
theorem lok_run (ρ : Nat → Value) (φ : Nat → List Value → List Value) {n : Nat} {cx : Cx} {lp : Lp} {ws : List Nat} : ∀ {T : Tree}, T.lok n cx lp ws = true → ∃ x σ, T.run ρ φ = some (x, σ) ∧ leafOk n cx lp ws x σ = true
  | .leaf x σ, h => ⟨x, σ, rfl, h⟩
  | .ite c t e, h => by
    simp only [Tree.lok, Bool.and_eq_true] at h
    simp only [Tree.run]
    split
    · exact lok_run ρ φ h.1.2
    · exact lok_run ρ φ h.2
  | .stuck, h => by simp [Tree.lok] at h

theorem zip_look {t : Nat} {s : SV} : ∀ {ts : List Nat} {ss : List SV}, lookA t (ts.zip ss) = some s → ∃ j : Nat, ts[j]? = some t ∧ ss[j]? = some s
  | [], _, h => by simp [lookA] at h
  | _ :: _, [], h => by simp [lookA] at h
  | u :: ts, s' :: ss, h => by
    simp only [List.zip_cons_cons, lookA] at h
    split at h
    · rename_i hb
      simp only [Option.some.injEq] at h
      subst h
      exact ⟨0, by simp [Nat.eq_of_beq_eq_true hb], rfl⟩
    · obtain ⟨j, h1, h2⟩ := zip_look h
      exact ⟨j + 1, by simpa using h1, by simpa using h2⟩

theorem look_append {t : Nat} {s : SV} : ∀ {l l' : List (Nat × SV)}, lookA t (l ++ l') = some s → lookA t l = some s ∨ lookA t l' = some s
  | [], _, h => Or.inr h
  | (u, x) :: l, l', h => by
    simp only [List.cons_append, lookA] at h ⊢
    split at h
    · rename_i hb
      rw [if_pos hb]
      exact Or.inl h
    · rename_i hb
      rw [if_neg hb]
      exact look_append h
theorem als_look {t : Nat} {s : SV} : ∀ {l : List (Nat × E)}, lookA t (l.map fun p => (p.1, SV.one ⟨false, [.e p.2]⟩)) = some s → ∃ q ∈ l, q.1 = t ∧ SV.one ⟨false, [.e q.2]⟩ = s
  | [], h => by simp [lookA] at h
  | q :: l, h => by
    simp only [List.map_cons, lookA] at h
    split at h
    · rename_i hb
      simp only [Option.some.injEq] at h
      exact ⟨q, by simp, Nat.eq_of_beq_eq_true hb, h⟩
    · obtain ⟨q', h1, h2⟩ := als_look h
      exact ⟨q', by simp [h1], h2⟩
theorem alsKeep_den {ρ : Nat → Value} {φ : Nat → List Value → List Value} {es : List E} : ∀ {als : List (Nat × E)}, alsKeep es als = true → ∀ p ∈ als, p.2.den (fun i => (es.map (·.den ρ φ)).getD i undef) φ = p.2.den ρ φ
  | [], _, p, hp => by simp at hp
  | (t, e) :: als, h, p, hp => by
    simp only [alsKeep, Bool.and_eq_true] at h
    rcases List.mem_cons.1 hp with rfl | hp
    · have := (subst_den ρ φ (atL es) e).1
      rw [E.eqv_eq h.1, atL_den] at this
      exact this.symm
    · exact alsKeep_den h.2 p hp

theorem readsAll_len {w : World} : ∀ {ps : List PK} {xs fl : List Value}, readsAll w ps xs fl → fl.length = (sortsP ps).length ∧ xs.length = ps.length
  | [], [], fl, h => by
    have h : fl = [] := h
    subst h
    exact ⟨rfl, rfl⟩
  | p :: ps, x :: xs, fl, h => by
    obtain ⟨f1, f2, rfl, h1, h2⟩ := h
    have := readsAll_len h2
    have hl := PK.reads_len h1
    unfold sortsP at *
    simp only [List.flatMap_cons, List.length_append, List.length_cons]
    omega
  | [], _ :: _, _, h => h.elim
  | _ :: _, [], _, h => h.elim

def lpOk (N : Nat) (ws : List Nat) (lp : Lp) : Bool :=
  lp.als.all (fun p => p.2.lt (sortsP (lp.ins.map (·.2))).length && p.2.noApp && !(hasN p.1 ws)) && (lp.ins.map (·.2)).all PK.okK && lp.ins.all (fun p => Nat.blt p.1 N) && lp.pre.all (fun p => p.1.lt (sortsP (lp.ins.map (·.2))).length && p.1.noApp) && lp.mu.lt (sortsP (lp.ins.map (·.2))).length && lp.mu.noApp && Nat.ble lp.exits.length 1000

theorem lp_sound {P : Program} {ct : List Sig} {sy : List (Nat × List So)} {φ φ' : Nat → List Value → List Value} (hfit : ∀ f j args, (symS sy f j).has ((φ f args).getD j undef)) (hsnd : ∀ g ∈ ct, g.Sound P φ) {lps : List Lp} {N fuel : Nat} {lp : Lp} {c : Code}
    (hls : ∀ l ∈ lps, ∀ b ∈ loops c, firstId b = some l.key → l.Sound P φ N b) (hok : lpOk N (wrs c) lp = true)
    (hT : (lpTree P ct sy lps N fuel lp c).lok (sortsP (lp.ins.map (·.2))).length (lpCx P ct sy lp) lp (wrs c) = true)
    (hφ : φ' lp.sym = lpF lp (lpCx P ct sy lp) (sortsP (lp.ins.map (·.2))).length (wrs c) (lpTree P ct sy lps N fuel lp c) φ) : lp.Sound P φ' N c := by
  unfold lpOk at hok
  simp only [Bool.and_eq_true] at hok
  obtain ⟨⟨⟨⟨⟨⟨hals0, hk⟩, hN⟩, hpok⟩, hmu⟩, _⟩, _⟩ := hok
  intro a w fl Q hsz hdf hr hpre hals hQ
  generalize hT0 : lpTree P ct sy lps N fuel lp c = T at hT hφ
  have key : ∀ (m : Nat) (fl1 : List Value) (a1 : Act) (w1 : World), a1.tmps.size = N → a1.defers = [] → (∀ t, hasN t (wrs c) = false → a1.tmps[t]? = a.tmps[t]?) → Below w.heap.size w w1 →
      readsAll w1 (lp.ins.map (·.2)) (lp.ins.map fun p => a1.eval (.tmp p.1)) fl1 → lp.pre.hold (fun i => fl1.getD i undef) φ → (∀ p ∈ lp.als, a1.tmps[p.1]? = some (p.2.den (fun i => fl1.getD i undef) φ)) → (vint (lp.mu.den (fun i => fl1.getD i undef) φ) + 1).toNat < m →
      lpItr lp (lpCx P ct sy lp) (sortsP (lp.ins.map (·.2))).length (wrs c) T φ m fl1 = φ' lp.sym fl → Code.rounds P c Q m a1 w1 := by
    intro m
    induction m with
    | zero => intro fl1 a1 w1 _ _ _ _ _ _ _ hm; omega
    | succ m ih =>
      intro fl1 a1 w1 hsz1 hdf1 hfr1 hbl1 hr1 hpre1 hals1 hm hit
      rw [rounds_succ]
      obtain ⟨hlen, hlx⟩ := readsAll_len hr1
      generalize hxs : (lp.ins.map fun p => a1.eval (.tmp p.1)) = xs1 at hr1 hlx
      obtain ⟨ρ1, hρ1⟩ : ∃ ρ1 : Nat → Value, ρ1 = fun i => (fl1 ++ exV (lp.ins.map (·.2)) xs1).getD i undef := ⟨_, rfl⟩
      have hρa : ∀ i, i < (sortsP (lp.ins.map (·.2))).length → ρ1 i = fl1.getD i undef := by
        intro i hi
        rw [hρ1]
        simp only
        rw [List.getD_eq_getElem?_getD, List.getElem?_append_left (by omega), List.getD_eq_getElem?_getD]
      obtain ⟨ha, hhas, hhx, hvw⟩ := argsV_is (φ := φ) (β := fun _ => none) (fm := ⟨N, some (wrs c)⟩) (a0 := a1.tmps) [] fl1 ρ1 hk hr1 (fun j hj => by
        rw [List.length_nil, Nat.zero_add]; exact hρa j (by omega)) (fun j hj => by
        rw [hρ1]
        simp only
        rw [List.getD_eq_getElem?_getD, List.getElem?_append_right (by omega), show fl1.length + j - fl1.length = j by omega, List.getD_eq_getElem?_getD])
      rw [hlen] at ha hvw
      simp only [List.length_nil] at ha hvw
      have F : Fits (lpCx P ct sy lp).Γ (lpCx P ct sy lp).S ρ1 φ := ⟨fun i => by
        have := all2_get (All2.append hhas hhx) i
        rw [hρ1]
        exact this, hfit⟩
      have hρc : (fun i => coe ((sortsP (lp.ins.map (·.2))).getD i .any) (fl1.getD i undef)) = fun i => fl1.getD i undef := by
        funext i
        exact coe_id (all2_get hhas i)
      have hρb : ∀ i, i < (sortsP (lp.ins.map (·.2))).length → ρ1 i = (fun i => fl1.getD i undef) i := hρa
      have hinit : MS ρ1 φ ⟨⟨N, some (wrs c)⟩, a1.tmps, [], w1⟩ (lpStart lp) (fun _ => none) a1 w1 := by
        refine ⟨⟨?_, hsz1, hdf1, fun _ _ => rfl, LowX.refl _ _, ?_, ?_, ?_⟩, fun _ _ => rfl⟩
        · intro t s h
          rcases look_append h with h | h
          case inr =>
            obtain ⟨q, hq, rfl, rfl⟩ := als_look h
            refine ⟨_, hals1 q hq, ?_⟩
            have := List.all_eq_true.1 hals0 q hq
            rw [Bool.and_eq_true, Bool.and_eq_true] at this
            show _ = _
            rw [(lt_den φ hρb q.2 this.1.1).1]
          obtain ⟨j, h1, h2⟩ := zip_look h
          obtain ⟨x, hx, hsx⟩ := ha.get h2
          simp only [List.getElem?_map, Option.map_eq_some_iff] at h1
          obtain ⟨q, hq, rfl⟩ := h1
          have hxe : x = a1.eval (.tmp q.1) := by
            rw [← hxs, List.getElem?_map, hq] at hx
            simpa using hx.symm
          have hqN : q.1 < a1.tmps.size := by
            have := List.all_eq_true.1 hN q (List.mem_of_getElem? hq)
            simp only [Nat.blt] at this
            have := Nat.le_of_ble_eq_true this
            omega
          refine ⟨x, ?_, hsx⟩
          rw [hxe]
          simp [Act.eval, hqN]
        · intro id row h
          simp [St.B, lpStart, lookA] at h
        · intro id id' b h
          simp at h
        · intro id b h
          simp at h
      have hfacts : (lpStart lp).facts.hold ρ1 φ := by
        intro p hp
        rcases List.mem_append.1 hp with hp | hp
        · have h1 := List.all_eq_true.1 hpok p hp
          rw [Bool.and_eq_true] at h1
          rw [(lt_den φ hρb p.1 h1.1).1]
          exact hpre1 p hp
        · exact vwFacts_hold hvw p hp
      obtain ⟨x, σ, hrun, hleaf⟩ := lok_run ρ1 φ hT
      have hrunc : T.run (fun i => fl1.getD i undef) φ = some (x, σ) := by
        rw [← run_lt hρb hT]; exact hrun
      rw [← hT0] at hrun
      refine exec_sound (cx := lpCx P ct sy lp) (ρ := ρ1) (fx := ⟨⟨N, some (wrs c)⟩, a1.tmps, [], w1⟩) hvw F hsnd c hls fuel c (lpStart lp) _ a1 w1 _ (fun l hl => hl) hinit hfacts (Tree.all_of_run hrun ?_)
      intro β a2 w2 hM2 hf2
      have hbl2 : Below w1.heap.size w1 w2 := hM2.m.low.below
      have hfr2 : ∀ t, hasN t (wrs c) = false → a2.tmps[t]? = a1.tmps[t]? := fun t ht => hM2.m.frm t ht
      have hbl : Below w.heap.size w w2 := hbl1.trans (hbl2.mono hbl1.size)
      have hfr : ∀ t, hasN t (wrs c) = false → a2.tmps[t]? = a.tmps[t]? := fun t ht => (hfr2 t ht).trans (hfr1 t ht)
      have other : x ≠ .normal → (∃ k a b, exitE (sortsP (lp.ins.map (·.2))).length (lpCx P ct sy lp) σ.L x 0 lp.exits = some (k, a, b)) → Q x.toExit a2 w2 := by
        rintro hne ⟨k, off, es, he⟩
        obtain ⟨os, h1, h2, _, pre, post, h4, h5⟩ := exitE_spec (j := 1) he
        have hout : φ' lp.sym fl = .int .i64 (Int.ofNat k) :: (dfl (((lp.exits.flatMap fun e => outSorts e.2)).take off) ++ es.map (·.den ρ1 φ) ++ dfl (((lp.exits.flatMap fun e => outSorts e.2)).drop (off + es.length))) := by
          rw [← hit]
          simp only [lpItr, lpStep, hρc, hrunc]
          cases x with
          | normal => exact absurd rfl hne
          | exit i => simp only [he]; rw [outsE_lt (φ := φ) hρb h2]
          | ret => simp only [he]; rw [outsE_lt (φ := φ) hρb h2]
        refine hQ k x (1 + off) os a2 w2 h1 (by rw [hout]; rfl) hM2.m.size hM2.m.dfr hfr ?_ hbl
        rw [hout]
        have hat := outsE_at F hM2.m (.int .i64 (Int.ofNat k) :: dfl (((lp.exits.flatMap fun e => outSorts e.2)).take off)) (dfl (((lp.exits.flatMap fun e => outSorts e.2)).drop (off + es.length))) h2
        have hpl : (dfl (((lp.exits.flatMap fun e => outSorts e.2)).take off)).length = off := by
          unfold dfl
          rw [List.length_map, List.length_take, h4]
          simp only [List.length_append]
          omega
        simp only [List.length_cons, hpl] at hat
        rw [Nat.add_comm off 1] at hat
        simpa using hat
      cases x with
      | normal =>
        simp only [leafOk] at hleaf
        split at hleaf
        · rename_i es hes
          simp only [Bool.and_eq_true] at hleaf
          obtain ⟨⟨⟨hak, hp2⟩, hmu2⟩, hmu3⟩ := hleaf
          have hreads := nextE_reads (i := 0) F hM2.m hbl2 hfr2 hes (by rw [hxs]; exact hr1) (fun j hj => by
            rw [Nat.zero_add]; exact hρa j (by omega))
          have hmapc := nextE_lt (φ := φ) hρb hes (by rw [Nat.zero_add]; exact Nat.le_refl _)
          have hpre2 := preOk_hold F hf2 hp2
          have hmul := (lt_den φ hρb lp.mu hmu).1
          split at hmu2
          · rename_i b1 hb1
            have hb1 := dec_sound F hf2 hb1
            split at hmu3
            · rename_i b2 hb2
              have hb2 := dec_sound F hf2 hb2
              rw [hmu2] at hb1
              have hmu3 : b2 = false := by simpa using hmu3
              rw [hmu3] at hb2
              rw [mkLss_den] at hb1 hb2
              simp only [E.den, vint_int, Value.bool.injEq] at hb1 hb2
              replace hb1 := of_decide_eq_true hb1
              replace hb2 := of_decide_eq_false hb2
              rw [(subst_den ρ1 φ (atL es) lp.mu).1] at hb1
              rw [atL_den] at hb1
              rw [hmul] at hb1 hb2
              refine ih (es.map (·.den ρ1 φ)) a2 w2 hM2.m.size hM2.m.dfr hfr hbl hreads hpre2 (fun q hq => ?_) (by omega) ?_
              · have h1 := List.all_eq_true.1 hals0 q hq
                rw [Bool.and_eq_true, Bool.and_eq_true] at h1
                rw [hfr2 q.1 (by simpa using h1.2), hals1 q hq, alsKeep_den hak q hq, (lt_den φ hρb q.2 h1.1.1).1]
              rw [← hit]
              simp only [lpItr, lpStep, hρc, hrunc, hes]
              rw [hmapc]
            · exact absurd hmu3 (by simp)
          · exact absurd hmu2 (by simp)
        · exact absurd hleaf (by simp)
      | exit i =>
        simp only [leafOk] at hleaf
        split at hleaf
        · rename_i r hr'
          exact other (by simp) ⟨r.1, r.2.1, r.2.2, hr'⟩
        · exact absurd hleaf (by simp)
      | ret =>
        simp only [leafOk] at hleaf
        split at hleaf
        · rename_i r hr'
          exact other (by simp) ⟨r.1, r.2.1, r.2.2, hr'⟩
        · exact absurd hleaf (by simp)
  have hpre' : lp.pre.hold (fun i => fl.getD i undef) φ := by
    intro p hp
    have h1 := List.all_eq_true.1 hpok p hp
    rw [Bool.and_eq_true] at h1
    rw [(noApp_den _ φ φ' p.1 h1.2).1]
    exact hpre p hp
  have hhas : All2 So.has (sortsP (lp.ins.map (·.2))) fl := by
    obtain ⟨hlen, hlx⟩ := readsAll_len hr
    have := argsV_is (φ := φ) (β := fun _ => none) (fm := ⟨N, none⟩) (a0 := #[]) [] fl (fun i => (fl ++ exV (lp.ins.map (·.2)) (lp.ins.map fun p => a.eval (.tmp p.1))).getD i undef) hk hr (fun j hj => by
      simp only [List.length_nil, Nat.zero_add]
      rw [List.getD_eq_getElem?_getD, List.getElem?_append_left (by omega), List.getD_eq_getElem?_getD]) (fun j hj => by
      rw [List.getD_eq_getElem?_getD, List.getElem?_append_right (by omega), show fl.length + j - fl.length = j by omega, List.getD_eq_getElem?_getD])
    exact this.2.1
  have hρc : (fun i => coe ((sortsP (lp.ins.map (·.2))).getD i .any) (fl.getD i undef)) = fun i => fl.getD i undef := by
    funext i
    exact coe_id (all2_get hhas i)
  refine wp_loop_rounds _ (key ((vint (lp.mu.den (fun i => fl.getD i undef) φ) + 1).toNat + 1) fl a w hsz hdf (fun _ _ => rfl) (Below.refl _ _) hr hpre' (fun q hq => ?_) (by omega) ?_)
  · have h1 := List.all_eq_true.1 hals0 q hq
    rw [Bool.and_eq_true, Bool.and_eq_true] at h1
    rw [(noApp_den _ φ φ' q.2 h1.1.2).1]
    exact hals q hq
  rw [hφ]
  unfold lpF
  rw [hρc]

theorem exitE_lt {n : Nat} {cx : Cx} {L : LK} {x : XX} : ∀ {es : List (XX × List (Nat × RK))} {k m a : Nat} {l : List E}, exitE n cx L x k es = some (m, a, l) → m < k + es.length
  | [], _, _, _, _, h => by simp [exitE] at h
  | (y, os) :: es, k, m, a, l, h => by
    simp only [exitE] at h
    split at h
    · simp only [Option.map_eq_some_iff, Prod.mk.injEq] at h
      obtain ⟨l', hl, rfl, rfl, rfl⟩ := h
      simp
    · simp only [Option.map_eq_some_iff] at h
      obtain ⟨⟨r1, r2, r3⟩, hr, h⟩ := h
      simp only [Prod.mk.injEq] at h
      obtain ⟨rfl, rfl, rfl⟩ := h
      have := exitE_lt hr
      simp only [List.length_cons]
      omega

/-- Whatever comes in, what a loop gives is of its sorts. -/
theorem lpF_has {P : Program} {ct : List Sig} {sy : List (Nat × List So)} {φ : Nat → List Value → List Value} (hfit : ∀ f j args, (symS sy f j).has ((φ f args).getD j undef)) {lp : Lp} {ws : List Nat} {T : Tree} {N : Nat} (hok : lpOk N ws lp = true)
    (hT : T.lok (sortsP (lp.ins.map (·.2))).length (lpCx P ct sy lp) lp ws = true) (fl : List Value) : All2 So.has lp.sorts (lpF lp (lpCx P ct sy lp) (sortsP (lp.ins.map (·.2))).length ws T φ fl) := by
  unfold lpOk at hok
  simp only [Bool.and_eq_true] at hok
  have hlen := Nat.le_of_ble_eq_true hok.2
  have bad : All2 So.has lp.sorts (.int .i64 (-1) :: dfl (lp.exits.flatMap fun e => outSorts e.2)) := ⟨⟨_, rfl, by decide, by decide⟩, dfl_has _⟩
  have key : ∀ (m : Nat) (fl : List Value), All2 So.has lp.sorts (lpItr lp (lpCx P ct sy lp) (sortsP (lp.ins.map (·.2))).length ws T φ m fl) := by
    intro m
    induction m with
    | zero => intro fl; exact bad
    | succ m ih =>
      intro fl
      obtain ⟨ρ2, hρ2⟩ : ∃ ρ2 : Nat → Value, ρ2 = fun i => coe ((sortsP (lp.ins.map (·.2)) ++ exS (lp.ins.map (·.2))).getD i .any) (fl.getD i undef) := ⟨_, rfl⟩
      have hagree : ∀ i, i < (sortsP (lp.ins.map (·.2))).length → ρ2 i = (fun i => coe ((sortsP (lp.ins.map (·.2))).getD i .any) (fl.getD i undef)) i := by
        intro i hi
        rw [hρ2]
        simp only
        rw [List.getD_eq_getElem?_getD (l := sortsP (lp.ins.map (·.2)) ++ _), List.getElem?_append_left hi, List.getD_eq_getElem?_getD (l := sortsP (lp.ins.map (·.2)))]
      have F : Fits (lpCx P ct sy lp).Γ (lpCx P ct sy lp).S ρ2 φ := ⟨fun i => by rw [hρ2]; exact coe_has _ _, hfit⟩
      obtain ⟨x, σ, hrun, hleaf⟩ := lok_run ρ2 φ hT
      rw [run_lt hagree hT] at hrun
      have other : (∃ k a b, exitE (sortsP (lp.ins.map (·.2))).length (lpCx P ct sy lp) σ.L x 0 lp.exits = some (k, a, b)) → x ≠ .normal → All2 So.has lp.sorts (lpItr lp (lpCx P ct sy lp) (sortsP (lp.ins.map (·.2))).length ws T φ (m + 1) fl) := by
        rintro ⟨k, off, es, he⟩ hne
        obtain ⟨os, h1, h2, _, pre, post, h4, h5⟩ := exitE_spec (j := 1) he
        have hk := exitE_lt he
        have hh := outsE_has F h2
        rw [outsE_lt (φ := φ) hagree h2] at hh
        have hol : (outSorts os).length = es.length := by
          have := hh.length
          simpa using this
        have hres : All2 So.has lp.sorts (.int .i64 (Int.ofNat k) :: (dfl (((lp.exits.flatMap fun e => outSorts e.2)).take off) ++ es.map (·.den (fun i => coe ((sortsP (lp.ins.map (·.2))).getD i .any) (fl.getD i undef)) φ) ++ dfl (((lp.exits.flatMap fun e => outSorts e.2)).drop (off + es.length)))) := by
          refine ⟨⟨_, rfl, ?_, ?_⟩, ?_⟩
          · have : (0 : Int) ≤ Int.ofNat k := Int.natCast_nonneg k
            simp only [lowOf]
            omega
          · have hk' : k ≤ 1000 := by omega
            show (k : Int) ≤ _
            simp only [highOf]
            omega
          · rw [h4]
            have e1 : (pre ++ outSorts os ++ post).take off = pre := by
              rw [List.append_assoc, List.take_append_of_le_length (by omega), ← h5, List.take_length]
            have e2 : (pre ++ outSorts os ++ post).drop (off + es.length) = post := by
              rw [← hol, ← h5, ← List.length_append, List.drop_left]
            rw [e1, e2]
            exact All2.append (All2.append (dfl_has pre) hh) (dfl_has post)
        simp only [lpItr, lpStep, hrun]
        cases x with
        | normal => exact absurd rfl hne
        | exit i => simp only [he]; exact hres
        | ret => simp only [he]; exact hres
      cases x with
      | normal =>
        simp only [leafOk] at hleaf
        split at hleaf
        · rename_i es hes
          simp only [lpItr, lpStep, hrun, hes]
          exact ih _
        · exact absurd hleaf (by simp)
      | exit i =>
        simp only [leafOk] at hleaf
        split at hleaf
        · rename_i r hr'
          exact other ⟨r.1, r.2.1, r.2.2, hr'⟩ (by simp)
        · exact absurd hleaf (by simp)
      | ret =>
        simp only [leafOk] at hleaf
        split at hleaf
        · rename_i r hr'
          exact other ⟨r.1, r.2.1, r.2.2, hr'⟩ (by simp)
        · exact absurd hleaf (by simp)
  exact key _ fl
end Go.SX

/- SX: contracts that come of themselves: a function whose tree is closed, with the tree as its meaning; a loop likewise. -/
namespace Go.SX
open Go Go.RowKit

/-! ### The sorts of a type -/
def sortsOf (P : Program) : Nat → TypeId → Option (Bool × List So)
  | 0, _ => none
  | d + 1, t =>
    match P.underlying t with
    | some (.int k) => some (false, [.int k])
    | some .bool => some (false, [.bool])
    | some .string => some (false, [.str])
    | some (.struct fs) => (fs.toList.foldr (fun f acc => match acc, sortsOf P d f.type with
        | some r, some (_, ss) => some (ss ++ r)
        | _, _ => none) (some [])).map fun ss => (true, ss)
    | some (.array n e) => match sortsOf P d e with
      | some (_, ss) => some (true, (List.range n).flatMap fun _ => ss)
      | none => none
    | some (.slice _) | some (.pointer _) | some (.map _ _) | some (.func _ _ _) | some (.interface _) => some (false, [.one])
    | _ => none
def pksOf (P : Program) : List TypeId → Option (List PK)
  | [] => some []
  | t :: ts => match sortsOf P 12 t, pksOf P ts with
    | some (a, ss), some r => some (.val a ss :: r)
    | _, _ => none
/-- The same, a slice of plain elements read as such. -/
def pksSl (P : Program) : List TypeId → Option (List PK)
  | [] => some []
  | t :: ts => match P.underlying t, pksSl P ts with
    | some (.slice e), some r => match sortsOf P 12 e with
      | some (_, ss) => some (.sl ss :: r)
      | none => none
    | _, some r => match sortsOf P 12 t with
      | some (a, ss) => some (.val a ss :: r)
      | none => none
    | _, none => none
def rksOf (P : Program) : List TypeId → Option (List RK)
  | [] => some []
  | t :: ts => match sortsOf P 12 t, rksOf P ts with
    | some (a, ss), some r => some (.val a ss :: r)
    | _, _ => none
def sigOf (P : Program) (fn : Func) (f : FuncId) (sym : Nat) : Sig :=
  match pksOf P fn.params.toList, rksOf P fn.resultTypes.toList with
  | some ps, some rs => ⟨f, sym, ps, rs, [], [], []⟩
  | _, _ => ⟨f, sym, [], [], [], [], []⟩

/-- A contract for a function some of whose slices are read. -/
def sigSl (P : Program) (fn : Func) (f : FuncId) (sym : Nat) : Sig :=
  match pksSl P fn.params.toList, rksOf P fn.resultTypes.toList with
  | some ps, some rs => ⟨f, sym, ps, rs, [], [], []⟩
  | _, _ => ⟨f, sym, [], [], [], [], []⟩

section
variable (ρ : Nat → Value) (φ : Nat → List Value → List Value)
def SV.vals : SV → List Value
  | .one p => p.vals ρ φ
  | .tup ps => ps.flatMap fun p => p.vals ρ φ
def RTree.vals : RTree → List Value
  | .leaf v _ => v.vals ρ φ
  | .ite c t e => if vbool (c.den ρ φ) then t.vals else e.vals
  | .stuck => []
end
def partsOk (cx : Cx) (n : Nat) : List RK → List Part → Bool
  | [], [] => true
  | r :: rs, p :: ps => partOk cx n r p && partsOk cx n rs ps
  | _, _ => false
def svOk (cx : Cx) (n : Nat) (rs : List RK) (v : SV) : Bool :=
  match rs, v with
  | [r], .one p => partOk cx n r p
  | [_], .tup _ => false
  | rs, .tup ps => partsOk cx n rs ps
  | _, .one _ => false
def RTree.ok (cx : Cx) (n : Nat) (rs : List RK) : RTree → Bool
  | .leaf v _ => svOk cx n rs v
  | .ite c t e => c.lt n && t.ok cx n rs && e.ok cx n rs
  | .stuck => false

/-- What a function means: its tree. -/
def auto (T : RTree) (ss : List So) (φ : Nat → List Value → List Value) (fl : List Value) : List Value :=
  T.vals (fun i => coe (ss.getD i .any) (fl.getD i undef)) φ
def updF (φ : Nat → List Value → List Value) (k : Nat) (f : List Value → List Value) : Nat → List Value → List Value := fun j => if Nat.beq j k then f else φ j
theorem updF_self (φ : Nat → List Value → List Value) (k : Nat) (f : List Value → List Value) : updF φ k f k = f := by simp [updF]
theorem updF_ne (φ : Nat → List Value → List Value) {j k : Nat} (h : j ≠ k) (f : List Value → List Value) : updF φ k f j = φ j := by
  unfold updF
  rw [if_neg]
  exact fun e => h (Nat.eq_of_beq_eq_true e)

/-- Contracts with their meanings. -/
structure Env (P : Program) (ct : List Sig) (sy : List (Nat × List So)) (φ : Nat → List Value → List Value) : Prop where
  fit : ∀ f j args, (symS sy f j).has ((φ f args).getD j undef)
  snd : ∀ g ∈ ct, g.Sound P φ
theorem Env.nil (P : Program) (φ : Nat → List Value → List Value) : Env P [] [] φ := ⟨fun _ _ _ => trivial, fun g h => absurd h (by simp)⟩
theorem Sig.Sound.congr {P : Program} {φ φ' : Nat → List Value → List Value} {g : Sig} (h : φ' g.sym = φ g.sym) (H : g.Sound P φ) : g.Sound P φ' :=
  ⟨H.call, fun w xs fl hr hp hx => by rw [h]; exact H.does w xs fl hr hp hx, fun fl hs => by rw [h]; exact H.tells fl hs⟩
def freshS (k : Nat) : List Sig → Bool
  | [] => true
  | g :: gs => !(Nat.beq g.sym k) && freshS k gs
theorem freshS_ne {k : Nat} : ∀ {ct : List Sig}, freshS k ct = true → ∀ g ∈ ct, g.sym ≠ k
  | [], _, g, hg => by simp at hg
  | g' :: ct, h, g, hg => by
    simp only [freshS, Bool.and_eq_true, Bool.not_eq_true'] at h
    rcases List.mem_cons.1 hg with rfl | hg
    · intro e
      rw [e] at h
      simp at h
    · exact freshS_ne h.2 g hg

theorem fit_add {sy : List (Nat × List So)} {φ : Nat → List Value → List Value} (H : ∀ f j args, (symS sy f j).has ((φ f args).getD j undef)) {k : Nat} {ss : List So} {F : List Value → List Value}
    (hF : ∀ args, All2 So.has ss (F args)) : ∀ f j args, (symS ((k, ss) :: sy) f j).has ((updF φ k F f args).getD j undef) := by
  intro f j args
  by_cases hf : f = k
  · subst hf
    rw [updF_self]
    have e : symS ((f, ss) :: sy) f j = ss.getD j .any := by simp [symS, lookA]
    rw [e]
    exact all2_get (hF args) j
  · rw [updF_ne φ hf]
    have hb : Nat.beq k f = false := by
      cases hq : Nat.beq k f with
      | false => rfl
      | true => exact absurd (Nat.eq_of_beq_eq_true hq).symm hf
    have e : symS ((k, ss) :: sy) f j = symS sy f j := by simp [symS, lookA, hb]
    rw [e]
    exact H f j args

/-- One contract more, however it was shown. -/
theorem Env.add {P : Program} {ct : List Sig} {sy : List (Nat × List So)} {φ : Nat → List Value → List Value} (H : Env P ct sy φ) (g : Sig) (F : List Value → List Value) (hfr : freshS g.sym ct = true)
    (hfit : ∀ args, All2 So.has (g.rs.flatMap RK.sorts) (F args)) (hs : g.Sound P (updF φ g.sym F)) : Env P (g :: ct) ((g.sym, g.rs.flatMap RK.sorts) :: sy) (updF φ g.sym F) := by
  refine ⟨fit_add H.fit hfit, fun g' hg' => ?_⟩
  rcases List.mem_cons.1 hg' with rfl | hg'
  · exact hs
  · exact (H.snd g' hg').congr (updF_ne φ (freshS_ne hfr g' hg') F)
/-- A symbol more that is no function's. -/
theorem Env.sym {P : Program} {ct : List Sig} {sy : List (Nat × List So)} {φ : Nat → List Value → List Value} (H : Env P ct sy φ) (k : Nat) (ss : List So) (F : List Value → List Value) (hfr : freshS k ct = true)
    (hF : ∀ args, All2 So.has ss (F args)) : Env P ct ((k, ss) :: sy) (updF φ k F) :=
  ⟨fit_add H.fit hF, fun g' hg' => (H.snd g' hg').congr (updF_ne φ (freshS_ne hfr g' hg') F)⟩

section
variable {ρ : Nat → Value} {φ : Nat → List Value → List Value} {cx : Cx}
theorem partsOk_gives (F : Fits cx.Γ cx.S ρ φ) {n : Nat} : ∀ {rs : List RK} {ps : List Part}, partsOk cx n rs ps = true → All2 So.has (rs.flatMap RK.sorts) (ps.flatMap fun p => p.vals ρ φ) ∧
    ∀ β (xs : List Value) (w w' : World) (A C : List Value), All2 (Part.is ρ φ β) ps xs → givesAll w w' (A ++ (ps.flatMap fun p => p.vals ρ φ) ++ C) A.length rs xs
  | [], [], _ => ⟨trivial, fun β xs w w' A C h => by cases xs with | nil => trivial | cons _ _ => exact h.elim⟩
  | r :: rs, p :: ps, h => by
    simp only [partsOk, Bool.and_eq_true] at h
    obtain ⟨h1, h2⟩ := partOk_gives F h.1
    obtain ⟨h3, h4⟩ := partsOk_gives F h.2
    refine ⟨by simp only [List.flatMap_cons]; exact All2.append h1 h3, fun β xs w w' A C hx => ?_⟩
    cases xs with
    | nil => exact hx.elim
    | cons x xs =>
      simp only [List.flatMap_cons]
      refine ⟨?_, ?_⟩
      · have := h2 β x w w' A ((ps.flatMap fun p => p.vals ρ φ) ++ C) hx.1
        simpa [List.append_assoc] using this
      · have := h4 β xs w w' (A ++ p.vals ρ φ) C hx.2
        have hl := h1.length
        rw [List.length_append, ← hl] at this
        simpa [List.append_assoc] using this
  | [], _ :: _, h => by simp [partsOk] at h
  | _ :: _, [], h => by simp [partsOk] at h
theorem partsOk_lt {n : Nat} {ρ' : Nat → Value} (hρ : ∀ i, i < n → ρ i = ρ' i) : ∀ {rs : List RK} {ps : List Part}, partsOk cx n rs ps = true → (ps.flatMap fun p => p.vals ρ φ) = ps.flatMap fun p => p.vals ρ' φ
  | [], [], _ => rfl
  | r :: rs, p :: ps, h => by
    simp only [partsOk, Bool.and_eq_true] at h
    simp only [List.flatMap_cons, partOk_lt (φ := φ) hρ h.1, partsOk_lt hρ h.2]
  | [], _ :: _, h => by simp [partsOk] at h
  | _ :: _, [], h => by simp [partsOk] at h

theorem svOk_gives (F : Fits cx.Γ cx.S ρ φ) {n : Nat} {rs : List RK} {v : SV} (h : svOk cx n rs v = true) : All2 So.has (rs.flatMap RK.sorts) (v.vals ρ φ) ∧
    ∀ β x (w w' : World), v.is ρ φ β x → retGives w w' (v.vals ρ φ) rs x := by
  unfold svOk at h
  split at h
  · rename_i r p
    obtain ⟨h1, h2⟩ := partOk_gives F h
    refine ⟨by simpa [SV.vals] using h1, fun β x w w' hx => ?_⟩
    have := h2 β x w w' [] [] hx
    simpa [retGives, SV.vals] using this
  · exact absurd h (by simp)
  · rename_i ps hne
    obtain ⟨h1, h2⟩ := partsOk_gives F h
    refine ⟨h1, fun β x w w' hx => ?_⟩
    obtain ⟨xs, rfl, ha⟩ := hx
    have := h2 β xs w w' [] [] ha
    simp only [List.nil_append, List.append_nil, List.length_nil] at this
    unfold retGives
    split
    · rename_i r
      exact absurd rfl (hne r)
    · exact ⟨xs, rfl, this⟩
  · exact absurd h (by simp)
theorem svOk_lt {n : Nat} {ρ' : Nat → Value} (hρ : ∀ i, i < n → ρ i = ρ' i) {rs : List RK} {v : SV} (h : svOk cx n rs v = true) : v.vals ρ φ = v.vals ρ' φ := by
  unfold svOk at h
  split at h
  · exact partOk_lt (φ := φ) hρ h
  · exact absurd h (by simp)
  · exact partsOk_lt hρ h
  · exact absurd h (by simp)

theorem RTree.ok_has (F : Fits cx.Γ cx.S ρ φ) {n : Nat} {rs : List RK} : ∀ {T : RTree}, T.ok cx n rs = true → All2 So.has (rs.flatMap RK.sorts) (T.vals ρ φ)
  | .leaf _ _, h => (svOk_gives F h).1
  | .ite c t e, h => by
    simp only [RTree.ok, Bool.and_eq_true] at h
    simp only [RTree.vals]
    split
    · exact RTree.ok_has F h.1.2
    · exact RTree.ok_has F h.2
  | .stuck, h => by simp [RTree.ok] at h
theorem RTree.ok_lt {n : Nat} {ρ' : Nat → Value} (hρ : ∀ i, i < n → ρ i = ρ' i) {rs : List RK} : ∀ {T : RTree}, T.ok cx n rs = true → T.vals ρ φ = T.vals ρ' φ
  | .leaf _ _, h => svOk_lt hρ h
  | .ite c t e, h => by
    simp only [RTree.ok, Bool.and_eq_true] at h
    simp only [RTree.vals, (lt_den φ hρ c h.1.1).1, RTree.ok_lt hρ h.1.2, RTree.ok_lt hρ h.2]
  | .stuck, _ => rfl
theorem RTree.ok_all {n : Nat} {rs : List RK} : ∀ {T : RTree}, T.ok cx n rs = true → T.all ρ φ fun v _ => v.vals ρ φ = T.vals ρ φ ∧ svOk cx n rs v = true
  | .leaf _ _, h => ⟨rfl, h⟩
  | .ite c t e, h => by
    simp only [RTree.ok, Bool.and_eq_true] at h
    simp only [RTree.vals]
    constructor
    · intro hc
      rw [hc]
      simp only [vbool_bool, if_true]
      exact RTree.ok_all h.1.2
    · intro hc
      rw [hc]
      simp only [vbool_bool, Bool.false_eq_true, if_false]
      exact RTree.ok_all h.2
  | .stuck, h => by simp [RTree.ok] at h
theorem RTree.all_mono {K K' : SV → St → Prop} (h : ∀ x σ, K x σ → K' x σ) : ∀ {T : RTree}, T.all ρ φ K → T.all ρ φ K'
  | .leaf _ _, H => h _ _ H
  | .ite _ _ _, H => ⟨fun hc => RTree.all_mono h (H.1 hc), fun hc => RTree.all_mono h (H.2 hc)⟩
  | .stuck, H => H.elim
end

theorem callFunc_run {P : Program} {f : FuncId} {fn : Func} {c : Code} (hf : P.funcs[f]? = some fn) (hb : fn.body = some c) (hn : (fn.name == "runtime.NumGoroutine") = false) (args : Array Value) (w : World) :
    (callFunc f args).run P w = .ok (.enter f args) w := by
  have hn : ¬ fn.name = "runtime.NumGoroutine" := by simpa using hn
  simp [callFunc, hf, hb, hn]

/-- Some of the arguments are literals. -/
def fixC (fx : List (Nat × E)) : SC → SC
  | .e (.var j) => match lookA j fx with
    | some e => .e e
    | none => .e (.var j)
  | c => c
def fixP (fx : List (Nat × E)) (p : Part) : Part := ⟨p.agg, p.cs.map (fixC fx)⟩
def fixV (fx : List (Nat × E)) : SV → SV
  | .one p => .one (fixP fx p)
  | .tup ps => .tup (ps.map (fixP fx))
theorem lookA_mem {α : Type} {k : Nat} {x : α} : ∀ {l : List (Nat × α)}, lookA k l = some x → (k, x) ∈ l
  | [], h => by simp [lookA] at h
  | (i, y) :: l, h => by
    simp only [lookA] at h
    split at h
    · rename_i hb
      simp only [Option.some.injEq] at h
      rw [Nat.eq_of_beq_eq_true hb, h]
      simp
    · exact List.mem_cons_of_mem _ (lookA_mem h)
section
variable {ρ : Nat → Value} {φ : Nat → List Value → List Value} {β : Nat → Option Nat} {fx : List (Nat × E)} (h : ∀ p ∈ fx, ρ p.1 = p.2.den ρ φ)
 include h
theorem fixC_is {c : SC} {v : Value} (H : c.is ρ φ β v) : (fixC fx c).is ρ φ β v := by
  unfold fixC
  split
  · rename_i j
    split
    · rename_i e he
      have h1 := h _ (lookA_mem he)
      have h2 : v = ρ j := H
      show v = e.den ρ φ
      rw [h2]
      exact h1
    · exact H
  · exact H
theorem fixCs_is : ∀ {cs : List SC} {vs : List Value}, All2 (SC.is ρ φ β) cs vs → All2 (SC.is ρ φ β) (cs.map (fixC fx)) vs
  | [], [], _ => trivial
  | _ :: _, _ :: _, H => ⟨fixC_is h H.1, fixCs_is H.2⟩
  | [], _ :: _, H => H.elim
  | _ :: _, [], H => H.elim
theorem fixP_is {p : Part} {v : Value} (H : p.is ρ φ β v) : (fixP fx p).is ρ φ β v := by
  obtain ⟨ag, cs⟩ := p
  cases ag with
  | true =>
    obtain ⟨vs, hv, ha⟩ := H
    exact ⟨vs, hv, fixCs_is h ha⟩
  | false =>
    match cs, H with
    | [c], H => exact fixC_is h H
theorem fixPs_is : ∀ {ps : List Part} {vs : List Value}, All2 (Part.is ρ φ β) ps vs → All2 (Part.is ρ φ β) (ps.map (fixP fx)) vs
  | [], [], _ => trivial
  | _ :: _, _ :: _, H => ⟨fixP_is h H.1, fixPs_is H.2⟩
  | [], _ :: _, H => H.elim
  | _ :: _, [], H => H.elim
theorem fixV_is {s : SV} {v : Value} (H : s.is ρ φ β v) : (fixV fx s).is ρ φ β v := by
  cases s with
  | one p => exact fixP_is h H
  | tup ps =>
    obtain ⟨vs, hv, ha⟩ := H
    exact ⟨vs, hv, fixPs_is h ha⟩
theorem fixVs_is : ∀ {ss : List SV} {vs : List Value}, All2 (SV.is ρ φ β) ss vs → All2 (SV.is ρ φ β) (ss.map (fixV fx)) vs
  | [], [], _ => trivial
  | _ :: _, _ :: _, H => ⟨fixV_is h H.1, fixVs_is H.2⟩
  | [], _ :: _, H => H.elim
  | _ :: _, [], H => H.elim
end
def fixLt (n : Nat) (fx : List (Nat × E)) : Bool := fx.all fun p => p.2.isLit && Nat.blt p.1 n
theorem fix_here {n : Nat} {fx : List (Nat × E)} (hl : fixLt n fx = true) {ρ : Nat → Value} {φ : Nat → List Value → List Value} {fl : List Value} (hρ : ∀ i, i < n → ρ i = fl.getD i undef) (h : ∀ p ∈ fx, fl.getD p.1 undef = p.2.den (fun _ => undef) (fun _ _ => [])) :
    ∀ p ∈ fx, ρ p.1 = p.2.den ρ φ := by
  intro p hp
  have := List.all_eq_true.1 hl p hp
  rw [Bool.and_eq_true] at this
  rw [hρ p.1 (by have := this.2; simp only [Nat.blt] at this; exact Nat.lt_of_succ_le (Nat.le_of_ble_eq_true this)), h p hp]
  exact isLit_den this.1 _ _ _ _

/-- A function's tree. -/
def fnT (P : Program) (ct : List Sig) (sy : List (Nat × List So)) (lps : List Lp) (n : Nat) (fn : Func) (c : Code) (g : Sig) : RTree :=
  fnX (cxP P ct sy g.ps) lps n fn c ((argsV 0 (sortsP g.ps).length g.ps).map (fixV g.fix)) (g.pre ++ vwFacts (vwV 0 (sortsP g.ps).length g.ps))
theorem argsV_len : ∀ {ps : List PK} {i e : Nat}, (argsV i e ps).length = ps.length
  | [], _, _ => rfl
  | p :: ps, i, e => by
    cases p <;> simp [argsV, argsV_len]

theorem preFacts {φ : Nat → List Value → List Value} {pre : Facts} {n : Nat} {fl : List Value} {ρ1 : Nat → Value} {fs : Facts} (hpr : (pre.all fun p => p.1.noApp && p.1.lt n) = true) (hpx : pre.hold (fun i => fl.getD i undef) (fun _ _ => []))
    (hρ : ∀ i, i < n → ρ1 i = fl.getD i undef) (h : fs.hold ρ1 φ) : Facts.hold ρ1 φ (pre ++ fs) := by
  intro p hp
  rcases List.mem_append.1 hp with hp | hp
  · have hq := List.all_eq_true.1 hpr p hp
    rw [Bool.and_eq_true] at hq
    rw [(lt_den φ hρ p.1 hq.2).1, (noApp_den _ φ (fun _ _ => []) p.1 hq.1).1]
    exact hpx p hp
  · exact h p hp
/-- Where the first result is yes, this holds. -/
def leafImp (cx : Cx) (fs imp : Facts) : SV → Bool
  | .one ⟨false, [.e e]⟩ => (match dec cx fs e with
    | some b => !b
    | none => false) || imp.all fun q => (match dec cx (addF cx e true fs) q.1 with
      | some b => b == q.2
      | none => false)
  | _ => false
def RTree.impOk (cx : Cx) (imp : Facts) : Facts → RTree → Bool
  | fs, .leaf v _ => leafImp cx fs imp v
  | fs, .ite c t e => decide (cx.so c = .bool) && t.impOk cx imp (addF cx c true fs) && e.impOk cx imp (addF cx c false fs)
  | _, .stuck => true
theorem impOk_hold {ρ : Nat → Value} {φ : Nat → List Value → List Value} {cx : Cx} (F : Fits cx.Γ cx.S ρ φ) (C : CtSound cx φ) {imp : Facts} : ∀ {T : RTree} {fs : Facts}, T.impOk cx imp fs = true → fs.hold ρ φ → (T.vals ρ φ).getD 0 undef = .bool true → imp.hold ρ φ
  | .leaf v _, fs, h, hf, ht => by
    simp only [RTree.impOk] at h
    unfold leafImp at h
    split at h
    · rename_i e
      have ht : e.den ρ φ = .bool true := ht
      rw [Bool.or_eq_true] at h
      rcases h with h | h
      · split at h
        · rename_i b hd
          have := dec_sound F hf hd
          rw [ht] at this
          simp only [Value.bool.injEq] at this
          subst this
          simp at h
        · simp at h
      · intro q hq
        have h1 := List.all_eq_true.1 h q hq
        split at h1
        · rename_i b hd
          have := dec_sound F (addF_hold F C e true hf ht) hd
          rw [this, eq_of_beq h1]
        · simp at h1
    · simp at h
  | .ite c t e, fs, h, hf, ht => by
    simp only [RTree.impOk, Bool.and_eq_true, decide_eq_true_eq] at h
    have hb := so_bool0 F h.1.1
    simp only [RTree.vals] at ht
    split at ht
    · rename_i hv
      exact impOk_hold F C h.1.2 (addF_hold F C c true hf (by rw [hb, hv])) ht
    · rename_i hv
      exact impOk_hold F C h.2 (addF_hold F C c false hf (by rw [hb]; simpa using hv)) ht
  | .stuck, fs, h, hf, ht => by simp [RTree.vals, undef] at ht
/-- **One contract more, by the function's own tree.** -/
theorem Env.auto {P : Program} {ct : List Sig} {sy : List (Nat × List So)} {φ : Nat → List Value → List Value} (H : Env P ct sy φ) (lps : List Lp) (n : Nat) (fn : Func) (c : Code) (g : Sig) (hfn : P.funcs[g.f]? = some fn) (hb : fn.body = some c) (hnm : (fn.name == "runtime.NumGoroutine") = false)
    (hfr : freshS g.sym ct = true) (hv : g.ps.all PK.okK = true) (hpr : (g.pre.all fun p => p.1.noApp && p.1.lt (sortsP g.ps).length) = true) (hfl : fixLt (sortsP g.ps).length g.fix = true) (him : (g.imp.isEmpty || ((g.imp.all fun p => p.1.noApp && p.1.lt (sortsP g.ps).length) && (fnT P ct sy lps n fn c g).impOk (cxP P ct sy g.ps) g.imp [])) = true) (hls : ∀ lp ∈ lps, ∀ l ∈ loops c, firstId l = some lp.key → lp.Sound P φ (g.ps.length + (fn.ntmps - g.ps.length)) l)
    (hT : (fnT P ct sy lps n fn c g).ok (cxP P ct sy g.ps) (sortsP g.ps).length g.rs = true) :
    Env P (g :: ct) ((g.sym, g.rs.flatMap RK.sorts) :: sy) (updF φ g.sym (SX.auto (fnT P ct sy lps n fn c g) (sortsP g.ps) φ)) := by
  refine H.add g _ hfr (fun args => ?_) ⟨callFunc_run hfn hb hnm, fun w xs fl hr hpx hfx => ?_, fun fl hs ht => ?_⟩
  · unfold SX.auto
    have F : Fits (cxP P ct sy g.ps).Γ (cxP P ct sy g.ps).S (fun i => coe ((sortsP g.ps ++ exS g.ps).getD i .any) (args.getD i undef)) φ := ⟨fun i => coe_has _ _, H.fit⟩
    have := RTree.ok_has F hT
    rwa [RTree.ok_lt (ρ' := fun i => coe ((sortsP g.ps).getD i .any) (args.getD i undef)) (fun i hi => by
      rw [List.getD_eq_getElem?_getD (l := sortsP g.ps ++ _), List.getElem?_append_left hi, List.getD_eq_getElem?_getD (l := sortsP g.ps)]) hT] at this
  · rw [updF_self]
    obtain ⟨hlen, hlx⟩ := readsAll_len hr
    obtain ⟨ρ1, hρ1⟩ : ∃ ρ1 : Nat → Value, ρ1 = fun i => (fl ++ exV g.ps xs).getD i undef := ⟨_, rfl⟩
    have hρa : ∀ i, i < (sortsP g.ps).length → ρ1 i = fl.getD i undef := by
      intro i hi
      rw [hρ1]
      simp only
      rw [List.getD_eq_getElem?_getD, List.getElem?_append_left (by omega), List.getD_eq_getElem?_getD]
    obtain ⟨ha, hhas, hhx, hvw⟩ := argsV_is (φ := φ) (β := fun _ => none) (fm := ⟨((argsV 0 (sortsP g.ps).length g.ps).map (fixV g.fix)).length + (fn.ntmps - ((argsV 0 (sortsP g.ps).length g.ps).map (fixV g.fix)).length), none⟩) (a0 := #[]) [] fl ρ1 hv hr (fun j hj => by
      rw [List.length_nil, Nat.zero_add]; exact hρa j (by omega)) (fun j hj => by
      rw [hρ1]
      simp only
      rw [List.getD_eq_getElem?_getD, List.getElem?_append_right (by omega), show fl.length + j - fl.length = j by omega, List.getD_eq_getElem?_getD])
    rw [hlen] at ha hvw
    simp only [List.length_nil] at ha hvw
    have F : Fits (cxP P ct sy g.ps).Γ (cxP P ct sy g.ps).S ρ1 φ := ⟨fun i => by
      have := all2_get (All2.append hhas hhx) i
      rw [hρ1]
      exact this, H.fit⟩
    have hρc : (fun i => coe ((sortsP g.ps).getD i .any) (fl.getD i undef)) = fun i => fl.getD i undef := by
      funext i
      exact coe_id (all2_get hhas i)
    refine calls_sx (cx := cxP P ct sy g.ps) F H.snd (n := n) (ls := lps) (by rw [List.length_map, argsV_len]; exact hls) hfn hb rfl hvw (fixVs_is (fix_here hfl hρa hfx) ha) (preFacts hpr hpx hρa (vwFacts_hold hvw)) ?_
    refine RTree.all_mono ?_ (RTree.ok_all hT)
    rintro v σ ⟨h1, h2⟩ β a w' x hM hx
    refine ⟨x, rfl, ?_, hM.m.low.below⟩
    have := (svOk_gives F h2).2 β x w w' hx
    rw [h1] at this
    unfold SX.auto
    rw [hρc, ← RTree.ok_lt (ρ := ρ1) hρa hT]
    exact this
  · rw [Bool.or_eq_true] at him
    rcases him with him | him
    · rw [List.isEmpty_iff.1 him]
      intro q hq
      simp at hq
    · rw [Bool.and_eq_true] at him
      rw [updF_self] at ht
      unfold SX.auto at ht
      have F : Fits (cxP P ct sy g.ps).Γ (cxP P ct sy g.ps).S (fun i => coe ((sortsP g.ps ++ exS g.ps).getD i .any) (fl.getD i undef)) φ := ⟨fun i => coe_has _ _, H.fit⟩
      have hag : ∀ i, i < (sortsP g.ps).length → (fun i => coe ((sortsP g.ps ++ exS g.ps).getD i .any) (fl.getD i undef)) i = (fun i => coe ((sortsP g.ps).getD i .any) (fl.getD i undef)) i := by
        intro i hi
        simp only
        rw [List.getD_eq_getElem?_getD (l := sortsP g.ps ++ _), List.getElem?_append_left hi, List.getD_eq_getElem?_getD (l := sortsP g.ps)]
      rw [← RTree.ok_lt hag hT] at ht
      have hh := impOk_hold F H.snd him.2 (fun _ hq => by simp at hq) ht
      intro q hq
      have h1 := List.all_eq_true.1 him.1 q hq
      rw [Bool.and_eq_true] at h1
      rw [← hh q hq, (lt_den φ hag q.1 h1.2).1, (noApp_den _ φ (fun _ _ => []) q.1 h1.1).1]
      congr 1
      funext i
      exact (coe_id (all2_get hs i)).symm
/-- **A loop's symbol, and its contract.** -/
theorem Env.loop {P : Program} {ct : List Sig} {sy : List (Nat × List So)} {φ : Nat → List Value → List Value} (H : Env P ct sy φ) (lps : List Lp) (N fuel : Nat) (lp : Lp) (c : Code) (hfr : freshS lp.sym ct = true)
    (hls : ∀ l ∈ lps, ∀ b ∈ loops c, firstId b = some l.key → l.Sound P φ N b) (hok : lpOk N (wrs c) lp = true) (hT : (lpTree P ct sy lps N fuel lp c).lok (sortsP (lp.ins.map (·.2))).length (lpCx P ct sy lp) lp (wrs c) = true) :
    Env P ct ((lp.sym, lp.sorts) :: sy) (updF φ lp.sym (lpF lp (lpCx P ct sy lp) (sortsP (lp.ins.map (·.2))).length (wrs c) (lpTree P ct sy lps N fuel lp c) φ)) ∧
      lp.Sound P (updF φ lp.sym (lpF lp (lpCx P ct sy lp) (sortsP (lp.ins.map (·.2))).length (wrs c) (lpTree P ct sy lps N fuel lp c) φ)) N c :=
  ⟨H.sym lp.sym lp.sorts _ hfr (lpF_has H.fit hok hT), lp_sound H.fit H.snd hls hok hT (updF_self _ _ _)⟩
theorem loops_one {k : Nat} {body c : Code} (h : loopsAt k body = [c]) : ∀ l ∈ loops body, firstId l = some k → l = c := by
  intro l hl hk
  have : l ∈ loopsAt k body := by
    unfold loopsAt
    rw [List.mem_filter]
    refine ⟨hl, ?_⟩
    rw [hk]
    exact Nat.beq_refl _
  rw [h] at this
  simpa using this
end Go.SX
