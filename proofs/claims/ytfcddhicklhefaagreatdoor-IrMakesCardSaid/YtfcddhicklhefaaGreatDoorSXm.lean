/- SX: regions whose order is drawn: whatever order comes up, each operation does the same. -/
import Derived.Test.YtfcddhicklhefaaGreatDoorSXk
namespace Go.SX
open Go Go.RowKit

structure RI where
  dst : Option Tmp
  v : SV
  new : Option (List SC)
  wr : Option (Nat × Nat × List SC)
  bef : Nat
  deriving Inhabited

def plainG : Ground → Bool
  | .textOnly _ | .gcOnly _ => false
  | _ => true
theorem plainG_binds {e : Edge} (h : plainG e.ground = true) : Region.binds .any e = true := by
  unfold Region.binds
  cases hg : e.ground <;> rw [hg] at h <;> simp_all [plainG]

def befs (acc : List RI) : List Edge → Nat
  | [] => 0
  | e :: es => if plainG e.ground then (2 ^ e.on ||| ((acc[e.on]?).map (·.bef)).getD 0) ||| befs acc es else befs acc es
theorem befs_spec {acc : List RI} {k : Nat} : ∀ {es : List Edge}, (befs acc es).testBit k = true → ∃ e ∈ es, plainG e.ground = true ∧ (k = e.on ∨ ∃ r, acc[e.on]? = some r ∧ r.bef.testBit k = true)
  | [], h => by simp [befs] at h
  | e :: es, h => by
    simp only [befs] at h
    split at h
    · rename_i hp
      simp only [Nat.testBit_or, Bool.or_eq_true] at h
      rcases h with (h | h) | h
      · rw [Nat.testBit_two_pow] at h
        exact ⟨e, by simp, hp, Or.inl (of_decide_eq_true h).symm⟩
      · cases hr : acc[e.on]? with
        | none => rw [hr] at h; simp at h
        | some r => rw [hr] at h; exact ⟨e, by simp, hp, Or.inr ⟨r, hr, by simpa using h⟩⟩
      · obtain ⟨e', h1, h2⟩ := befs_spec h
        exact ⟨e', by simp [h1], h2⟩
    · obtain ⟨e', h1, h2⟩ := befs_spec h
      exact ⟨e', by simp [h1], h2⟩

def wrt (p : Nat → Bool) (t : Nat) : List RI → Nat → Option SV
  | [], _ => none
  | r :: is, k => match r.dst with
    | some d => if Nat.beq d t && p k then some r.v else wrt p t is (k + 1)
    | none => wrt p t is (k + 1)
def stE (n : Nat) (p : Nat → Bool) : List RI → Nat → BK → BK
  | [], _, B => B
  | r :: is, k, B => stE n p is (k + 1) (if p k then effB B ⟨r.v, r.new, r.wr⟩ (n + k) else B)
def dsts : List Oper → List Nat
  | [] => []
  | o :: os => match o.dst with
    | some d => d :: dsts os
    | none => dsts os
def Lr (σ : St) (ds : List Nat) (is : List RI) (p : Nat → Bool) : LK := fun t => if hasN t ds then wrt p t is 0 else σ.L t
def Br (σ : St) (is : List RI) (p hid : Nat → Bool) : BK := fun id => if hid id then none else stE σ.next p is 0 σ.B id
def noHid : Nat → Bool := fun _ => false
def needsB : Op → Bool
  | .load .. | .store .. | .call _ => true
  | _ => false

inductive DR where
  | ok (is : List RI) | split (c : E) | stuck
def bitsOf (m : Nat) : Nat → Bool := fun k => m.testBit k
def edgesOk (i : Nat) : List Edge → Bool
  | [] => true
  | e :: es => (!(Region.binds .any e) || Nat.blt e.on i) && edgesOk i es
def wrOld (next : Nat) : Option (Nat × Nat × List SC) → Bool
  | some (i, _, _) => Nat.blt i next
  | none => true
def regGo (cx : Cx) (N : Fm) (hd : Nat → Nat → Bool) (ops : Array Oper) (ds : List Nat) (σ : St) : List Oper → List RI → DR
  | [], acc => .ok acc
  | o :: rest, acc =>
    if dstOk N o.dst && edgesOk acc.length o.after.toList then
      let m := befs acc o.after.toList
      match guardX cx (Lr σ ds acc (bitsOf m)) σ.facts ops o with
      | .yes => match opx cx (Lr σ ds acc (bitsOf m)) (Br σ acc (bitsOf m) (hd acc.length)) σ.facts (σ.next + acc.length) o.op with
        | .ok δ => if wrOld (σ.next + acc.length) δ.wr then regGo cx N hd ops ds σ rest (acc ++ [⟨o.dst, δ.v, δ.new, δ.wr, m⟩]) else .stuck
        | .split c => .split c
        | .stuck => .stuck
      | .no => regGo cx N hd ops ds σ rest (acc ++ [⟨o.dst, undefSV, none, none, m⟩])
      | .split c => .split c
      | .stuck => .stuck
    else .stuck
def nodupN : List Nat → Bool
  | [] => true
  | d :: ds => !(hasN d ds) && nodupN ds
def wrIs (id : Nat) : Option (Nat × Nat × List SC) → Bool
  | some (i, _, _) => Nat.beq i id
  | none => false
def ordd (s i : Nat) (rs ri : RI) : Bool := ri.bef.testBit s || rs.bef.testBit i
def cmp1 (hd : Nat → Nat → Bool) (n : Nat) (s i : Nat) (t : Nat) (rs ri : RI) : Bool :=
  Nat.beq i s || ordd s i rs ri || (hd i t && !(Nat.beq t (n + i)) && !(wrIs t ri.wr))
def cmpA (hd : Nat → Nat → Bool) (n : Nat) (is : List RI) (s : Nat) (rs : RI) (t : Nat) : Bool :=
  (List.range is.length).all fun i => match is[i]? with
    | some ri => cmp1 hd n s i t rs ri
    | none => true
/-- Every store stands before or behind every operation that may see what it writes. -/
def cmpOk (hd : Nat → Nat → Bool) (n : Nat) (is : List RI) : Bool :=
  (List.range is.length).all fun s => match is[s]? with
    | some rs => match rs.wr with
      | none => true
      | some (t, _, _) => cmpA hd n is s rs t
    | none => true
/-- What an operation may not look at. -/
def hid0 (ops : Array Oper) (n : Nat) (i id : Nat) : Bool := Nat.blt id n && (match ops[i]? with
  | some o => !(needsB o.op)
  | none => true)
def hidA (is : List RI) (i id : Nat) (ri : RI) : Bool := (List.range is.length).any fun s => match is[s]? with
  | some rs => wrIs id rs.wr && !(Nat.beq s i) && !(ordd s i rs ri)
  | none => false
def hid1 (ops : Array Oper) (n : Nat) (is : List RI) (i id : Nat) : Bool := hid0 ops n i id || (match is[i]? with
  | some ri => hidA is i id ri
  | none => false)
def finT : List RI → List (Nat × SV) → List (Nat × SV)
  | [], l => l
  | r :: is, l => finT is (putT r.dst r.v l)
def finB : List RI → Nat → List (Nat × List SC) → List (Nat × List SC)
  | [], _, l => l
  | r :: is, nid, l => finB is (nid + 1) (newB r.new nid (wrB r.wr l))
def regF (cx : Cx) (N : Fm) (hd : Nat → Nat → Bool) (ops : Array Oper) (σ : St) : RR :=
  match regGo cx N hd ops (dsts ops.toList) σ ops.toList [] with
  | .ok is => if cmpOk hd σ.next is then .ok { tmps := finT is σ.tmps, boxes := finB is σ.next σ.boxes, next := σ.next + is.length, facts := σ.facts } else .stuck
  | .split c => .split c
  | .stuck => .stuck
def regD (cx : Cx) (N : Fm) (ops : Array Oper) (σ : St) : RR :=
  if cx.P.follows .mixedOrders && nodupN (dsts ops.toList) then
    match regGo cx N (hid0 ops σ.next) ops (dsts ops.toList) σ ops.toList [] with
    | .ok is => if cmpOk (hid0 ops σ.next) σ.next is then regF cx N (hid0 ops σ.next) ops σ else regF cx N (hid1 ops σ.next is) ops σ
    | .split c => .split c
    | .stuck => .stuck
  else .stuck

theorem hasN_mem {t : Nat} : ∀ {l : List Nat}, hasN t l = true ↔ t ∈ l
  | [] => by simp [hasN]
  | d :: l => by
    simp only [hasN, Bool.or_eq_true, List.mem_cons, hasN_mem (l := l)]
    constructor
    · rintro (h | h)
      · exact Or.inl (Nat.eq_of_beq_eq_true h).symm
      · exact Or.inr h
    · rintro (rfl | h)
      · exact Or.inl (Nat.beq_refl _)
      · exact Or.inr h

/-- Each is written by one at most. -/
def Uniq (is : List RI) : Prop := ∀ (i j : Nat) (ri rj : RI) (d : Nat), is[i]? = some ri → is[j]? = some rj → ri.dst = some d → rj.dst = some d → i = j

theorem wrt_some {p : Nat → Bool} {t : Nat} {s : SV} : ∀ {is : List RI} {k : Nat}, wrt p t is k = some s → ∃ j r, is[j]? = some r ∧ r.dst = some t ∧ p (k + j) = true ∧ r.v = s
  | [], k, h => by simp [wrt] at h
  | r :: is, k, h => by
    simp only [wrt] at h
    cases hd : r.dst with
    | none =>
      rw [hd] at h
      obtain ⟨j, r', h1, h2, h3, h4⟩ := wrt_some h
      exact ⟨j + 1, r', by simpa using h1, h2, by rw [← Nat.add_assoc, Nat.add_right_comm]; exact h3, h4⟩
    | some d =>
      rw [hd] at h
      simp only at h
      split at h
      · rename_i hc
        rw [Bool.and_eq_true] at hc
        simp only [Option.some.injEq] at h
        exact ⟨0, r, rfl, by rw [hd, Nat.eq_of_beq_eq_true hc.1], by simpa using hc.2, h⟩
      · obtain ⟨j, r', h1, h2, h3, h4⟩ := wrt_some h
        exact ⟨j + 1, r', by simpa using h1, h2, by rw [← Nat.add_assoc, Nat.add_right_comm]; exact h3, h4⟩
theorem wrt_of {p : Nat → Bool} {t : Nat} : ∀ {is : List RI} {k j : Nat} {r : RI}, Uniq is → is[j]? = some r → r.dst = some t → p (k + j) = true → wrt p t is k = some r.v
  | [], k, j, r, _, h, _, _ => by simp at h
  | r' :: is, k, 0, r, hu, h, hd, hp => by
    simp at h
    subst h
    simp [wrt, hd, show p k = true from by simpa using hp]
  | r' :: is, k, j + 1, r, hu, h, hd, hp => by
    have hne : ∀ d, r'.dst = some d → d ≠ t := fun d hd' e => by
      subst e
      have := hu 0 (j + 1) r' r d rfl h hd' hd
      omega
    have ih := wrt_of (p := p) (t := t) (k := k + 1) (fun a b ra rb d ha hb => by
      have := hu (a + 1) (b + 1) ra rb d (by simpa using ha) (by simpa using hb)
      intro h1 h2
      have := this h1 h2
      omega) (by simpa using h) hd (by rw [Nat.add_assoc, Nat.add_comm 1 j]; exact hp)
    simp only [wrt]
    cases hd' : r'.dst with
    | none => exact ih
    | some d =>
      simp only
      rw [if_neg]
      · exact ih
      · rw [Bool.and_eq_true]
        rintro ⟨h1, _⟩
        exact hne d hd' (Nat.eq_of_beq_eq_true h1)

def touch (n k id : Nat) (r : RI) : Bool := (r.new.isSome && Nat.beq id (n + k)) || wrIs id r.wr
theorem effB_at {B B' : BK} {δ : Dl} {nid id : Nat} (h : B id = B' id) : effB B δ nid id = effB B' δ nid id := by
  have hw : effW B δ.wr id = effW B' δ.wr id := by
    unfold effW
    cases δ.wr with
    | none => exact h
    | some y => obtain ⟨y1, y2, y3⟩ := y; simp only; rw [h]
  unfold effB
  cases δ.new with
  | none => exact hw
  | some y => simp only; rw [hw]
theorem effB_no {B : BK} {n k id : Nat} {r : RI} (h : touch n k id r = false) : effB B ⟨r.v, r.new, r.wr⟩ (n + k) id = B id := by
  unfold touch at h
  rw [Bool.or_eq_false_iff] at h
  have hw : effW B r.wr id = B id := by
    unfold effW
    cases hq : r.wr with
    | none => rfl
    | some y =>
      obtain ⟨y1, y2, y3⟩ := y
      have h2 := h.2
      rw [hq] at h2
      simp only [wrIs] at h2
      simp only
      rw [h2]
      rfl
  unfold effB
  simp only
  cases hq : r.new with
  | none => exact hw
  | some y =>
    have h1 := h.1
    rw [hq] at h1
    simp only [Option.isSome_some, Bool.true_and] at h1
    simp only
    rw [h1]
    exact hw
theorem stE_at {n : Nat} {p : Nat → Bool} {id : Nat} : ∀ {is : List RI} {k : Nat} {B B' : BK}, B id = B' id → stE n p is k B id = stE n p is k B' id
  | [], _, _, _, h => h
  | r :: is, k, B, B', h => by
    simp only [stE]
    apply stE_at
    split
    · exact effB_at h
    · exact h
theorem stE_congr {n : Nat} {p q : Nat → Bool} {id : Nat} : ∀ {is : List RI} {k : Nat} {B : BK}, (∀ j r, is[j]? = some r → touch n (k + j) id r = true → p (k + j) = q (k + j)) → stE n p is k B id = stE n q is k B id
  | [], _, _, _ => rfl
  | r :: is, k, B, h => by
    simp only [stE]
    have h0 : (if p k = true then effB B ⟨r.v, r.new, r.wr⟩ (n + k) else B) id = (if q k = true then effB B ⟨r.v, r.new, r.wr⟩ (n + k) else B) id := by
      cases ht : touch n k id r with
      | true =>
        have := h 0 r rfl (by simpa using ht)
        simp only [Nat.add_zero] at this
        rw [this]
      | false =>
        have := effB_no (B := B) ht
        split <;> split <;> simp only [this]
    rw [stE_at h0]
    exact stE_congr fun j r' hj hw => by
      have := h (j + 1) r' (by simpa using hj) (by rwa [show k + 1 + j = k + (j + 1) by omega] at hw)
      rwa [show k + 1 + j = k + (j + 1) by omega]
theorem stE_none {n : Nat} {p : Nat → Bool} {id : Nat} : ∀ {is : List RI} {k : Nat} {B : BK}, (∀ j r, is[j]? = some r → touch n (k + j) id r = true → p (k + j) = false) → stE n p is k B id = B id
  | [], _, _, _ => rfl
  | r :: is, k, B, h => by
    simp only [stE]
    have h0 : (if p k = true then effB B ⟨r.v, r.new, r.wr⟩ (n + k) else B) id = B id := by
      cases ht : touch n k id r with
      | true =>
        have := h 0 r rfl (by simpa using ht)
        simp only [Nat.add_zero] at this
        rw [this]
        rfl
      | false =>
        have := effB_no (B := B) ht
        split
        · exact this
        · rfl
    rw [stE_at h0]
    exact stE_none fun j r' hj hw => by
      have := h (j + 1) r' (by simpa using hj) (by rwa [show k + 1 + j = k + (j + 1) by omega] at hw)
      rwa [show k + 1 + j = k + (j + 1) by omega]
theorem effW_none {B : BK} {wr : Option (Nat × Nat × List SC)} {id : Nat} (h : B id = none) : effW B wr id = none := by
  unfold effW
  cases wr with
  | none => exact h
  | some y =>
    obtain ⟨y1, y2, y3⟩ := y
    simp only
    rw [h]
    split <;> rfl
/-- A block that was not made yet is not there. -/
theorem stE_unborn {n : Nat} {p : Nat → Bool} {id : Nat} : ∀ {is : List RI} {k : Nat} {B : BK}, B id = none → (∀ j r, is[j]? = some r → id = n + (k + j) → p (k + j) = false) → stE n p is k B id = none
  | [], _, _, h, _ => h
  | r :: is, k, B, h, hc => by
    simp only [stE]
    have h0 : (if p k = true then effB B ⟨r.v, r.new, r.wr⟩ (n + k) else B) id = none := by
      split
      · rename_i hp
        unfold effB
        simp only
        cases hq : r.new with
        | none => exact effW_none h
        | some y =>
          simp only
          split
          · rename_i hb
            have := hc 0 r rfl (Nat.eq_of_beq_eq_true hb)
            rw [Nat.add_zero, hp] at this
            exact absurd this (by simp)
          · exact effW_none h
      · exact h
    exact stE_unborn h0 fun j r' hj he => by
      have := hc (j + 1) r' (by simpa using hj) (by omega)
      rwa [show k + 1 + j = k + (j + 1) by omega]
theorem stE_append {n : Nat} {p : Nat → Bool} : ∀ {is js : List RI} {k : Nat} {B : BK}, stE n p (is ++ js) k B = stE n p js (k + is.length) (stE n p is k B)
  | [], js, k, B => by simp [stE]
  | r :: is, js, k, B => by
    simp only [List.cons_append, stE, List.length_cons]
    rw [stE_append (is := is)]
    congr 1
    omega

/-! ### Whatever order comes up -/
theorem dsts_mem {d : Nat} : ∀ {os : List Oper}, d ∈ dsts os ↔ ∃ (i : Nat) (o : Oper), os[i]? = some o ∧ o.dst = some d
  | [] => by simp [dsts]
  | o :: os => by
    have ih := dsts_mem (d := d) (os := os)
    constructor
    · intro h
      simp only [dsts] at h
      cases hd : o.dst with
      | none =>
        rw [hd] at h
        obtain ⟨i, o', h1, h2⟩ := ih.1 h
        exact ⟨i + 1, o', by simpa using h1, h2⟩
      | some e =>
        rw [hd] at h
        rcases List.mem_cons.1 h with rfl | h
        · exact ⟨0, o, rfl, hd⟩
        · obtain ⟨i, o', h1, h2⟩ := ih.1 h
          exact ⟨i + 1, o', by simpa using h1, h2⟩
    · rintro ⟨i, o', h1, h2⟩
      simp only [dsts]
      cases i with
      | zero =>
        simp at h1
        subst h1
        rw [h2]
        simp
      | succ i =>
        have := ih.2 ⟨i, o', by simpa using h1, h2⟩
        cases hd : o.dst with
        | none => exact this
        | some e => simp [this]
theorem nodup_uniq {d : Nat} : ∀ {os : List Oper} {i j : Nat} {oi oj : Oper}, nodupN (dsts os) = true → os[i]? = some oi → os[j]? = some oj → oi.dst = some d → oj.dst = some d → i = j
  | [], i, j, oi, oj, _, h, _, _, _ => by simp at h
  | o :: os, i, j, oi, oj, hn, hi, hj, hdi, hdj => by
    have hrec : nodupN (dsts os) = true := by
      simp only [dsts] at hn
      cases hd : o.dst with
      | none => rw [hd] at hn; exact hn
      | some e => rw [hd] at hn; simp only [nodupN, Bool.and_eq_true] at hn; exact hn.2
    have hno : ∀ (k : Nat) (ok : Oper), os[k]? = some ok → ok.dst = some d → o.dst = some d → False := by
      intro k ok hk hdk hd
      simp only [dsts, hd, nodupN, Bool.and_eq_true, Bool.not_eq_true'] at hn
      have := hasN_mem.2 (dsts_mem.2 ⟨k, ok, hk, hdk⟩)
      rw [this] at hn
      simp at hn
    cases i with
    | zero =>
      cases j with
      | zero => rfl
      | succ j =>
        simp at hi
        subst hi
        exact (hno j oj (by simpa using hj) hdj hdi).elim
    | succ i =>
      cases j with
      | zero =>
        simp at hj
        subst hj
        exact (hno i oi (by simpa using hi) hdi hdj).elim
      | succ j =>
        have := nodup_uniq hrec (by simpa using hi) (by simpa using hj) hdi hdj
        omega

/-- What the row of what was found says of one operation. -/
structure Item (cx : Cx) (N : Fm) (hd : Nat → Nat → Bool) (ops : Array Oper) (σ : St) (is : List RI) (i : Nat) (o : Oper) (r : RI) : Prop where
  dst : r.dst = o.dst
  lt : dstOk N o.dst = true
  bef : r.bef = befs (is.take i) o.after.toList
  edges : edgesOk i o.after.toList = true
  does : (guardX cx (Lr σ (dsts ops.toList) (is.take i) (bitsOf r.bef)) σ.facts ops o = .yes ∧
      opx cx (Lr σ (dsts ops.toList) (is.take i) (bitsOf r.bef)) (Br σ (is.take i) (bitsOf r.bef) (hd i)) σ.facts (σ.next + i) o.op = .ok ⟨r.v, r.new, r.wr⟩ ∧
      wrOld (σ.next + i) r.wr = true) ∨
    (guardX cx (Lr σ (dsts ops.toList) (is.take i) (bitsOf r.bef)) σ.facts ops o = .no ∧ r.v = undefSV ∧ r.new = none ∧ r.wr = none)

theorem regGo_spec {cx : Cx} {N : Fm} {hd : Nat → Nat → Bool} {ops : Array Oper} {σ : St} : ∀ {rest : List Oper} {acc is : List RI}, regGo cx N hd ops (dsts ops.toList) σ rest acc = .ok is →
    (∃ tl, is = acc ++ tl) ∧ is.length = acc.length + rest.length ∧ ∀ k o, rest[k]? = some o → ∃ r, is[acc.length + k]? = some r ∧ Item cx N hd ops σ is (acc.length + k) o r
  | [], acc, is, h => by
    simp only [regGo, DR.ok.injEq] at h
    subst h
    exact ⟨⟨[], by simp⟩, by simp, by simp⟩
  | o :: rest, acc, is, h => by
    have step : ∀ r : RI, regGo cx N hd ops (dsts ops.toList) σ rest (acc ++ [r]) = .ok is →
        (∀ is', (∃ tl, is' = acc ++ r :: tl) → Item cx N hd ops σ is' acc.length o r) →
        (∃ tl, is = acc ++ tl) ∧ is.length = acc.length + (o :: rest).length ∧ ∀ k o', (o :: rest)[k]? = some o' → ∃ r, is[acc.length + k]? = some r ∧ Item cx N hd ops σ is (acc.length + k) o' r := by
      intro r h hitem
      obtain ⟨⟨tl, h1⟩, h2, h3⟩ := regGo_spec h
      have h1' : is = acc ++ r :: tl := by rw [h1]; simp
      refine ⟨⟨r :: tl, h1'⟩, by rw [h2]; simp; omega, fun k o' hk => ?_⟩
      cases k with
      | zero =>
        simp at hk
        subst hk
        exact ⟨r, by rw [h1']; simp, hitem is ⟨tl, h1'⟩⟩
      | succ k =>
        obtain ⟨r', h4, h5⟩ := h3 k o' (by simpa using hk)
        simp only [List.length_append, List.length_cons, List.length_nil] at h4 h5
        exact ⟨r', by rw [← h4]; congr 1; omega, by rw [show acc.length + (k + 1) = acc.length + (0 + 1) + k by omega]; exact h5⟩
    have htake : ∀ r is', (∃ tl, is' = acc ++ r :: tl) → is'.take acc.length = acc := by
      rintro r is' ⟨tl, rfl⟩
      simp
    simp only [regGo] at h
    split at h
    · rename_i hc
      rw [Bool.and_eq_true] at hc
      split at h
      · rename_i hg
        split at h
        · rename_i δ hδ
          split at h
          · rename_i hw
            refine step _ h fun is' hi => ?_
            have ht := htake _ is' hi
            exact ⟨rfl, hc.1, by rw [ht], hc.2, Or.inl ⟨by rw [ht]; exact hg, by rw [ht]; exact hδ, hw⟩⟩
          · exact absurd h (by simp)
        · exact absurd h (by simp)
        · exact absurd h (by simp)
      · rename_i hg
        refine step _ h fun is' hi => ?_
        have ht := htake _ is' hi
        exact ⟨rfl, hc.1, by rw [ht], hc.2, Or.inr ⟨by rw [ht]; exact hg, rfl, rfl, rfl⟩⟩
      · exact absurd h (by simp)
      · exact absurd h (by simp)
    · exact absurd h (by simp)

theorem wrIs_of {id : Nat} {wr : Option (Nat × Nat × List SC)} (h : wrIs id wr = true) : ∃ off cs, wr = some (id, off, cs) := by
  cases wr with
  | none => simp [wrIs] at h
  | some y =>
    obtain ⟨y1, y2, y3⟩ := y
    simp only [wrIs] at h
    exact ⟨y2, y3, by rw [Nat.eq_of_beq_eq_true h]⟩
theorem cmpOk_spec {hd : Nat → Nat → Bool} {n : Nat} {is : List RI} (h : cmpOk hd n is = true) {s i t : Nat} {rs ri : RI} (hs : is[s]? = some rs) (hw : wrIs t rs.wr = true) (hi : is[i]? = some ri) :
    i = s ∨ ri.bef.testBit s = true ∨ rs.bef.testBit i = true ∨ (hd i t = true ∧ t ≠ n + i ∧ wrIs t ri.wr = false) := by
  obtain ⟨off, cs, hq⟩ := wrIs_of hw
  unfold cmpOk at h
  rw [List.all_eq_true] at h
  have h1 := h s (List.mem_range.2 (List.getElem?_eq_some_iff.1 hs).1)
  rw [hs] at h1
  simp only at h1
  rw [hq] at h1
  simp only [cmpA] at h1
  rw [List.all_eq_true] at h1
  have h2 := h1 i (List.mem_range.2 (List.getElem?_eq_some_iff.1 hi).1)
  rw [hi] at h2
  simp only [cmp1, ordd, Bool.or_eq_true, Bool.and_eq_true, Bool.not_eq_true'] at h2
  rcases h2 with (h2 | h2 | h2) | ⟨⟨h2, h3⟩, h4⟩
  · exact Or.inl (Nat.eq_of_beq_eq_true h2)
  · exact Or.inr (Or.inl h2)
  · exact Or.inr (Or.inr (Or.inl h2))
  · refine Or.inr (Or.inr (Or.inr ⟨h2, ?_, h4⟩))
    intro e
    rw [e, Nat.beq_refl] at h3
    exact absurd h3 (by simp)

theorem edgesOk_spec {i : Nat} : ∀ {es : List Edge}, edgesOk i es = true → ∀ e ∈ es, Region.binds .any e = true → e.on < i
  | [], _, e, he, _ => by simp at he
  | e' :: es, h, e, he, hb => by
    simp only [edgesOk, Bool.and_eq_true] at h
    rcases List.mem_cons.1 he with rfl | he
    · have h1 := h.1
      rw [hb] at h1
      simp only [Bool.not_true, Bool.false_or, Nat.blt] at h1
      exact Nat.lt_of_succ_le (Nat.le_of_ble_eq_true h1)
    · exact edgesOk_spec h.2 e he hb

def lst (listed : Array Bool) : Nat → Bool := fun j => listed.getD j false
theorem lst_rep (n j : Nat) : lst (Array.replicate n false) j = false := by
  unfold lst
  by_cases h : j < n <;> simp [h]
theorem lst_out {listed : Array Bool} {j : Nat} (h : listed.size ≤ j) : lst listed j = false := by
  unfold lst
  simp [h]

/-- What holds of a frame and a world when some have come up. -/
structure RL (ρ : Nat → Value) (φ : Nat → List Value → List Value) (fx : Fx) (ops : Array Oper) (σ : St) (is : List RI) (p : Nat → Bool) (a : Act) (w : World) (β : Nat → Option Nat) : Prop where
  m : M ρ φ fx (Lr σ (dsts ops.toList) is p) (Br σ is p noHid) β a w
  closed : ∀ j r, is[j]? = some r → p j = true → ∀ k, r.bef.testBit k = true → p k = true
  fresh : ∀ j, p j = false → β (σ.next + j) = none

section
variable {ρ : Nat → Value} {φ : Nat → List Value → List Value} {cx : Cx} {fx : Fx} {ops : Array Oper} {σ : St} {is : List RI} {hd : Nat → Nat → Bool}

theorem befs_lt {acc : List RI} {i : Nat} {o : Oper} (he : edgesOk i o.after.toList = true) (hacc : ∀ (j : Nat) (r : RI), acc[j]? = some r → ∀ k, r.bef.testBit k = true → k < j) {k : Nat} (h : (befs acc o.after.toList).testBit k = true) : k < i := by
  obtain ⟨e, h1, h2, h3⟩ := befs_spec h
  have hlt := edgesOk_spec he e h1 (plainG_binds h2)
  rcases h3 with rfl | ⟨r, h4, h5⟩
  · exact hlt
  · have := hacc _ r h4 k h5
    omega

theorem RL.step (V : Views cx ρ fx) (F : Fits cx.Γ cx.S ρ φ) (C : CtSound cx φ) (hf : σ.facts.hold ρ φ) (hall : ∀ k o, ops.toList[k]? = some o → ∃ r, is[k]? = some r ∧ Item cx fx.fm hd ops σ is k o r) (hlen : is.length = ops.toList.length)
    (hu : Uniq is) (hcmp : cmpOk hd σ.next is = true) (hB0 : ∀ id, σ.next ≤ id → σ.B id = none) (hbl : ∀ (j : Nat) (r : RI), is[j]? = some r → ∀ k, r.bef.testBit k = true → k < j) {Q : Exit → Act → World → Prop} {listed : Array Bool} (hsz : listed.size = ops.size)
    {a : Act} {w : World} {β : Nat → Option Nat} (H : RL ρ φ fx ops σ is (lst listed) a w β) {i : Nat} (hi : i ∈ Region.ready .any ops listed) :
    wpOp cx.P ops Q i (fun a' w' => ∃ β', RL ρ φ fx ops σ is (lst (listed.setIfInBounds i true)) a' w' β') a w := by
  obtain ⟨hun, o, ho, hed⟩ := mem_ready.1 hi
  have ho' : ops.toList[i]? = some o := by simpa using ho
  obtain ⟨r, hr, hit⟩ := hall i o ho'
  have hilt : i < listed.size := by rw [hsz]; exact (Array.getElem?_eq_some_iff.1 ho).1
  have hpi : lst listed i = false := by
    unfold lst
    simp only [Array.getD_eq_getD_getElem?, Array.getElem?_eq_getElem hilt, Option.getD_some] at hun ⊢
    exact hun
  -- what comes before it is listed
  have hbefL : ∀ k, r.bef.testBit k = true → lst listed k = true := by
    intro k hk
    rw [hit.bef] at hk
    obtain ⟨e, h1, h2, h3⟩ := befs_spec hk
    have he := hed e (by simpa using h1) (plainG_binds h2)
    rcases h3 with rfl | ⟨r', h4, h5⟩
    · exact he
    · have h4' : is[e.on]? = some r' := by
        rw [List.getElem?_take] at h4
        split at h4
        · exact h4
        · exact absurd h4 (by simp)
      exact H.closed _ r' h4' he k h5
  have hbit : ∀ k, bitsOf r.bef k = true → lst listed k = true := hbefL
  have hL : ∀ t s, Lr σ (dsts ops.toList) (is.take i) (bitsOf r.bef) t = some s → Lr σ (dsts ops.toList) is (lst listed) t = some s := by
    intro t s h
    unfold Lr at *
    split at h
    · rename_i hd
      rw [if_pos hd]
      obtain ⟨j, rj, h1, h2, h3, h4⟩ := wrt_some h
      have h1' : is[j]? = some rj := by
        rw [List.getElem?_take] at h1
        split at h1
        · exact h1
        · exact absurd h1 (by simp)
      rw [← h4]
      exact wrt_of hu h1' h2 (hbit _ h3)
    · rename_i hd
      rw [if_neg hd]
      exact h
  have hil : i < is.length := (List.getElem?_eq_some_iff.1 hr).1
  have hlt2 : (is.take i).length = i := by simp; omega
  have htk : ∀ j rj, (is.take i)[j]? = some rj → is[j]? = some rj ∧ j < i := by
    intro j rj hj
    rw [List.getElem?_take] at hj
    split at hj
    · rename_i hlt; exact ⟨hj, hlt⟩
    · exact absurd hj (by simp)
  have hB : ∀ id row, Br σ (is.take i) (bitsOf r.bef) (hd i) id = some row → Br σ is (lst listed) noHid id = some row := by
    intro id row h
    unfold Br at *
    split at h
    · exact absurd h (by simp)
    · rename_i hh
      have hh : hd i id = false := by simpa using hh
      show stE σ.next (lst listed) is 0 σ.B id = some row
      -- made at j: known to be made
      have hborn : ∀ j, id = σ.next + j → bitsOf r.bef j = true := by
        intro j he
        cases hq : bitsOf r.bef j with
        | true => rfl
        | false =>
          rw [stE_unborn (hB0 id (by omega)) (fun j' r' hj' he' => by
            have : j' = j := by omega
            subst this
            simpa using hq)] at h
          exact absurd h (by simp)
      rw [← h]
      have e1 : is = is.take i ++ is.drop i := (List.take_append_drop i is).symm
      rw [show stE σ.next (lst listed) is 0 σ.B = stE σ.next (lst listed) (is.take i ++ is.drop i) 0 σ.B by rw [← e1]]
      rw [stE_append, hlt2, Nat.zero_add, stE_none (is := is.drop i)]
      · apply stE_congr
        intro j rj hj ht
        obtain ⟨hj', hlt⟩ := htk j rj hj
        rw [Nat.zero_add] at ht ⊢
        unfold touch at ht
        rw [Bool.or_eq_true] at ht
        rcases ht with ht | ht
        · rw [Bool.and_eq_true] at ht
          have hb := hborn j (Nat.eq_of_beq_eq_true ht.2)
          rw [hb, hbit _ hb]
        · rcases cmpOk_spec hcmp hj' ht hr with h1 | h1 | h1 | h1
          · omega
          · rw [show bitsOf r.bef j = true from h1, hbefL _ h1]
          · have := hbl _ _ hj' _ h1
            omega
          · rw [h1.1] at hh
            exact absurd hh (by simp)
      · intro j rj hj ht
        rw [List.getElem?_drop] at hj
        unfold touch at ht
        rw [Bool.or_eq_true] at ht
        rcases ht with ht | ht
        · rw [Bool.and_eq_true] at ht
          have hb := hborn (i + j) (Nat.eq_of_beq_eq_true ht.2)
          have := hbl _ _ hr _ hb
          omega
        · rcases cmpOk_spec hcmp hj ht hr with h1 | h1 | h1 | h1
          · rw [← h1]; exact hpi
          · have := hbl _ _ hr _ h1
            omega
          · cases hq : lst listed (i + j) with
            | false => rfl
            | true =>
              have := H.closed _ rj hj hq i h1
              rw [hpi] at this
              exact absurd this (by simp)
          · rw [h1.1] at hh
            exact absurd hh (by simp)
  have hM := H.m.less hL hB
  have hn := H.fresh i hpi
  have hg := guardX_ok (cx := cx) F hM hf (ops := ops) (o := o)
  -- the listed ones, with this one
  have hp' : ∀ j, lst (listed.setIfInBounds i true) j = true ↔ (j = i ∨ lst listed j = true) := by
    intro j
    unfold lst
    by_cases hj : j = i
    · subst hj
      simp [hilt]
    · simp only [Array.getD_eq_getD_getElem?, Array.getElem?_setIfInBounds_ne (Ne.symm hj), hj, false_or]
  have hclosed : ∀ j rj, is[j]? = some rj → lst (listed.setIfInBounds i true) j = true → ∀ k, rj.bef.testBit k = true → lst (listed.setIfInBounds i true) k = true := by
    intro j rj hj hpj k hk
    rw [hp']
    rcases (hp' j).1 hpj with rfl | hpj
    · rw [hr] at hj
      simp only [Option.some.injEq] at hj
      subst hj
      exact Or.inr (hbefL k hk)
    · exact Or.inr (H.closed j rj hj hpj k hk)
  have hLafter : ∀ t s, Lr σ (dsts ops.toList) is (lst (listed.setIfInBounds i true)) t = some s → putL (Lr σ (dsts ops.toList) is (lst listed)) o.dst r.v t = some s := by
    intro t s h
    unfold Lr at h
    split at h
    · rename_i hd
      obtain ⟨j, rj, h1, h2, h3, h4⟩ := wrt_some h
      rw [Nat.zero_add, hp'] at h3
      rcases h3 with rfl | h3
      · rw [hr] at h1
        simp only [Option.some.injEq] at h1
        subst h1
        rw [← hit.dst, h2]
        simp only [putL, Nat.beq_refl, if_true]
        rw [h4]
      · have hne : o.dst ≠ some t := by
          intro e
          rw [← hit.dst] at e
          have := hu i j r rj t hr h1 e h2
          subst this
          rw [hpi] at h3
          exact absurd h3 (by simp)
        have : putL (Lr σ (dsts ops.toList) is (lst listed)) o.dst r.v t = Lr σ (dsts ops.toList) is (lst listed) t := by
          cases hod : o.dst with
          | none => rfl
          | some d =>
            have hdt : d ≠ t := fun e => hne (by rw [hod, e])
            simp only [putL]
            rw [if_neg]
            intro e
            exact hdt (Nat.eq_of_beq_eq_true e)
        rw [this]
        unfold Lr
        rw [if_pos hd, ← h4]
        exact wrt_of hu h1 h2 (by simpa using h3)
    · rename_i hd
      have hne : o.dst ≠ some t := by
        intro e
        exact hd (hasN_mem.2 (dsts_mem.2 ⟨i, o, ho', e⟩))
      have : putL (Lr σ (dsts ops.toList) is (lst listed)) o.dst r.v t = Lr σ (dsts ops.toList) is (lst listed) t := by
        cases hod : o.dst with
        | none => rfl
        | some d =>
          have hdt : d ≠ t := fun e => hne (by rw [hod, e])
          simp only [putL]
          rw [if_neg]
          intro e
          exact hdt (Nat.eq_of_beq_eq_true e)
      rw [this]
      unfold Lr
      rw [if_neg hd]
      exact h
  have hpne : ∀ j, j ≠ i → lst (listed.setIfInBounds i true) j = lst listed j := by
    intro j hj
    rw [Bool.eq_iff_iff, hp']
    constructor
    · rintro (h | h)
      · exact absurd h hj
      · exact h
    · exact Or.inr
  have hpi' : lst (listed.setIfInBounds i true) i = true := (hp' i).2 (Or.inl rfl)
  have key : wrOld (σ.next + i) r.wr = true → ∀ id, stE σ.next (lst (listed.setIfInBounds i true)) is 0 σ.B id = effB (stE σ.next (lst listed) is 0 σ.B) ⟨r.v, r.new, r.wr⟩ (σ.next + i) id := by
    intro hwo id
    cases htr : touch σ.next i id r with
    | false =>
      rw [effB_no htr]
      apply stE_congr
      intro j rj hj ht
      rw [Nat.zero_add] at ht ⊢
      apply hpne
      intro e
      subst e
      rw [hr] at hj
      simp only [Option.some.injEq] at hj
      subst hj
      rw [htr] at ht
      exact absurd ht (by simp)
    | true =>
      have e1 : is = is.take i ++ r :: is.drop (i + 1) := by
        have : is.drop i = r :: is.drop (i + 1) := by
          rw [List.drop_eq_getElem_cons hil]
          congr 1
          exact (List.getElem?_eq_some_iff.1 hr).2
        rw [← this]
        exact (List.take_append_drop i is).symm
      -- what comes later in the text and touches the same is not listed
      have hlate : ∀ j rj, (is.drop (i + 1))[j]? = some rj → touch σ.next (i + 1 + j) id rj = true → lst listed (i + 1 + j) = false := by
        intro j rj hj ht
        rw [List.getElem?_drop] at hj
        unfold touch at ht htr
        rw [Bool.or_eq_true] at ht htr
        rcases ht with ht | ht
        · rw [Bool.and_eq_true] at ht
          have h1 := Nat.eq_of_beq_eq_true ht.2
          rcases htr with h2 | h2
          · rw [Bool.and_eq_true] at h2
            have := Nat.eq_of_beq_eq_true h2.2
            omega
          · obtain ⟨off, cs, hq⟩ := wrIs_of h2
            rw [hq] at hwo
            simp only [wrOld, Nat.blt] at hwo
            have := Nat.le_of_ble_eq_true hwo
            omega
        · rcases cmpOk_spec hcmp hj ht hr with h1 | h1 | h1 | h1
          · omega
          · have := hbl _ _ hr _ h1
            omega
          · cases hq2 : lst listed (i + 1 + j) with
            | false => rfl
            | true =>
              have := H.closed _ rj hj hq2 i h1
              rw [hpi] at this
              exact absurd this (by simp)
          · rcases htr with h2 | h2
            · rw [Bool.and_eq_true] at h2
              exact absurd (Nat.eq_of_beq_eq_true h2.2) h1.2.1
            · rw [h1.2.2] at h2
              exact absurd h2 (by simp)
      rw [show stE σ.next (lst (listed.setIfInBounds i true)) is 0 σ.B = stE σ.next (lst (listed.setIfInBounds i true)) (is.take i ++ r :: is.drop (i + 1)) 0 σ.B by rw [← e1]]
      rw [show stE σ.next (lst listed) is 0 σ.B = stE σ.next (lst listed) (is.take i ++ r :: is.drop (i + 1)) 0 σ.B by rw [← e1]]
      rw [stE_append, stE_append]
      simp only [stE, hlt2, Nat.zero_add]
      rw [hpi', hpi]
      simp only [if_true, Bool.false_eq_true, if_false]
      rw [stE_none (fun j rj hj ht => by rw [hpne _ (by omega)]; exact hlate j rj hj ht)]
      have e3 : stE σ.next (lst listed) (is.drop (i + 1)) (i + 1) (stE σ.next (lst listed) (is.take i) 0 σ.B) id = stE σ.next (lst listed) (is.take i) 0 σ.B id := stE_none hlate
      rw [effB_at e3]
      apply effB_at
      apply stE_congr
      intro j rj hj _
      rw [Nat.zero_add]
      exact hpne _ (by have := (htk j rj hj).2; omega)
  unfold wpOp
  rw [ho]
  simp only
  rcases hit.does with ⟨hy, hop, hwo⟩ | ⟨hno, hv, hnew, hwr⟩
  · rw [if_pos (hg.1 hy)]
    refine Or.inl ?_
    refine opx_does V F C hM hf hn hop _ _ fun β' x w' hE hx => ⟨β', ?_⟩
    have hm := M.step (dst := o.dst) H.m hn hE (dstOk_lt hit.lt) hx
    refine ⟨hm.less hLafter ?_, hclosed, ?_⟩
    · intro id row h
      have h : stE σ.next (lst (listed.setIfInBounds i true)) is 0 σ.B id = some row := h
      rw [key hwo] at h
      exact h
    · intro j hj
      have hji : j ≠ i := by
        intro e
        have := (hp' j).2 (Or.inl e)
        rw [hj] at this
        exact absurd this (by simp)
      have hpj : lst listed j = false := by
        cases hq : lst listed j with
        | false => rfl
        | true =>
          have := (hp' j).2 (Or.inr hq)
          rw [hj] at this
          exact absurd this (by simp)
      cases hb : β' (σ.next + j) with
      | none => rfl
      | some b =>
        rcases hE.old _ b hb with h1 | ⟨h1, _⟩
        · rw [H.fresh j hpj] at h1; exact absurd h1 (by simp)
        · omega
  · rw [if_neg (by rw [hg.2 hno]; simp)]
    refine ⟨β, ⟨(H.m.skip (dstOk_lt hit.lt)).less (fun t s ht => ?_) (fun id row h => ?_), hclosed, fun j hj => ?_⟩⟩
    · have ht := hLafter t s ht
      rw [hv] at ht
      exact ht
    · have h : stE σ.next (lst (listed.setIfInBounds i true)) is 0 σ.B id = some row := h
      show stE σ.next (lst listed) is 0 σ.B id = some row
      rw [key (by rw [hwr]; rfl)] at h
      rw [effB_no (by simp [touch, hnew, hwr, wrIs])] at h
      exact h
    · refine H.fresh j ?_
      cases hq : lst listed j with
      | false => rfl
      | true =>
        have := (hp' j).2 (Or.inr hq)
        rw [hj] at this
        exact absurd this (by simp)

theorem bef_lt (hall : ∀ k o, ops.toList[k]? = some o → ∃ r, is[k]? = some r ∧ Item cx fx.fm hd ops σ is k o r) (hlen : is.length = ops.toList.length) :
    ∀ (n : Nat) (j : Nat) (r : RI), j < n → is[j]? = some r → ∀ k, r.bef.testBit k = true → k < j := by
  intro n
  induction n with
  | zero => intro j r hj; omega
  | succ n ih =>
    intro j r hj hr k hk
    have hjl : j < ops.toList.length := by rw [← hlen]; exact (List.getElem?_eq_some_iff.1 hr).1
    obtain ⟨r', hr', hit⟩ := hall j _ (List.getElem?_eq_getElem hjl)
    rw [hr] at hr'
    simp only [Option.some.injEq] at hr'
    subst hr'
    rw [hit.bef] at hk
    refine befs_lt hit.edges (fun j' r' hj' k' hk' => ?_) hk
    rw [List.getElem?_take] at hj'
    split at hj'
    · exact ih j' r' (by omega) hj' k' hk'
    · exact absurd hj' (by simp)

/-- Where nothing may come up any more, all have come up. -/
theorem all_listed (hall : ∀ k o, ops.toList[k]? = some o → ∃ r, is[k]? = some r ∧ Item cx fx.fm hd ops σ is k o r) {listed : Array Bool} (hsz : listed.size = ops.size) (hr : Region.ready .any ops listed = []) :
    ∀ (n : Nat) (j : Nat), j < n → j < ops.size → lst listed j = true := by
  intro n
  induction n with
  | zero => intro j hj; omega
  | succ n ih =>
    intro j hj hjs
    have hjl : j < listed.size := by omega
    cases hq : lst listed j with
    | true => rfl
    | false =>
      have hmem : j ∈ Region.ready .any ops listed := by
        rw [mem_ready]
        have ho : ops[j]? = some ops[j] := Array.getElem?_eq_getElem hjs
        obtain ⟨r, _, hit⟩ := hall j ops[j] (by simp [hjs])
        refine ⟨?_, ops[j], ho, fun e he hb => ?_⟩
        · unfold lst at hq
          simp only [Array.getD_eq_getD_getElem?, Array.getElem?_eq_getElem hjl, Option.getD_some] at hq ⊢
          exact hq
        · have hlt := edgesOk_spec hit.edges e (by simpa using he) hb
          exact ih e.on (by omega) (by omega)
      rw [hr] at hmem
      exact absurd hmem (by simp)

theorem countP_lt {p q : Nat → Bool} : ∀ (l : List Nat), (∀ x ∈ l, q x = true → p x = true) → (∃ x ∈ l, p x = true ∧ q x = false) → l.countP q < l.countP p
  | [], _, h => by obtain ⟨x, hx, _⟩ := h; simp at hx
  | y :: l, h1, h2 => by
    have hle : l.countP q ≤ l.countP p := List.countP_mono_left (fun x hx => h1 x (by simp [hx]))
    simp only [List.countP_cons]
    obtain ⟨x, hx, hp, hq⟩ := h2
    rcases List.mem_cons.1 hx with rfl | hx
    · rw [hp, hq]
      simp
      omega
    · have ih := countP_lt l (fun x hx => h1 x (by simp [hx])) ⟨x, hx, hp, hq⟩
      have hy := h1 y (by simp)
      cases hqy : q y with
      | false => cases p y <;> simp <;> omega
      | true => rw [hy hqy]; simp; omega

theorem wpAny_of_RL (V : Views cx ρ fx) (F : Fits cx.Γ cx.S ρ φ) (C : CtSound cx φ) (hf : σ.facts.hold ρ φ) (hall : ∀ k o, ops.toList[k]? = some o → ∃ r, is[k]? = some r ∧ Item cx fx.fm hd ops σ is k o r) (hlen : is.length = ops.toList.length)
    (hu : Uniq is) (hcmp : cmpOk hd σ.next is = true) (hB0 : ∀ id, σ.next ≤ id → σ.B id = none) {Q : Exit → Act → World → Prop}
    (hQ : ∀ a w β p, (∀ j, j < ops.size → p j = true) → (∀ j, ops.size ≤ j → p j = false) → RL ρ φ fx ops σ is p a w β → Q .normal a w) :
    ∀ (fuel : Nat) (listed : Array Bool) (a : Act) (w : World) (β : Nat → Option Nat), listed.size = ops.size → (∀ j, j < ops.size → lst listed j = false → True) → 
      (List.range ops.size).countP (fun j => !lst listed j) ≤ fuel → RL ρ φ fx ops σ is (lst listed) a w β → wpAny cx.P .any ops Q fuel listed a w := by
  have hbl : ∀ (j : Nat) (r : RI), is[j]? = some r → ∀ k, r.bef.testBit k = true → k < j := fun j r => bef_lt hall hlen (j + 1) j r (by omega)
  intro fuel
  induction fuel with
  | zero =>
    intro listed a w β hsz _ hcnt H
    have hall' : ∀ j, j < ops.size → lst listed j = true := by
      intro j hj
      have h0 : (List.range ops.size).countP (fun j => !lst listed j) = 0 := by omega
      rw [List.countP_eq_zero] at h0
      have := h0 j (List.mem_range.2 hj)
      simpa using this
    refine ⟨?_, hQ a w β _ hall' (fun j hj => lst_out (by omega)) H⟩
    apply List.eq_nil_iff_forall_not_mem.2
    intro j hj
    obtain ⟨h1, o, ho, _⟩ := mem_ready.1 hj
    have hj' := (Array.getElem?_eq_some_iff.1 ho).1
    have := hall' j hj'
    unfold lst at this
    have hjl : j < listed.size := by omega
    simp only [Array.getD_eq_getD_getElem?, Array.getElem?_eq_getElem hjl, Option.getD_some] at h1 this
    rw [h1] at this
    exact absurd this (by simp)
  | succ fuel ih =>
    intro listed a w β hsz _ hcnt H
    refine ⟨fun hr => hQ a w β _ (fun j hj => all_listed hall hsz hr (j + 1) j (by omega) hj) (fun j hj => lst_out (by omega)) H, fun i hi => ?_⟩
    have hstep := RL.step V F C hf hall hlen hu hcmp hB0 hbl hsz H hi (Q := Q)
    refine wpOp_mono (fun a' w' ⟨β', hR⟩ => ?_) hstep
    refine ih (listed.setIfInBounds i true) a' w' β' (by simp [hsz]) (fun _ _ _ => trivial) ?_ hR
    obtain ⟨hun, o, ho, _⟩ := mem_ready.1 hi
    have hil := (Array.getElem?_eq_some_iff.1 ho).1
    have hpi : lst listed i = false := by
      unfold lst
      have hjl : i < listed.size := by omega
      simp only [Array.getD_eq_getD_getElem?, Array.getElem?_eq_getElem hjl, Option.getD_some] at hun ⊢
      exact hun
    have hlt : (List.range ops.size).countP (fun j => !lst (listed.setIfInBounds i true) j) < (List.range ops.size).countP (fun j => !lst listed j) := by
      refine countP_lt _ (fun x hx => ?_) ⟨i, List.mem_range.2 hil, by simp [hpi], ?_⟩
      · intro h
        by_cases hxi : x = i
        · subst hxi; simp [hpi]
        · simp only [Bool.not_eq_true'] at h ⊢
          unfold lst at *
          simp only [Array.getD_eq_getD_getElem?, Array.getElem?_setIfInBounds_ne (Ne.symm hxi)] at h ⊢
          exact h
      · unfold lst
        simp [show i < listed.size by omega]
    omega

theorem finT_look (t : Nat) (s : SV) : ∀ {is : List RI} {l : List (Nat × SV)}, lookA t (finT is l) = some s →
    (∃ (j : Nat) (r : RI), is[j]? = some r ∧ r.dst = some t ∧ r.v = s) ∨ ((∀ (j : Nat) (r : RI), is[j]? = some r → r.dst ≠ some t) ∧ lookA t l = some s)
  | [], l, h => Or.inr ⟨by simp, h⟩
  | r :: is, l, h => by
    simp only [finT] at h
    rcases finT_look t s h with ⟨j, r', h1, h2⟩ | ⟨h1, h2⟩
    · exact Or.inl ⟨j + 1, r', by simpa using h1, h2⟩
    · rw [look_putT] at h2
      cases hd : r.dst with
      | none =>
        rw [hd] at h2
        refine Or.inr ⟨fun j r' hj => ?_, h2⟩
        cases j with
        | zero => simp at hj; subst hj; rw [hd]; simp
        | succ j => exact h1 j r' (by simpa using hj)
      | some d =>
        rw [hd] at h2
        simp only [putL] at h2
        split at h2
        · rename_i hb
          simp only [Option.some.injEq] at h2
          exact Or.inl ⟨0, r, rfl, by rw [hd, Nat.eq_of_beq_eq_true hb], h2⟩
        · rename_i hb
          refine Or.inr ⟨fun j r' hj => ?_, h2⟩
          cases j with
          | zero =>
            simp at hj
            subst hj
            rw [hd]
            intro e
            simp only [Option.some.injEq] at e
            subst e
            simp at hb
          | succ j => exact h1 j r' (by simpa using hj)

def effAll : List RI → Nat → BK → BK
  | [], _, B => B
  | r :: is, nid, B => effAll is (nid + 1) (effB B ⟨r.v, r.new, r.wr⟩ nid)
theorem effB_mono {B B' : BK} (h : ∀ id row, B id = some row → B' id = some row) (δ : Dl) (nid : Nat) : ∀ id row, effB B δ nid id = some row → effB B' δ nid id = some row := by
  have hw : ∀ id row, effW B δ.wr id = some row → effW B' δ.wr id = some row := by
    intro id row hh
    unfold effW at *
    cases hq : δ.wr with
    | none => rw [hq] at hh; exact h id row hh
    | some y =>
      obtain ⟨y1, y2, y3⟩ := y
      rw [hq] at hh
      simp only at hh ⊢
      split at hh
      · rename_i hb
        rw [if_pos hb]
        simp only [Option.map_eq_some_iff] at hh ⊢
        obtain ⟨r, hr, h2⟩ := hh
        exact ⟨r, h _ _ hr, h2⟩
      · rename_i hb
        rw [if_neg hb]
        exact h id row hh
  intro id row hh
  unfold effB at *
  cases hq : δ.new with
  | none => rw [hq] at hh; exact hw id row hh
  | some y =>
    rw [hq] at hh
    simp only at hh ⊢
    split at hh
    · rename_i hb; rw [if_pos hb]; exact hh
    · rename_i hb; rw [if_neg hb]; exact hw id row hh
theorem effAll_mono : ∀ {is : List RI} {nid : Nat} {B B' : BK}, (∀ id row, B id = some row → B' id = some row) → ∀ id row, effAll is nid B id = some row → effAll is nid B' id = some row
  | [], _, _, _, h => h
  | _ :: is, _, _, _, h => effAll_mono (is := is) (fun id row hh => effB_mono h _ _ id row hh)
theorem finB_look {id : Nat} {row : List SC} : ∀ {is : List RI} {nid : Nat} {l : List (Nat × List SC)}, lookA id (finB is nid l) = some row → effAll is nid (fun i => lookA i l) id = some row
  | [], _, _, h => h
  | r :: is, nid, l, h => by
    simp only [finB] at h
    have := finB_look h
    simp only [effAll]
    exact effAll_mono (fun id row h => look_boxes (δ := ⟨r.v, r.new, r.wr⟩) h) id row this

theorem effAll_is {n : Nat} {p : Nat → Bool} : ∀ {is : List RI} {k : Nat} {B : BK}, (∀ j, j < is.length → p (k + j) = true) → effAll is (n + k) B = stE n p is k B
  | [], _, _, _ => rfl
  | r :: is, k, B, hp => by
    simp only [effAll, stE]
    have h0 := hp 0 (by simp)
    simp only [Nat.add_zero] at h0
    rw [if_pos h0]
    exact effAll_is (k := k + 1) (fun j hj => by
      have := hp (j + 1) (by simp; omega)
      rwa [show k + 1 + j = k + (j + 1) by omega])

theorem regF_sound (V : Views cx ρ fx) (F : Fits cx.Γ cx.S ρ φ) (C : CtSound cx φ) {σ' : St} {Q : Exit → Act → World → Prop} {β : Nat → Option Nat} {a : Act} {w : World} {rid : Nat} (hc : cx.P.follows .mixedOrders = true ∧ nodupN (dsts ops.toList) = true) (h : regF cx fx.fm hd ops σ = .ok σ')
    (H : MS ρ φ fx σ β a w) (hf : σ.facts.hold ρ φ) (hQ : ∀ β' a' w', MS ρ φ fx σ' β' a' w' → σ'.facts.hold ρ φ → Q .normal a' w') : (Code.region rid ops true).wp cx.P Q a w := by
  unfold regF at h
  · split at h
    · rename_i is' his
      split at h
      · rename_i hcmp
        simp only [RR.ok.injEq] at h
        subst h
        obtain ⟨_, hlen, hall⟩ := regGo_spec his
        simp only [List.length_nil, Nat.zero_add] at hlen hall
        have hu : Uniq is' := by
          intro i j ri rj d hi hj hdi hdj
          have hil : i < ops.toList.length := by rw [← hlen]; exact (List.getElem?_eq_some_iff.1 hi).1
          have hjl : j < ops.toList.length := by rw [← hlen]; exact (List.getElem?_eq_some_iff.1 hj).1
          obtain ⟨r1, h1, i1⟩ := hall i _ (List.getElem?_eq_getElem hil)
          obtain ⟨r2, h2, i2⟩ := hall j _ (List.getElem?_eq_getElem hjl)
          rw [hi] at h1
          rw [hj] at h2
          simp only [Option.some.injEq] at h1 h2
          subst h1 h2
          exact nodup_uniq hc.2 (List.getElem?_eq_getElem hil) (List.getElem?_eq_getElem hjl) (by rw [← i1.dst]; exact hdi) (by rw [← i2.dst]; exact hdj)
        have hB0 : ∀ id, σ.next ≤ id → σ.B id = none := by
          intro id hid
          cases hq : σ.B id with
          | none => rfl
          | some row =>
            obtain ⟨b, _, _, hb, _⟩ := H.m.box id row hq
            rw [H.nxt id hid] at hb
            exact absurd hb (by simp)
        refine wp_region_any hc.1 ?_
        refine wpAny_of_RL V F C hf hall hlen hu hcmp hB0 (fun a1 w1 β1 p hp hpo HR => ?_) ops.size _ a _ β (by simp) (fun _ _ _ => trivial) ?_ ?_
        · refine hQ β1 a1 w1 ⟨HR.m.less ?_ ?_, ?_⟩ hf
          · intro t s ht
            have ht : lookA t (finT is' σ.tmps) = some s := ht
            unfold Lr
            rcases finT_look t s ht with ⟨j, r, h1, h2, h3⟩ | ⟨h1, h2⟩
            · have hjl : j < ops.toList.length := by rw [← hlen]; exact (List.getElem?_eq_some_iff.1 h1).1
              obtain ⟨r', h4, i4⟩ := hall j _ (List.getElem?_eq_getElem hjl)
              rw [h1] at h4
              simp only [Option.some.injEq] at h4
              subst h4
              have hd : hasN t (dsts ops.toList) = true := hasN_mem.2 (dsts_mem.2 ⟨j, _, List.getElem?_eq_getElem hjl, by rw [← i4.dst]; exact h2⟩)
              rw [if_pos hd, ← h3]
              refine wrt_of hu h1 h2 ?_
              rw [Nat.zero_add]
              exact hp j (by simpa using hjl)
            · rw [if_neg]
              · exact h2
              · intro hd
                obtain ⟨i, o, ho, hod⟩ := dsts_mem.1 (hasN_mem.1 hd)
                obtain ⟨r, hr, hi⟩ := hall i o ho
                exact h1 i r hr (by rw [hi.dst]; exact hod)
          · intro id row hid
            have hid : lookA id (finB is' σ.next σ.boxes) = some row := hid
            have he := finB_look hid
            show stE σ.next p is' 0 σ.B id = some row
            rw [← effAll_is (n := σ.next) (k := 0) (fun j hj => by
              rw [Nat.zero_add]
              exact hp j (by rw [hlen] at hj; simpa using hj))]
            exact he
          · intro id hid
            have hid : σ.next + is'.length ≤ id := hid
            have hl : ops.size = is'.length := by rw [hlen]; simp
            have := HR.fresh (id - σ.next) (hpo _ (by omega))
            rwa [show σ.next + (id - σ.next) = id by omega] at this
        · rw [List.countP_eq_length_filter]
          refine Nat.le_trans (List.length_filter_le _ _) ?_
          simp
        · refine ⟨(H.m.drew).less ?_ ?_, ?_, ?_⟩
          · intro t s ht
            unfold Lr at ht
            split at ht
            · obtain ⟨j, r, h1, h2, h3, h4⟩ := wrt_some ht
              rw [lst_rep] at h3
              exact absurd h3 (by simp)
            · exact ht
          · intro id row hh
            have hh : stE σ.next (lst (Array.replicate ops.size false)) is' 0 σ.B id = some row := hh
            rw [stE_none (fun j _ _ _ => lst_rep _ _)] at hh
            exact hh
          · intro j r _ hl
            rw [lst_rep] at hl
            exact absurd hl (by simp)
          · intro j _
            exact H.nxt _ (by omega)
      · exact absurd h (by simp)
    · exact absurd h (by simp)
    · exact absurd h (by simp)
theorem regD_sound (V : Views cx ρ fx) (F : Fits cx.Γ cx.S ρ φ) (C : CtSound cx φ) {σ' : St} {Q : Exit → Act → World → Prop} {β : Nat → Option Nat} {a : Act} {w : World} {rid : Nat} (h : regD cx fx.fm ops σ = .ok σ')
    (H : MS ρ φ fx σ β a w) (hf : σ.facts.hold ρ φ) (hQ : ∀ β' a' w', MS ρ φ fx σ' β' a' w' → σ'.facts.hold ρ φ → Q .normal a' w') : (Code.region rid ops true).wp cx.P Q a w := by
  unfold regD at h
  split at h
  · rename_i hc
    rw [Bool.and_eq_true] at hc
    split at h
    · split at h
      · exact regF_sound V F C hc h H hf hQ
      · exact regF_sound V F C hc h H hf hQ
    · exact absurd h (by simp)
    · exact absurd h (by simp)
  · exact absurd h (by simp)
end
end Go.SX
