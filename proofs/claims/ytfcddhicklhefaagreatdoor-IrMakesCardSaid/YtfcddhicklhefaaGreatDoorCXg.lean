/- CX: regions whose order is drawn, with calls that turn blocks: who sees what, cell by cell. -/
import Derived.Test.YtfcddhicklhefaaGreatDoorCXf
import Derived.Test.YtfcddhicklhefaaGreatDoorSXm
namespace Go.CX
open Go Go.RowKit Go.SX

structure RI where
  dst : Option Tmp
  v : SV
  vis : BK
  dl : Bs
  n0 : Nat
  n1 : Nat
  bef : Nat
  deriving Inhabited

def befs (acc : List RI) : List Edge → Nat
  | [] => 0
  | e :: es => if plainG e.ground then (2 ^ e.on ||| ((acc[e.on]?).map (·.bef)).getD 0) ||| befs acc es else befs acc es
def wrt (p : Nat → Bool) (t : Nat) : List RI → Nat → Option SV
  | [], _ => none
  | r :: is, k => match r.dst with
    | some d => if Nat.beq d t && p k then some r.v else wrt p t is (k + 1)
    | none => wrt p t is (k + 1)
/-- What a temporary holds: what one of those wrote, else what it held before, if that is sure to stand. -/
def Lr (L : LK) (ds : List Nat) (orig : Nat → Bool) (is : List RI) (p : Nat → Bool) : LK := fun t => if hasN t ds then (match wrt p t is 0 with
  | some v => some v
  | none => if orig t then L t else none) else L t
def befN (acc : List Nat) : List Edge → Nat
  | [] => 0
  | e :: es => if plainG e.ground then (2 ^ e.on ||| (acc[e.on]?).getD 0) ||| befN acc es else befN acc es
def befAll : List Oper → List Nat → List Nat
  | [], acc => acc
  | o :: os, acc => befAll os (acc ++ [befN acc o.after.toList])
def writer (t : Nat) : List Oper → Nat → Option Nat
  | [], _ => none
  | o :: os, k => match o.dst with
    | some d => if Nat.beq d t then some k else writer t os (k + 1)
    | none => writer t os (k + 1)
def origI (ops : List Oper) (bs : List Nat) (i t : Nat) : Bool := match writer t ops 0 with
  | some j => (bs.getD j 0).testBit i
  | none => false
def sameBefs : List RI → List Nat → Bool
  | [], [] => true
  | r :: is, b :: bs => Nat.beq r.bef b && sameBefs is bs
  | _, _ => false

def keepC : SC → SC → Bool
  | .any, _ => true
  | .e x, .e y => x.eqv y
  | .ptr i a, .ptr j b => Nat.beq i j && Nat.beq a b
  | .slc i a l c, .slc j b m d => Nat.beq i j && Nat.beq a b && Nat.beq l m && Nat.beq c d
  | .sla i a l c, .sla j b m d => Nat.beq i j && Nat.beq a b && Nat.beq l m && Nat.beq c d
  | _, _ => false
def mrg : List SC → List SC → List SC → List SC
  | o :: ro, v :: rv, c :: row => (if keepC o v then c else o) :: mrg ro rv row
  | _, _, row => row
def updI (r : RI) (B : BK) : BK := fun id => match lookA id r.dl with
  | none => B id
  | some none => none
  | some (some ro) => match r.vis id with
    | none => some ro
    | some rv => (B id).map (mrg ro rv)
def updL (base : BK) (r : RI) (l : Bs) : Bs := (r.dl.map fun e => (e.1, updI r (dlB l base) e.1)) ++ l
def chg : List SC → List SC → Nat → Nat
  | o :: ro, v :: rv, k => (if keepC o v then 0 else 2 ^ k) ||| chg ro rv (k + 1)
  | _, _, _ => 0
def touchE (r : RI) (id : Nat) : Option Nat := match lookA id r.dl with
  | some (some ro) => match r.vis id with
    | some rv => some (chg ro rv 0)
    | none => none
  | _ => none
def touch (r : RI) : List (Nat × Option Nat) := r.dl.map fun e => (e.1, touchE r e.1)
def maskRow (m : Nat) : List SC → Nat → List SC
  | [], _ => []
  | c :: row, k => (if m.testBit k then .any else c) :: maskRow m row (k + 1)
def maskB (B : BK) : List (Nat × Option Nat) → BK
  | [] => B
  | (i, m) :: rest => fun id => if Nat.beq i id then (match m with
      | none => none
      | some m => (maskB B rest id).map fun row => maskRow m row 0) else maskB B rest id
def anyAt : List SC → Nat → Nat → Bool
  | [], _, _ => true
  | c :: rv, o, k => (!(o.testBit k) || (match c with | .any => true | _ => false)) && anyAt rv o (k + 1)
/-- What is touched is hidden from an operation. -/
def cov (r : RI) (t : Nat × Option Nat) : Bool := match r.vis t.1 with
  | none => true
  | some rv => match t.2 with
    | none => false
    | some o => anyAt rv o 0
def disj1 (s t : Nat × Option Nat) : Bool := !(Nat.beq s.1 t.1) || (match s.2, t.2 with
  | some a, some b => Nat.beq (a &&& b) 0
  | _, _ => false)
def unorderedOk (rj ri : RI) : Bool := (touch rj).all fun t => cov ri t && (touch ri).all fun s => disj1 t s
def okAll (is : List RI) : Bool := (List.range is.length).all fun j => match is[j]? with
  | some rj => match rj.dl with
    | [] => true
    | _ => (List.range is.length).all fun i => match is[i]? with
      | some ri => Nat.beq i j || ri.bef.testBit j || rj.bef.testBit i || unorderedOk rj ri
      | none => true
  | none => true
def needsB : Op → Bool
  | .convert .. | .load .. | .store .. | .call _ => true
  | _ => false
/-- What others made that do not come before. -/
def madeBy (m : Nat) : List RI → Nat → List (Nat × Option Nat)
  | [], _ => []
  | r :: is, k => if m.testBit k then madeBy m is (k + 1) else (r.dl.filterMap fun e => match r.vis e.1 with | none => some (e.1, none) | some _ => none) ++ madeBy m is (k + 1)
def visI (mk : List (Nat × Option Nat)) (o : Op) (B : BK) : BK := if needsB o then maskB B mk else fun _ => none
def lensOk (V : BK) (dl : Bs) : Bool := dl.all fun e => match lookA e.1 dl, V e.1 with
  | some (some ro), some rv => Nat.beq ro.length rv.length
  | _, _ => true
theorem lensOk_spec {V : BK} {dl : Bs} (h : lensOk V dl = true) {id : Nat} {ro rv : List SC} (hl : lookA id dl = some (some ro)) (hv : V id = some rv) : ro.length = rv.length := by
  have hm : ∀ {l : Bs} {x : Option (List SC)}, lookA id l = some x → ∃ y, (id, y) ∈ l := by
    intro l
    induction l with
    | nil => intro x h; simp [lookA] at h
    | cons e l ih =>
      intro x h
      obtain ⟨i, z⟩ := e
      simp only [lookA] at h
      split at h
      · rename_i hb
        have := Nat.eq_of_beq_eq_true hb
        subst this
        exact ⟨z, by simp⟩
      · obtain ⟨y, hy⟩ := ih h
        exact ⟨y, by simp [hy]⟩
  obtain ⟨y, hy⟩ := hm hl
  have := List.all_eq_true.1 h _ hy
  simp only [hl, hv] at this
  exact Nat.eq_of_beq_eq_true this
inductive DR where
  | ok (is : List RI) (l : Bs) (n : Nat) | split (c : E) | stuck
def regGo (cx : Cx) (call : CallT) (fs : Facts) (N : Nat) (base : BK) (mkf : Nat → List (Nat × Option Nat)) (ops : Array Oper) (ds bs : List Nat) (L0 : LK) : List Oper → List RI → Bs → Nat → DR
  | [], acc, l, n => .ok acc l n
  | o :: rest, acc, l, n =>
    if dstOk N o.dst && edgesOk acc.length o.after.toList then
      match guardG cx (Lr L0 ds (origI ops.toList bs acc.length) acc (bitsOf (befs acc o.after.toList))) fs ops o with
      | .yes => match opG cx call (Lr L0 ds (origI ops.toList bs acc.length) acc (bitsOf (befs acc o.after.toList))) (visI (mkf acc.length ++ madeBy (befs acc o.after.toList) acc 0) o.op (dlB l base)) fs n o.op with
        | .ok d => if Nat.ble n d.next && lensOk (visI (mkf acc.length ++ madeBy (befs acc o.after.toList) acc 0) o.op (dlB l base)) d.dl then
            regGo cx call fs N base mkf ops ds bs L0 rest (acc ++ [⟨o.dst, d.v, visI (mkf acc.length ++ madeBy (befs acc o.after.toList) acc 0) o.op (dlB l base), d.dl, n, d.next, befs acc o.after.toList⟩])
              (updL base ⟨o.dst, d.v, visI (mkf acc.length ++ madeBy (befs acc o.after.toList) acc 0) o.op (dlB l base), d.dl, n, d.next, befs acc o.after.toList⟩ l) d.next
          else .stuck
        | .split c => .split c
        | .stuck => .stuck
      | .no => regGo cx call fs N base mkf ops ds bs L0 rest (acc ++ [⟨o.dst, undefSV, fun _ => none, [], n, n, befs acc o.after.toList⟩]) l n
      | .split c => .split c
      | .stuck => .stuck
    else .stuck
def unord (is : List RI) (i : Nat) : List (Nat × Option Nat) := (List.range is.length).flatMap fun j => match is[j]?, is[i]? with
  | some rj, some ri => match rj.dl with
    | [] => []
    | _ => if Nat.beq i j || ri.bef.testBit j || rj.bef.testBit i then [] else touch rj
  | _, _ => []
def finT : List RI → List (Nat × SV) → List (Nat × SV)
  | [], l => l
  | r :: is, l => finT is (putT r.dst r.v l)
def regF (cx : Cx) (call : CallT) (fs : Facts) (N : Nat) (base : BK) (ops : Array Oper) (σ : St) (mkf : Nat → List (Nat × Option Nat)) : RR :=
  match regGo cx call fs N base mkf ops (dsts ops.toList) (befAll ops.toList []) σ.L ops.toList [] σ.dl σ.next with
  | .ok is l n => if sameBefs is (befAll ops.toList []) && okAll is then .ok ⟨finT is σ.tmps, l, n⟩ else .stuck
  | .split c => .split c
  | .stuck => .stuck
def regD (cx : Cx) (call : CallT) (fs : Facts) (N : Nat) (base : BK) (ops : Array Oper) (σ : St) : RR :=
  if cx.P.follows .mixedOrders && nodupN (dsts ops.toList) then
    match regGo cx call fs N base (fun _ => []) ops (dsts ops.toList) (befAll ops.toList []) σ.L ops.toList [] σ.dl σ.next with
    | .ok is l n => if sameBefs is (befAll ops.toList []) && okAll is then .ok ⟨finT is σ.tmps, l, n⟩ else regF cx call fs N base ops σ (unord is)
    | .split c => .split c
    | .stuck => .stuck
  else .stuck

theorem befs_spec {acc : List RI} {k : Nat} : ∀ {es : List Edge}, (befs acc es).testBit k = true → ∃ e ∈ es, plainG e.ground = true ∧ (k = e.on ∨ ∃ r, acc[e.on]? = some r ∧ r.bef.testBit k = true)
  | [], h => by simp [befs] at h
  | e :: es, h => by
    simp only [befs] at h
    split at h
    · rename_i hp
      simp only [Nat.testBit_or, Bool.or_eq_true] at h
      rcases h with (h | h) | h
      · rw [Nat.testBit_two_pow] at h
        exact ⟨e, by simp, hp, Or.inl (of_decide_eq_true h).symm⟩
      · cases hr : acc[e.on]? with
        | none => rw [hr] at h; simp at h
        | some r => rw [hr] at h; exact ⟨e, by simp, hp, Or.inr ⟨r, hr, by simpa using h⟩⟩
      · obtain ⟨e', h1, h2⟩ := befs_spec h
        exact ⟨e', by simp [h1], h2⟩
    · obtain ⟨e', h1, h2⟩ := befs_spec h
      exact ⟨e', by simp [h1], h2⟩

theorem keepC_eq {o v : SC} (h : keepC o v = true) : o = .any ∨ o = v := by
  unfold keepC at h
  split at h
  · exact Or.inl rfl
  · exact Or.inr (by rw [E.eqv_eq h])
  · rw [Bool.and_eq_true] at h
    exact Or.inr (by rw [Nat.eq_of_beq_eq_true h.1, Nat.eq_of_beq_eq_true h.2])
  · simp only [Bool.and_eq_true] at h
    exact Or.inr (by rw [Nat.eq_of_beq_eq_true h.1.1.1, Nat.eq_of_beq_eq_true h.1.1.2, Nat.eq_of_beq_eq_true h.1.2, Nat.eq_of_beq_eq_true h.2])
  · simp only [Bool.and_eq_true] at h
    exact Or.inr (by rw [Nat.eq_of_beq_eq_true h.1.1.1, Nat.eq_of_beq_eq_true h.1.1.2, Nat.eq_of_beq_eq_true h.1.2, Nat.eq_of_beq_eq_true h.2])
  · exact absurd h (by simp)

/-! ### Blocks, cell by cell -/
def atB (B : BK) (id k : Nat) : Option SC := (B id).bind (·[k]?)
def lenB (B : BK) (id : Nat) : Option Nat := (B id).map List.length
def mrgC (ro rv : List SC) (k : Nat) (c : SC) : SC := match ro[k]?, rv[k]? with
  | some o, some v => if keepC o v then c else o
  | _, _ => c
theorem mrg_len : ∀ ro rv row : List SC, (mrg ro rv row).length = row.length
  | [], _, _ => by simp [mrg]
  | _ :: _, [], _ => by simp [mrg]
  | _ :: _, _ :: _, [] => by simp [mrg]
  | _ :: ro, _ :: rv, _ :: row => by simp [mrg, mrg_len ro rv row]
theorem mrg_get : ∀ (ro rv row : List SC) (k : Nat), (mrg ro rv row)[k]? = (row[k]?).map (mrgC ro rv k)
  | [], _, row, k => by cases h : row[k]? <;> simp [mrg, mrgC, h]
  | _ :: _, [], row, k => by
    cases h : row[k]? with
    | none => simp [mrg, h]
    | some c => simp only [mrg, h, Option.map_some, mrgC]; simp
  | _ :: _, _ :: _, [], k => by simp [mrg]
  | o :: ro, v :: rv, c :: row, 0 => by simp [mrg, mrgC]
  | o :: ro, v :: rv, c :: row, k + 1 => by
    have := mrg_get ro rv row k
    simp only [mrg, List.getElem?_cons_succ, this]
    cases row[k]? <;> simp [mrgC]
theorem at_det {r : RI} {B1 B2 : BK} {id k : Nat} (h : atB B1 id k = atB B2 id k) : atB (updI r B1) id k = atB (updI r B2) id k := by
  unfold atB updI at *
  split
  · exact h
  · rfl
  · split
    · rfl
    · rename_i ro _ _ rv _
      have e : ∀ B : BK, ((B id).map (mrg ro rv)).bind (·[k]?) = ((B id).bind (·[k]?)).map (mrgC ro rv k) := by
        intro B
        cases B id with
        | none => rfl
        | some row => simp [mrg_get]
      rw [e, e, h]
theorem len_det {r : RI} {B1 B2 : BK} {id : Nat} (h : lenB B1 id = lenB B2 id) : lenB (updI r B1) id = lenB (updI r B2) id := by
  unfold lenB updI at *
  split
  · exact h
  · rfl
  · split
    · rfl
    · rename_i ro _ _ rv _
      have e : ∀ B : BK, ((B id).map (mrg ro rv)).map List.length = (B id).map List.length := by
        intro B
        cases B id with
        | none => rfl
        | some row => simp [mrg_len]
      rw [e, e, h]
def NeutA (r : RI) (id k : Nat) : Prop := ∀ B : BK, atB (updI r B) id k = atB B id k
def NeutL (r : RI) (id : Nat) : Prop := ∀ B : BK, lenB (updI r B) id = lenB B id
theorem neutA_none {r : RI} {id k : Nat} (h : lookA id r.dl = none) : NeutA r id k := by
  intro B
  unfold atB updI
  rw [h]
theorem neutL_none {r : RI} {id : Nat} (h : lookA id r.dl = none) : NeutL r id := by
  intro B
  unfold lenB updI
  rw [h]
theorem neutL_some {r : RI} {id : Nat} {ro rv : List SC} (h : lookA id r.dl = some (some ro)) (hv : r.vis id = some rv) : NeutL r id := by
  intro B
  unfold lenB updI
  rw [h]
  simp only [hv]
  cases B id with
  | none => rfl
  | some row => simp [mrg_len]
theorem neutA_keep {r : RI} {id k : Nat} {ro rv : List SC} (h : lookA id r.dl = some (some ro)) (hv : r.vis id = some rv) (hk : (chg ro rv 0).testBit k = false) : NeutA r id k := by
  have hc : ∀ (ro rv : List SC) (k0 k : Nat) (o v : SC), ro[k]? = some o → rv[k]? = some v → keepC o v = false → (chg ro rv k0).testBit (k0 + k) = true := by
    intro ro
    induction ro with
    | nil => intro rv k0 k o v h; simp at h
    | cons o' ro ih =>
      intro rv k0 k o v h1 h2 h3
      cases rv with
      | nil => simp at h2
      | cons v' rv =>
        cases k with
        | zero =>
          simp at h1 h2
          subst h1 h2
          simp [chg, h3, Nat.testBit_or]
        | succ k =>
          have := ih rv (k0 + 1) k o v (by simpa using h1) (by simpa using h2) h3
          simp only [chg, Nat.testBit_or]
          rw [show k0 + (k + 1) = k0 + 1 + k by omega, this]
          simp
  intro B
  unfold atB updI
  rw [h]
  simp only [hv]
  cases B id with
  | none => rfl
  | some row =>
    simp only [Option.map_some, Option.bind_some, mrg_get]
    cases hrow : row[k]? with
    | none => rfl
    | some c =>
      simp only [Option.map_some, mrgC]
      cases h1 : ro[k]? with
      | none => rfl
      | some o =>
        cases h2 : rv[k]? with
        | none => rfl
        | some v =>
          simp only
          cases h3 : keepC o v with
          | true => rfl
          | false =>
            have := hc ro rv 0 k o v h1 h2 h3
            rw [Nat.zero_add, hk] at this
            exact absurd this (by simp)

theorem lookA_mem {α : Type} {id : Nat} {x : α} : ∀ {l : List (Nat × α)}, lookA id l = some x → ∃ y, (id, y) ∈ l
  | [], h => by simp [lookA] at h
  | (i, z) :: l, h => by
    simp only [lookA] at h
    split at h
    · rename_i hb
      have := Nat.eq_of_beq_eq_true hb
      subst this
      exact ⟨z, by simp⟩
    · obtain ⟨y, hy⟩ := lookA_mem h
      exact ⟨y, by simp [hy]⟩
theorem touch_mem {r : RI} {id : Nat} {x : Option (List SC)} (h : lookA id r.dl = some x) : (id, touchE r id) ∈ touch r := by
  obtain ⟨y, hy⟩ := lookA_mem h
  exact List.mem_map.2 ⟨(id, y), hy, rfl⟩
theorem touchE_some {r : RI} {id o : Nat} (h : touchE r id = some o) : ∃ ro rv, lookA id r.dl = some (some ro) ∧ r.vis id = some rv ∧ o = chg ro rv 0 := by
  unfold touchE at h
  split at h
  · rename_i ro hl
    split at h
    · rename_i rv hv
      simp only [Option.some.injEq] at h
      exact ⟨ro, rv, hl, hv, h.symm⟩
    · exact absurd h (by simp)
  · exact absurd h (by simp)
theorem anyAt_spec : ∀ {rv : List SC} {o k0 k : Nat} {c : SC}, anyAt rv o k0 = true → rv[k]? = some c → c ≠ .any → o.testBit (k0 + k) = false
  | [], _, _, _, _, _, h, _ => by simp at h
  | c' :: rv, o, k0, 0, c, h, hc, hne => by
    simp at hc
    subst hc
    simp only [anyAt, Bool.and_eq_true, Bool.or_eq_true, Bool.not_eq_true'] at h
    rcases h.1 with h | h
    · simpa using h
    · cases c' <;> simp_all
  | c' :: rv, o, k0, k + 1, c, h, hc, hne => by
    simp only [anyAt, Bool.and_eq_true] at h
    have := anyAt_spec h.2 (by simpa using hc) hne
    rw [show k0 + (k + 1) = k0 + 1 + k by omega]
    exact this

/-- Two operations of which neither comes before the other. -/
structure Apart (ri rj : RI) : Prop where
  see : ∀ id rv, ri.vis id = some rv → NeutL rj id ∧ ∀ (k : Nat) (c : SC), rv[k]? = some c → c ≠ .any → NeutA rj id k
  cells : ∀ id k, NeutA ri id k ∨ NeutA rj id k
  rows : ∀ id, NeutL ri id ∨ NeutL rj id
theorem unorderedOk_cov {ri rj : RI} (h : unorderedOk rj ri = true) : ∀ id rv, ri.vis id = some rv → NeutL rj id ∧ ∀ (k : Nat) (c : SC), rv[k]? = some c → c ≠ .any → NeutA rj id k := by
  intro id rv hv
  cases hl : lookA id rj.dl with
  | none => exact ⟨neutL_none hl, fun k c _ _ => neutA_none hl⟩
  | some x =>
    have hm := touch_mem hl
    have hc := (Bool.and_eq_true_iff.1 (List.all_eq_true.1 h _ hm)).1
    unfold cov at hc
    simp only [hv] at hc
    split at hc
    · exact absurd hc (by simp)
    · rename_i o ho
      obtain ⟨ro, rvj, h1, h2, h3⟩ := touchE_some ho
      subst h3
      refine ⟨neutL_some h1 h2, fun k c hk hne => neutA_keep h1 h2 ?_⟩
      have := anyAt_spec hc hk hne
      rwa [Nat.zero_add] at this
theorem unorderedOk_disj {ri rj : RI} (h : unorderedOk rj ri = true) : (∀ id k, NeutA ri id k ∨ NeutA rj id k) ∧ ∀ id, NeutL ri id ∨ NeutL rj id := by
  have key : ∀ id x y, lookA id rj.dl = some x → lookA id ri.dl = some y → ∃ ro rv ro' rv', lookA id rj.dl = some (some ro) ∧ rj.vis id = some rv ∧ lookA id ri.dl = some (some ro') ∧ ri.vis id = some rv' ∧ (chg ro rv 0) &&& (chg ro' rv' 0) = 0 := by
    intro id x y hx hy
    have hd := (Bool.and_eq_true_iff.1 (List.all_eq_true.1 h _ (touch_mem hx))).2
    have hd := List.all_eq_true.1 hd _ (touch_mem hy)
    unfold disj1 at hd
    simp only [Nat.beq_refl, Bool.not_true, Bool.false_or] at hd
    split at hd
    · rename_i a b ha hb
      obtain ⟨ro, rv, h1, h2, rfl⟩ := touchE_some ha
      obtain ⟨ro', rv', h3, h4, rfl⟩ := touchE_some hb
      exact ⟨ro, rv, ro', rv', h1, h2, h3, h4, Nat.eq_of_beq_eq_true hd⟩
    · exact absurd hd (by simp)
  constructor
  · intro id k
    cases hx : lookA id rj.dl with
    | none => exact Or.inr (neutA_none hx)
    | some x =>
      cases hy : lookA id ri.dl with
      | none => exact Or.inl (neutA_none hy)
      | some y =>
        obtain ⟨ro, rv, ro', rv', h1, h2, h3, h4, h5⟩ := key id x y hx hy
        cases hb : (chg ro rv 0).testBit k with
        | false => exact Or.inr (neutA_keep h1 h2 hb)
        | true =>
          refine Or.inl (neutA_keep h3 h4 ?_)
          have := congrArg (fun n => n.testBit k) h5
          simp only [Nat.testBit_and, hb, Bool.true_and, Nat.zero_testBit] at this
          exact this
  · intro id
    cases hx : lookA id rj.dl with
    | none => exact Or.inr (neutL_none hx)
    | some x =>
      cases hy : lookA id ri.dl with
      | none => exact Or.inl (neutL_none hy)
      | some y =>
        obtain ⟨ro, rv, ro', rv', h1, h2, _⟩ := key id x y hx hy
        exact Or.inr (neutL_some h1 h2)
theorem okAll_apart {is : List RI} (h : okAll is = true) {i j : Nat} {ri rj : RI} (hi : is[i]? = some ri) (hj : is[j]? = some rj) (hij : i ≠ j) (h1 : ri.bef.testBit j = false) (h2 : rj.bef.testBit i = false) : Apart ri rj := by
  unfold okAll at h
  rw [List.all_eq_true] at h
  have half : ∀ {i j : Nat} {ri rj : RI}, is[i]? = some ri → is[j]? = some rj → i ≠ j → ri.bef.testBit j = false → rj.bef.testBit i = false → rj.dl = [] ∨ unorderedOk rj ri = true := by
    intro i j ri rj hi hj hij h1 h2
    have h3 := h j (List.mem_range.2 (List.getElem?_eq_some_iff.1 hj).1)
    rw [hj] at h3
    simp only at h3
    split at h3
    · rename_i e; exact Or.inl e
    · rw [List.all_eq_true] at h3
      have h4 := h3 i (List.mem_range.2 (List.getElem?_eq_some_iff.1 hi).1)
      rw [hi] at h4
      simp only [h1, h2, Bool.or_false, Bool.or_eq_true] at h4
      rcases h4 with h4 | h4
      · exact absurd (Nat.eq_of_beq_eq_true h4) hij
      · exact Or.inr h4
  have hnil : ∀ {r : RI}, r.dl = [] → ∀ id, lookA id r.dl = none := by
    intro r e id
    rw [e]
    rfl
  rcases half hi hj hij h1 h2 with e | e
  · exact ⟨fun id rv _ => ⟨neutL_none (hnil e id), fun k c _ _ => neutA_none (hnil e id)⟩, fun id k => Or.inr (neutA_none (hnil e id)), fun id => Or.inr (neutL_none (hnil e id))⟩
  · exact ⟨unorderedOk_cov e, (unorderedOk_disj e).1, (unorderedOk_disj e).2⟩

/-! ### What some of them leave -/
def Bf (p : Nat → Bool) : List RI → Nat → BK → BK
  | [], _, B => B
  | r :: is, k, B => Bf p is (k + 1) (if p k then updI r B else B)
theorem Bf_at {p q : Nat → Bool} {id k : Nat} : ∀ {is : List RI} {n : Nat} {B1 B2 : BK}, atB B1 id k = atB B2 id k → (∀ j r, is[j]? = some r → p (n + j) ≠ q (n + j) → NeutA r id k) → atB (Bf p is n B1) id k = atB (Bf q is n B2) id k
  | [], _, _, _, h, _ => h
  | r :: is, n, B1, B2, h, hn => by
    simp only [Bf]
    refine Bf_at ?_ fun j r' hj hne => hn (j + 1) r' (by simpa using hj) (by rwa [show n + (j + 1) = n + 1 + j by omega])
    have h0 := hn 0 r rfl
    simp only [Nat.add_zero] at h0
    cases hp : p n <;> cases hq : q n <;> simp only [if_true, if_false, Bool.false_eq_true]
    · exact h
    · rw [h0 (by rw [hp, hq]; simp) B2]; exact h
    · rw [h0 (by rw [hp, hq]; simp) B1]; exact h
    · exact at_det h
theorem Bf_len {p q : Nat → Bool} {id : Nat} : ∀ {is : List RI} {n : Nat} {B1 B2 : BK}, lenB B1 id = lenB B2 id → (∀ j r, is[j]? = some r → p (n + j) ≠ q (n + j) → NeutL r id) → lenB (Bf p is n B1) id = lenB (Bf q is n B2) id
  | [], _, _, _, h, _ => h
  | r :: is, n, B1, B2, h, hn => by
    simp only [Bf]
    refine Bf_len ?_ fun j r' hj hne => hn (j + 1) r' (by simpa using hj) (by rwa [show n + (j + 1) = n + 1 + j by omega])
    have h0 := hn 0 r rfl
    simp only [Nat.add_zero] at h0
    cases hp : p n <;> cases hq : q n <;> simp only [if_true, if_false, Bool.false_eq_true]
    · exact h
    · rw [h0 (by rw [hp, hq]; simp) B2]; exact h
    · rw [h0 (by rw [hp, hq]; simp) B1]; exact h
    · exact len_det h
/-- One more: it may as well be the last. -/
theorem Bf_last {p : Nat → Bool} {i : Nat} {ri : RI} {id : Nat} : ∀ {is : List RI} {n : Nat} {B : BK}, is[i]? = some ri → p (n + i) = false →
    ((∀ k, (∀ j r, is[j]? = some r → i < j → p (n + j) = true → NeutA ri id k ∨ NeutA r id k) → atB (Bf (fun x => if x = n + i then true else p x) is n B) id k = atB (updI ri (Bf p is n B)) id k) ∧
     ((∀ j r, is[j]? = some r → i < j → p (n + j) = true → NeutL ri id ∨ NeutL r id) → lenB (Bf (fun x => if x = n + i then true else p x) is n B) id = lenB (updI ri (Bf p is n B)) id)) := by
  -- an update commutes with those behind it
  have comA : ∀ (p : Nat → Bool) (k : Nat) (is : List RI) (n : Nat) (B : BK), (∀ j r, is[j]? = some r → p (n + j) = true → NeutA ri id k ∨ NeutA r id k) → atB (Bf p is n (updI ri B)) id k = atB (updI ri (Bf p is n B)) id k := by
    intro p k is
    induction is with
    | nil => intro n B _; rfl
    | cons r is ih =>
      intro n B h
      simp only [Bf]
      have h0 := h 0 r rfl
      simp only [Nat.add_zero] at h0
      have hrest : ∀ j r', is[j]? = some r' → p (n + 1 + j) = true → NeutA ri id k ∨ NeutA r' id k := fun j r' hj hp => h (j + 1) r' (by simpa using hj) (by rwa [show n + (j + 1) = n + 1 + j by omega])
      cases hp : p n with
      | false => simp only [Bool.false_eq_true, if_false]; exact ih (n + 1) B hrest
      | true =>
        simp only [if_true]
        rw [← ih (n + 1) (updI r B) hrest]
        refine Bf_at ?_ fun j r' _ hne => absurd rfl hne
        rcases h0 hp with h0 | h0
        · rw [h0 (updI r B)]
          exact at_det (h0 B)
        · rw [h0 (updI ri B)]
          exact (at_det (h0 B)).symm
  have comL : ∀ (p : Nat → Bool) (is : List RI) (n : Nat) (B : BK), (∀ j r, is[j]? = some r → p (n + j) = true → NeutL ri id ∨ NeutL r id) → lenB (Bf p is n (updI ri B)) id = lenB (updI ri (Bf p is n B)) id := by
    intro p is
    induction is with
    | nil => intro n B _; rfl
    | cons r is ih =>
      intro n B h
      simp only [Bf]
      have h0 := h 0 r rfl
      simp only [Nat.add_zero] at h0
      have hrest : ∀ j r', is[j]? = some r' → p (n + 1 + j) = true → NeutL ri id ∨ NeutL r' id := fun j r' hj hp => h (j + 1) r' (by simpa using hj) (by rwa [show n + (j + 1) = n + 1 + j by omega])
      cases hp : p n with
      | false => simp only [Bool.false_eq_true, if_false]; exact ih (n + 1) B hrest
      | true =>
        simp only [if_true]
        rw [← ih (n + 1) (updI r B) hrest]
        refine Bf_len ?_ fun j r' _ hne => absurd rfl hne
        rcases h0 hp with h0 | h0
        · rw [h0 (updI r B)]
          exact len_det (h0 B)
        · rw [h0 (updI ri B)]
          exact (len_det (h0 B)).symm
  have same : ∀ (p q : Nat → Bool) (is : List RI) (n : Nat) (B : BK), (∀ j, j < is.length → p (n + j) = q (n + j)) → Bf p is n B = Bf q is n B := by
    intro p q is
    induction is with
    | nil => intro n B _; rfl
    | cons r is ih =>
      intro n B h
      simp only [Bf]
      have h0 := h 0 (by simp)
      simp only [Nat.add_zero] at h0
      rw [h0]
      exact ih (n + 1) _ fun j hj => by
        have := h (j + 1) (by simp; omega)
        rwa [show n + 1 + j = n + (j + 1) by omega]
  intro is
  induction is generalizing i with
  | nil => intro n B h; simp at h
  | cons r is ih =>
    intro n B hi hp
    cases i with
    | zero =>
      simp at hi
      subst hi
      simp only [Nat.add_zero] at hp ⊢
      have e : Bf (fun x => if x = n then true else p x) (r :: is) n B = Bf p is (n + 1) (updI r B) := by
        simp only [Bf, if_true]
        exact same _ _ _ _ _ fun j _ => by rw [if_neg (by omega)]
      have e' : Bf p (r :: is) n B = Bf p is (n + 1) B := by simp [Bf, hp]
      rw [e, e']
      exact ⟨fun k h => comA p k is (n + 1) B fun j r' hj hpj => h (j + 1) r' (by simpa using hj) (by omega) (by rwa [show n + (j + 1) = n + 1 + j by omega]),
        fun h => comL p is (n + 1) B fun j r' hj hpj => h (j + 1) r' (by simpa using hj) (by omega) (by rwa [show n + (j + 1) = n + 1 + j by omega])⟩
    | succ i =>
      have hi' : is[i]? = some ri := by simpa using hi
      have e : ∀ p', Bf p' (r :: is) n B = Bf p' is (n + 1) (if p' n then updI r B else B) := fun _ => rfl
      rw [e, e]
      have e1 : (if n = n + (i + 1) then true else p n) = p n := if_neg (by omega)
      rw [e1]
      have hh := ih (n := n + 1) (B := if p n then updI r B else B) hi' (by rwa [show n + 1 + i = n + (i + 1) by omega])
      rw [show n + 1 + i = n + (i + 1) by omega] at hh
      exact ⟨fun k h => hh.1 k fun j r' hj hlt hpj => h (j + 1) r' (by simpa using hj) (by omega) (by rwa [show n + (j + 1) = n + 1 + j by omega]),
        fun h => hh.2 fun j r' hj hlt hpj => h (j + 1) r' (by simpa using hj) (by omega) (by rwa [show n + (j + 1) = n + 1 + j by omega])⟩
end Go.CX
