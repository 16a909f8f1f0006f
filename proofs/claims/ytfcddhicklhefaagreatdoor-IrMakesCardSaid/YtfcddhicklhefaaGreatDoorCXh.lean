/- CX: regions whose order is drawn: whatever order comes up. -/
import Derived.Test.YtfcddhicklhefaaGreatDoorCXg
namespace Go.CX
open Go Go.RowKit Go.SX

theorem Bf_append {p : Nat → Bool} : ∀ {is js : List RI} {k : Nat} {B : BK}, Bf p (is ++ js) k B = Bf p js (k + is.length) (Bf p is k B)
  | [], _, _, _ => rfl
  | r :: is, js, k, B => by
    simp only [List.cons_append, Bf, List.length_cons]
    rw [Bf_append, show k + 1 + is.length = k + (is.length + 1) by omega]
theorem Bf_same {p q : Nat → Bool} : ∀ {is : List RI} {n : Nat} {B : BK}, (∀ j, j < is.length → p (n + j) = q (n + j)) → Bf p is n B = Bf q is n B
  | [], _, _, _ => rfl
  | r :: is, n, B, h => by
    simp only [Bf]
    have h0 := h 0 (by simp)
    simp only [Nat.add_zero] at h0
    rw [h0]
    exact Bf_same fun j hj => by
      have := h (j + 1) (by simp; omega)
      rwa [show n + 1 + j = n + (j + 1) by omega]
theorem Bf_none {p : Nat → Bool} : ∀ {is : List RI} {n : Nat} {B : BK}, (∀ j, j < is.length → p (n + j) = false) → Bf p is n B = B
  | [], _, _, _ => rfl
  | r :: is, n, B, h => by
    simp only [Bf]
    have h0 := h 0 (by simp)
    simp only [Nat.add_zero] at h0
    rw [h0]
    simp only [Bool.false_eq_true, if_false]
    exact Bf_none fun j hj => by
      have := h (j + 1) (by simp; omega)
      rwa [show n + 1 + j = n + (j + 1) by omega]
theorem updL_is {base : BK} {r : RI} {l : Bs} : dlB (updL base r l) base = updI r (dlB l base) := by
  unfold updL
  rw [dlB_append]
  funext id
  have hm : ∀ (es : Bs), lookA id (es.map fun e => (e.1, updI r (dlB l base) e.1)) = (lookA id es).map fun _ => updI r (dlB l base) id := by
    intro es
    induction es with
    | nil => rfl
    | cons e es ih =>
      simp only [List.map_cons, lookA]
      cases hb : Nat.beq e.1 id with
      | true =>
        have := Nat.eq_of_beq_eq_true hb
        subst this
        rfl
      | false => simpa using ih
  have hm' := hm r.dl
  show (match lookA id (r.dl.map fun e => (e.1, updI r (dlB l base) e.1)) with
    | some r => r
    | none => dlB l base id) = _
  rw [hm']
  cases hl : lookA id r.dl with
  | none =>
    simp only [Option.map_none]
    unfold updI
    rw [hl]
  | some x => rfl

theorem maskRow_get : ∀ (m : Nat) (row : List SC) (k0 k : Nat), (maskRow m row k0)[k]? = (row[k]?).map fun c => if m.testBit (k0 + k) then .any else c
  | _, [], _, _ => by simp [maskRow]
  | m, c :: row, k0, 0 => by simp [maskRow]
  | m, c :: row, k0, k + 1 => by
    simp only [maskRow, List.getElem?_cons_succ, maskRow_get m row]
    rw [show k0 + (k + 1) = k0 + 1 + k by omega]
theorem maskRow_len : ∀ (m : Nat) (row : List SC) (k0 : Nat), (maskRow m row k0).length = row.length
  | _, [], _ => rfl
  | m, c :: row, k0 => by simp [maskRow, maskRow_len m row]
theorem maskB_view {B : BK} : ∀ mk, View (maskB B mk) B
  | [] => fun id rv h => ⟨rv, h, rfl, fun _ _ hk _ => hk⟩
  | (i, m) :: rest => by
    intro id rv h
    simp only [maskB] at h
    split at h
    · split at h
      · exact absurd h (by simp)
      · rename_i m'
        simp only [Option.map_eq_some_iff] at h
        obtain ⟨rv', h1, rfl⟩ := h
        obtain ⟨row, h2, h3, h4⟩ := maskB_view rest id rv' h1
        refine ⟨row, h2, by rw [h3, maskRow_len], fun k c hk hne => ?_⟩
        rw [maskRow_get] at hk
        simp only [Option.map_eq_some_iff] at hk
        obtain ⟨c', h5, h6⟩ := hk
        split at h6
        · exact absurd h6.symm hne
        · subst h6; exact h4 k c' h5 hne
    · exact maskB_view rest id rv h
theorem visI_view {B : BK} {mk : List (Nat × Option Nat)} {o : Op} : View (visI mk o B) B := by
  unfold visI
  split
  · exact maskB_view mk
  · intro id rv h; exact absurd h (by simp)

structure Item (cx : Cx) (call : CallT) (fs : Facts) (N : Nat) (ops : Array Oper) (bs : List Nat) (L0 : LK) (B0 : BK) (is : List RI) (i : Nat) (o : Oper) (r : RI) : Prop where
  dst : r.dst = o.dst
  lt : dstOk N o.dst = true
  bef : r.bef = befs (is.take i) o.after.toList
  edges : edgesOk i o.after.toList = true
  le : r.n0 ≤ r.n1
  lens : lensOk r.vis r.dl = true
  view : View r.vis (Bf (fun j => decide (j < i)) is 0 B0)
  does : (guardG cx (Lr L0 (dsts ops.toList) (origI ops.toList bs i) (is.take i) (bitsOf r.bef)) fs ops o = .yes ∧ opG cx call (Lr L0 (dsts ops.toList) (origI ops.toList bs i) (is.take i) (bitsOf r.bef)) r.vis fs r.n0 o.op = .ok ⟨r.v, r.dl, r.n1⟩) ∨
    (guardG cx (Lr L0 (dsts ops.toList) (origI ops.toList bs i) (is.take i) (bitsOf r.bef)) fs ops o = .no ∧ r.v = undefSV ∧ r.dl = [])
/-- Each has numbers of its own. -/
def Chain (is : List RI) (n m : Nat) : Prop := n ≤ m ∧ (∀ (i : Nat) (r : RI), is[i]? = some r → n ≤ r.n0 ∧ r.n1 ≤ m) ∧ ∀ (i j : Nat) (ri rj : RI), i < j → is[i]? = some ri → is[j]? = some rj → ri.n1 ≤ rj.n0

theorem regGo_spec {cx : Cx} {call : CallT} {fs : Facts} {N : Nat} {base : BK} {mkf : Nat → List (Nat × Option Nat)} {ops : Array Oper} {bs : List Nat} {L0 : LK} {B0 : BK} {n00 : Nat} : ∀ {rest : List Oper} {acc is : List RI} {l l' : Bs} {n n' : Nat},
    regGo cx call fs N base mkf ops (dsts ops.toList) bs L0 rest acc l n = .ok is l' n' → dlB l base = Bf (fun _ => true) acc 0 B0 → Chain acc n00 n →
    (∃ tl, is = acc ++ tl) ∧ is.length = acc.length + rest.length ∧ dlB l' base = Bf (fun _ => true) is 0 B0 ∧ Chain is n00 n' ∧ ∀ k o, rest[k]? = some o → ∃ r, is[acc.length + k]? = some r ∧ Item cx call fs N ops bs L0 B0 is (acc.length + k) o r
  | [], acc, is, l, l', n, n', h, hl, hc => by
    simp only [regGo, DR.ok.injEq] at h
    obtain ⟨rfl, rfl, rfl⟩ := h
    exact ⟨⟨[], by simp⟩, by simp, hl, hc, by simp⟩
  | o :: rest, acc, is, l, l', n, n', h, hl, hc => by
    have step : ∀ (r : RI) (l1 : Bs) (n1 : Nat), regGo cx call fs N base mkf ops (dsts ops.toList) bs L0 rest (acc ++ [r]) l1 n1 = .ok is l' n' → dlB l1 base = updI r (dlB l base) → r.n0 = n → r.n1 = n1 → n ≤ n1 →
        (∀ is', (∃ tl, is' = acc ++ r :: tl) → Item cx call fs N ops bs L0 B0 is' acc.length o r) →
        (∃ tl, is = acc ++ tl) ∧ is.length = acc.length + (o :: rest).length ∧ dlB l' base = Bf (fun _ => true) is 0 B0 ∧ Chain is n00 n' ∧ ∀ k o', (o :: rest)[k]? = some o' → ∃ r, is[acc.length + k]? = some r ∧ Item cx call fs N ops bs L0 B0 is (acc.length + k) o' r := by
      intro r l1 n1 h hl1 hr0 hr1 hle hitem
      have hl2 : dlB l1 base = Bf (fun _ => true) (acc ++ [r]) 0 B0 := by
        rw [Bf_append, hl1, hl]
        rfl
      have hc2 : Chain (acc ++ [r]) n00 n1 := by
        obtain ⟨c0, c1, c2⟩ := hc
        refine ⟨by omega, fun i ri hi => ?_, fun i j ri rj hij hi hj => ?_⟩
        · rcases Nat.lt_or_ge i acc.length with hlt | hge
          · rw [List.getElem?_append_left hlt] at hi
            have := c1 i ri hi
            exact ⟨this.1, by omega⟩
          · rw [List.getElem?_append_right hge] at hi
            have : i - acc.length = 0 := by
              have := (List.getElem?_eq_some_iff.1 hi).1
              simp at this
              omega
            rw [this] at hi
            simp at hi
            subst hi
            omega
        · have hjl := (List.getElem?_eq_some_iff.1 hj).1
          simp at hjl
          have hlt : i < acc.length := by omega
          rw [List.getElem?_append_left hlt] at hi
          rcases Nat.lt_or_ge j acc.length with hlt' | hge
          · rw [List.getElem?_append_left hlt'] at hj
            exact c2 i j ri rj hij hi hj
          · rw [List.getElem?_append_right hge] at hj
            have : j - acc.length = 0 := by omega
            rw [this] at hj
            simp at hj
            subst hj
            have := (c1 i ri hi).2
            omega
      obtain ⟨⟨tl, h1⟩, h2, h2', h2'', h3⟩ := regGo_spec h hl2 hc2
      have h1' : is = acc ++ r :: tl := by rw [h1]; simp
      refine ⟨⟨r :: tl, h1'⟩, by rw [h2]; simp; omega, h2', h2'', fun k o' hk => ?_⟩
      cases k with
      | zero =>
        simp at hk
        subst hk
        exact ⟨r, by rw [h1']; simp, hitem is ⟨tl, h1'⟩⟩
      | succ k =>
        obtain ⟨r', h4, h5⟩ := h3 k o' (by simpa using hk)
        simp only [List.length_append, List.length_cons, List.length_nil] at h4 h5
        exact ⟨r', by rw [← h4]; congr 1; omega, by rw [show acc.length + (k + 1) = acc.length + (0 + 1) + k by omega]; exact h5⟩
    have htake : ∀ r is', (∃ tl, is' = acc ++ r :: tl) → is'.take acc.length = acc := by
      rintro r is' ⟨tl, rfl⟩
      simp
    have hfold : ∀ r is', (∃ tl, is' = acc ++ r :: tl) → Bf (fun j => decide (j < acc.length)) is' 0 B0 = dlB l base := by
      rintro r is' ⟨tl, rfl⟩
      rw [Bf_append, Bf_none (is := r :: tl) (fun j _ => by simp), hl]
      exact Bf_same fun j hj => by simp [hj]
    simp only [regGo] at h
    split at h
    · rename_i hcond
      rw [Bool.and_eq_true] at hcond
      split at h
      · rename_i hg
        split at h
        · rename_i d hd
          split at h
          · rename_i hle
            rw [Bool.and_eq_true] at hle
            obtain ⟨hle, hlens⟩ := hle
            have hle := Nat.le_of_ble_eq_true hle
            refine step _ _ _ h updL_is rfl rfl hle fun is' hi => ?_
            have ht := htake _ is' hi
            refine ⟨rfl, hcond.1, by rw [ht], hcond.2, hle, hlens, ?_, Or.inl ⟨by rw [ht]; exact hg, by rw [ht]; exact hd⟩⟩
            rw [hfold _ is' hi]
            exact visI_view
          · exact absurd h (by simp)
        · exact absurd h (by simp)
        · exact absurd h (by simp)
      · rename_i hg
        refine step _ _ _ h ?_ rfl rfl (Nat.le_refl _) fun is' hi => ?_
        · funext id
          rfl
        · have ht := htake _ is' hi
          exact ⟨rfl, hcond.1, by rw [ht], hcond.2, Nat.le_refl _, rfl, fun id rv h => absurd h (by simp), Or.inr ⟨by rw [ht]; exact hg, rfl, rfl⟩⟩
      · exact absurd h (by simp)
      · exact absurd h (by simp)
    · exact absurd h (by simp)

/-! ### Temporaries -/
def Uniq (is : List RI) : Prop := ∀ (i j : Nat) (ri rj : RI) (d : Nat), is[i]? = some ri → is[j]? = some rj → ri.dst = some d → rj.dst = some d → i = j
theorem wrt_some {p : Nat → Bool} {t : Nat} {s : SV} : ∀ {is : List RI} {k : Nat}, wrt p t is k = some s → ∃ j r, is[j]? = some r ∧ r.dst = some t ∧ p (k + j) = true ∧ r.v = s
  | [], _, h => by simp [wrt] at h
  | r :: is, k, h => by
    have rest : wrt p t is (k + 1) = some s → ∃ j r', (r :: is)[j]? = some r' ∧ r'.dst = some t ∧ p (k + j) = true ∧ r'.v = s := by
      intro h
      obtain ⟨j, r', h1, h2, h3, h4⟩ := wrt_some h
      exact ⟨j + 1, r', by simpa using h1, h2, by rwa [show k + (j + 1) = k + 1 + j by omega], h4⟩
    simp only [wrt] at h
    split at h
    · rename_i d hd
      split at h
      · rename_i hb
        rw [Bool.and_eq_true] at hb
        simp only [Option.some.injEq] at h
        exact ⟨0, r, rfl, by rw [hd, Nat.eq_of_beq_eq_true hb.1], hb.2, h⟩
      · exact rest h
    · exact rest h
theorem wrt_of {p : Nat → Bool} {t : Nat} : ∀ {is : List RI} {k j : Nat} {r : RI}, Uniq is → is[j]? = some r → r.dst = some t → p (k + j) = true → wrt p t is k = some r.v
  | [], _, _, _, _, h, _, _ => by simp at h
  | r' :: is, k, 0, r, _, h, hd, hp => by
    simp at h
    subst h
    simp only [Nat.add_zero] at hp
    simp [wrt, hd, hp]
  | r' :: is, k, j + 1, r, hu, h, hd, hp => by
    have hne : r'.dst ≠ some t := by
      intro e
      have := hu 0 (j + 1) r' r t rfl h e hd
      omega
    have ih := wrt_of (k := k + 1) (j := j) (r := r) (fun a b ra rb d ha hb hda hdb => by
      have := hu (a + 1) (b + 1) ra rb d (by simpa using ha) (by simpa using hb) hda hdb
      omega) (by simpa using h) hd (by rwa [show k + 1 + j = k + (j + 1) by omega])
    simp only [wrt]
    split
    · rename_i d hd'
      have : Nat.beq d t = false := by
        cases hq : Nat.beq d t with
        | false => rfl
        | true => rw [Nat.eq_of_beq_eq_true hq] at hd'; exact absurd hd' hne
      rw [this]
      simpa using ih
    · exact ih

/-! ### Some have come up -/
structure RL (ρ : Nat → Value) (φ : Nat → List Value → List Value) (fx : Fx) (ops : Array Oper) (L0 : LK) (B0 : BK) (is : List RI) (n0 n1 : Nat) (β0 : Bk) (p : Nat → Bool) (a : Act) (w : World) (β : Bk) : Prop where
  m : M ρ φ fx (Lr L0 (dsts ops.toList) (fun _ => true) is p) (Bf p is 0 B0) β a w
  closed : ∀ j r, is[j]? = some r → p j = true → ∀ k, r.bef.testBit k = true → p k = true
  fresh : ∀ j r, is[j]? = some r → p j = false → ∀ id, r.n0 ≤ id → id < r.n1 → β id = none
  ext : Ext β0 β
  newer : Newer β0 β n0 n1

theorem view_iff {V B : BK} : View V B ↔ ∀ id rv, V id = some rv → lenB B id = some rv.length ∧ ∀ (k : Nat) (c : SC), rv[k]? = some c → c ≠ .any → atB B id k = some c := by
  constructor
  · intro h id rv hv
    obtain ⟨row, h1, h2, h3⟩ := h id rv hv
    refine ⟨by simp [lenB, h1, h2], fun k c hk hne => ?_⟩
    simp [atB, h1, h3 k c hk hne]
  · intro h id rv hv
    obtain ⟨h1, h2⟩ := h id rv hv
    unfold lenB at h1
    simp only [Option.map_eq_some_iff] at h1
    obtain ⟨row, h3, h4⟩ := h1
    refine ⟨row, h3, h4, fun k c hk hne => ?_⟩
    have := h2 k c hk hne
    simpa [atB, h3] using this

section
variable {ρ : Nat → Value} {φ : Nat → List Value → List Value} {cx : Cx} {fx : Fx} {ops : Array Oper} {bs : List Nat} {L0 : LK} {B0 : BK} {is : List RI} {n0 n1 : Nat} {β0 : Bk} {call : CallT} {fs : Facts}

theorem befs_lt {acc : List RI} {i : Nat} {o : Oper} (he : edgesOk i o.after.toList = true) (hacc : ∀ (j : Nat) (r : RI), acc[j]? = some r → ∀ k, r.bef.testBit k = true → k < j) {k : Nat} (h : (befs acc o.after.toList).testBit k = true) : k < i := by
  obtain ⟨e, h1, h2, h3⟩ := befs_spec h
  have hlt := edgesOk_spec he e h1 (plainG_binds h2)
  rcases h3 with rfl | ⟨r, h4, h5⟩
  · exact hlt
  · have := hacc _ r h4 k h5
    omega

theorem bef_lt (hall : ∀ k o, ops.toList[k]? = some o → ∃ r, is[k]? = some r ∧ Item cx call fs fx.N ops bs L0 B0 is k o r) (hlen : is.length = ops.toList.length) :
    ∀ (n : Nat) (j : Nat) (r : RI), j < n → is[j]? = some r → ∀ k, r.bef.testBit k = true → k < j := by
  intro n
  induction n with
  | zero => intro j r hj; omega
  | succ n ih =>
    intro j r hj hr k hk
    have hjl : j < ops.toList.length := by rw [← hlen]; exact (List.getElem?_eq_some_iff.1 hr).1
    obtain ⟨r', hr', hit⟩ := hall j _ (List.getElem?_eq_getElem hjl)
    rw [hr] at hr'
    simp only [Option.some.injEq] at hr'
    subst hr'
    rw [hit.bef] at hk
    refine befs_lt hit.edges (fun j' r' hj' k' hk' => ?_) hk
    rw [List.getElem?_take] at hj'
    split at hj'
    · exact ih j' r' (by omega) hj' k' hk'
    · exact absurd hj' (by simp)

theorem writer_spec {t : Nat} : ∀ {os : List Oper} {k j : Nat}, writer t os k = some j → ∃ o, os[j - k]? = some o ∧ o.dst = some t ∧ k ≤ j
  | [], _, _, h => by simp [writer] at h
  | o :: os, k, j, h => by
    have rest : writer t os (k + 1) = some j → ∃ o', (o :: os)[j - k]? = some o' ∧ o'.dst = some t ∧ k ≤ j := by
      intro h
      obtain ⟨o', h1, h2, h3⟩ := writer_spec h
      refine ⟨o', ?_, h2, by omega⟩
      rw [show j - k = (j - (k + 1)) + 1 by omega]
      simpa using h1
    simp only [writer] at h
    split at h
    · rename_i d hd
      split at h
      · rename_i hb
        simp only [Option.some.injEq] at h
        subst h
        exact ⟨o, by simp, by rw [hd, Nat.eq_of_beq_eq_true hb], Nat.le_refl _⟩
      · exact rest h
    · exact rest h
theorem sameBefs_spec : ∀ {is : List RI} {bs : List Nat} {j : Nat} {r : RI}, sameBefs is bs = true → is[j]? = some r → bs.getD j 0 = r.bef
  | [], _, _, _, _, h => by simp at h
  | r' :: is, [], _, _, h, _ => by simp [sameBefs] at h
  | r' :: is, b :: bs, 0, r, h, hj => by
    simp only [sameBefs, Bool.and_eq_true] at h
    simp at hj
    subst hj
    simpa using (Nat.eq_of_beq_eq_true h.1).symm
  | r' :: is, b :: bs, j + 1, r, h, hj => by
    simp only [sameBefs, Bool.and_eq_true] at h
    have := sameBefs_spec h.2 (by simpa using hj : is[j]? = some r)
    simpa using this
theorem RL.step (F : Fits cx.Γ cx.S ρ φ) (C : CallOk fx.ws cx φ call) (hf : fs.hold ρ φ) (hall : ∀ k o, ops.toList[k]? = some o → ∃ r, is[k]? = some r ∧ Item cx call fs fx.N ops bs L0 B0 is k o r)
    (hbs : sameBefs is bs = true) (hu : Uniq is) (hok : okAll is = true) (hch : Chain is n0 n1) (hbl : ∀ (j : Nat) (r : RI), is[j]? = some r → ∀ k, r.bef.testBit k = true → k < j) {Q : Exit → Act → World → Prop} {listed : Array Bool} (hsz : listed.size = ops.size)
    {a : Act} {w : World} {β : Bk} (H : RL ρ φ fx ops L0 B0 is n0 n1 β0 (lst listed) a w β) {i : Nat} (hi : i ∈ Region.ready .any ops listed) :
    wpOp cx.P ops Q i (fun a' w' => ∃ β', RL ρ φ fx ops L0 B0 is n0 n1 β0 (lst (listed.setIfInBounds i true)) a' w' β') a w := by
  obtain ⟨hun, o, ho, hed⟩ := mem_ready.1 hi
  have ho' : ops.toList[i]? = some o := by simpa using ho
  obtain ⟨r, hr, hit⟩ := hall i o ho'
  have hilt : i < listed.size := by rw [hsz]; exact (Array.getElem?_eq_some_iff.1 ho).1
  have hpi : lst listed i = false := by
    unfold lst
    simp only [Array.getD_eq_getD_getElem?, Array.getElem?_eq_getElem hilt, Option.getD_some] at hun ⊢
    exact hun
  have hp' : lst (listed.setIfInBounds i true) = fun x => if x = 0 + i then true else lst listed x := by
    funext x
    rw [Nat.zero_add]
    by_cases hx : x = i
    · subst hx
      unfold lst
      simp [hilt]
    · rw [if_neg hx]
      unfold lst
      simp only [Array.getD_eq_getD_getElem?]
      rw [Array.getElem?_setIfInBounds_ne (fun e => hx e.symm)]
  have hbefL : ∀ k, r.bef.testBit k = true → lst listed k = true := by
    intro k hk
    rw [hit.bef] at hk
    obtain ⟨e, h1, h2, h3⟩ := befs_spec hk
    have he := hed e (by simpa using h1) (plainG_binds h2)
    rcases h3 with rfl | ⟨r', h4, h5⟩
    · exact he
    · have h4' : is[e.on]? = some r' := by
        rw [List.getElem?_take] at h4
        split at h4
        · exact h4
        · exact absurd h4 (by simp)
      exact H.closed _ r' h4' he k h5
  have hL : ∀ t s, Lr L0 (dsts ops.toList) (origI ops.toList bs i) (is.take i) (bitsOf r.bef) t = some s → Lr L0 (dsts ops.toList) (fun _ => true) is (lst listed) t = some s := by
    intro t s h
    unfold Lr at *
    split at h
    · rename_i hd
      rw [if_pos hd]
      split at h
      · rename_i v hv
        simp only [Option.some.injEq] at h
        subst h
        obtain ⟨j, rj, h1, h2, h3, h4⟩ := wrt_some hv
        have h1' : is[j]? = some rj := by
          rw [List.getElem?_take] at h1
          split at h1
          · exact h1
          · exact absurd h1 (by simp)
        rw [← h4, wrt_of hu h1' h2 (hbefL _ h3)]
      · split at h
        · rename_i ho'
          have : wrt (lst listed) t is 0 = none := by
            cases hq : wrt (lst listed) t is 0 with
            | none => rfl
            | some v =>
              exfalso
              obtain ⟨j, rj, h1, h2, h3, h4⟩ := wrt_some hq
              unfold origI at ho'
              split at ho'
              · rename_i j' hj'
                obtain ⟨oj, h5, h6, _⟩ := writer_spec hj'
                rw [Nat.sub_zero] at h5
                obtain ⟨rj', h7, h8⟩ := hall j' oj h5
                have := hu j j' rj rj' t h1 h7 h2 (by rw [h8.dst]; exact h6)
                subst this
                rw [h1] at h7
                simp only [Option.some.injEq] at h7
                subst h7
                rw [sameBefs_spec hbs h1] at ho'
                have := H.closed j rj h1 (by rwa [Nat.zero_add] at h3) i ho'
                rw [hpi] at this
                exact absurd this (by simp)
              · exact absurd ho' (by simp)
          rw [this]
          simpa using h
        · exact absurd h (by simp)
    · rename_i hd
      rw [if_neg hd]
      exact h
  -- those that have come up and do not come before it stand apart from it
  have hap : ∀ j rj, is[j]? = some rj → j ≠ i → (lst listed j = true ∧ r.bef.testBit j = false) ∨ (lst listed j = false ∧ j < i) → Apart r rj := by
    intro j rj hj hne hcase
    rcases hcase with ⟨h1, h2⟩ | ⟨h1, h2⟩
    · refine okAll_apart hok hr hj (Ne.symm hne) h2 ?_
      cases hq : rj.bef.testBit i with
      | false => rfl
      | true =>
        have := H.closed j rj hj h1 i hq
        rw [hpi] at this
        exact absurd this (by simp)
    · refine okAll_apart hok hr hj (Ne.symm hne) ?_ ?_
      · cases hq : r.bef.testBit j with
        | false => rfl
        | true =>
          have := hbefL j hq
          rw [h1] at this
          exact absurd this (by simp)
      · cases hq : rj.bef.testBit i with
        | false => rfl
        | true =>
          have := hbl j rj hj i hq
          omega
  have hview : View r.vis (Bf (lst listed) is 0 B0) := by
    rw [view_iff]
    intro id rv hv
    obtain ⟨v1, v2⟩ := view_iff.1 hit.view id rv hv
    have hne : ∀ j rj, is[j]? = some rj → (lst listed (0 + j)) ≠ decide (0 + j < i) → Apart r rj := by
      intro j rj hj hne
      rw [Nat.zero_add] at hne
      have hji : j ≠ i := by
        intro e
        subst e
        rw [hpi] at hne
        simp at hne
      refine hap j rj hj hji ?_
      cases hq : lst listed j with
      | false =>
        rw [hq] at hne
        exact Or.inr ⟨rfl, by simpa using hne⟩
      | true =>
        refine Or.inl ⟨rfl, ?_⟩
        cases hb : r.bef.testBit j with
        | false => rfl
        | true =>
          have := hbl i r hr j hb
          rw [hq] at hne
          simp [this] at hne
    refine ⟨?_, fun k c hk hc => ?_⟩
    · rw [← v1]
      exact Bf_len rfl fun j rj hj h => ((hne j rj hj h).see id rv hv).1
    · rw [← v2 k c hk hc]
      exact Bf_at rfl fun j rj hj h => ((hne j rj hj h).see id rv hv).2 k c hk hc
  have hmi : M ρ φ ⟨fx.N, Xof r.vis β, r.vis, w, fx.ws⟩ (Lr L0 (dsts ops.toList) (origI ops.toList bs i) (is.take i) (bitsOf r.bef)) r.vis β a w :=
    ⟨fun t s ht => H.m.tmps t s (hL t s ht), H.m.size, H.m.dfr, H.m.wld.view hview fx.N⟩
  have hclosed : ∀ j rj, is[j]? = some rj → lst (listed.setIfInBounds i true) j = true → ∀ k, rj.bef.testBit k = true → lst (listed.setIfInBounds i true) k = true := by
    intro j rj hj hpj k hk
    rw [hp'] at hpj ⊢
    simp only [Nat.zero_add] at hpj ⊢
    split at hpj
    · rename_i e
      subst e
      rw [hr] at hj
      simp only [Option.some.injEq] at hj
      subst hj
      split
      · rfl
      · exact hbefL k hk
    · split
      · rfl
      · exact H.closed j rj hj hpj k hk
  have hLafter : ∀ t s, Lr L0 (dsts ops.toList) (fun _ => true) is (lst (listed.setIfInBounds i true)) t = some s → putL (Lr L0 (dsts ops.toList) (fun _ => true) is (lst listed)) o.dst r.v t = some s := by
    intro t s h
    have hnot : ∀ d, o.dst = some d → hasN d (dsts ops.toList) = true := fun d hd => hasN_mem.2 (dsts_mem.2 ⟨i, o, ho', hd⟩)
    -- another's temporary: nothing new
    have other : o.dst ≠ some t → Lr L0 (dsts ops.toList) (fun _ => true) is (lst listed) t = some s := by
      intro hne
      unfold Lr at h ⊢
      split at h
      · rename_i hd
        rw [if_pos hd]
        split at h
        · rename_i v hv
          simp only [Option.some.injEq] at h
          subst h
          obtain ⟨j, rj, h1, h2, h3, h4⟩ := wrt_some hv
          have hji : j ≠ i := by
            intro e
            subst e
            rw [hr] at h1
            simp only [Option.some.injEq] at h1
            subst h1
            exact hne (by rw [← hit.dst]; exact h2)
          rw [hp'] at h3
          simp only [Nat.zero_add] at h3
          rw [if_neg hji] at h3
          rw [wrt_of (k := 0) hu h1 h2 (by rw [Nat.zero_add]; exact h3), h4]
        · rename_i hnone
          have : wrt (lst listed) t is 0 = none := by
            cases hq : wrt (lst listed) t is 0 with
            | none => rfl
            | some v =>
              obtain ⟨j, rj, h1, h2, h3, h4⟩ := wrt_some hq
              rw [Nat.zero_add] at h3
              have := wrt_of (p := lst (listed.setIfInBounds i true)) (k := 0) hu h1 h2 (by
                rw [hp']
                simp only [Nat.zero_add]
                split
                · rfl
                · exact h3)
              rw [this] at hnone
              exact absurd hnone (by simp)
          rw [this]
          exact h
      · rename_i hd
        rw [if_neg hd]
        exact h
    unfold putL
    cases hod : o.dst with
    | none => exact other (by rw [hod]; simp)
    | some d =>
      simp only
      by_cases hdt : d = t
      · subst hdt
        rw [Nat.beq_refl]
        simp only [if_true]
        unfold Lr at h
        rw [if_pos (hnot d hod)] at h
        have := wrt_of (p := lst (listed.setIfInBounds i true)) (k := 0) hu hr (by rw [hit.dst]; exact hod) (by rw [hp']; simp)
        rw [this] at h
        exact h
      · have : Nat.beq d t = false := by
          cases hq : Nat.beq d t with
          | false => rfl
          | true => exact absurd (Nat.eq_of_beq_eq_true hq) hdt
        rw [this]
        simp only [Bool.false_eq_true, if_false]
        exact other (by rw [hod]; simpa using hdt)
  -- its own update comes last
  have hlast : ∀ id, (∀ k, atB (Bf (lst (listed.setIfInBounds i true)) is 0 B0) id k = atB (updI r (Bf (lst listed) is 0 B0)) id k) ∧ lenB (Bf (lst (listed.setIfInBounds i true)) is 0 B0) id = lenB (updI r (Bf (lst listed) is 0 B0)) id := by
    intro id
    rw [hp']
    have hh := Bf_last (p := lst listed) (i := i) (ri := r) (id := id) (is := is) (n := 0) (B := B0) hr (by rw [Nat.zero_add]; exact hpi)
    have hbehind : ∀ j rj, is[j]? = some rj → i < j → lst listed (0 + j) = true → Apart r rj := by
      intro j rj hj hlt hp
      rw [Nat.zero_add] at hp
      refine hap j rj hj (by omega) (Or.inl ⟨hp, ?_⟩)
      cases hb : r.bef.testBit j with
      | false => rfl
      | true =>
        have := hbl i r hr j hb
        omega
    exact ⟨fun k => hh.1 k fun j rj hj hlt hp => (hbehind j rj hj hlt hp).cells id k, hh.2 fun j rj hj hlt hp => (hbehind j rj hj hlt hp).rows id⟩
  have hrow : ∀ id row', Bf (lst (listed.setIfInBounds i true)) is 0 B0 id = some row' → updI r (Bf (lst listed) is 0 B0) id = some row' := by
    intro id row' h
    obtain ⟨h1, h2⟩ := hlast id
    simp only [atB, lenB, h, Option.map_some, Option.bind_some] at h1 h2
    cases hq : updI r (Bf (lst listed) is 0 B0) id with
    | none => rw [hq] at h2; simp at h2
    | some row =>
      congr 1
      apply List.ext_getElem?
      intro k
      have := h1 k
      rw [hq] at this
      exact this.symm
  have hmerge : Merged r.vis (Bf (lst listed) is 0 B0) r.dl (Bf (lst (listed.setIfInBounds i true)) is 0 B0) := by
    intro id row' h
    have h := hrow id row' h
    unfold updI at h
    cases hl : lookA id r.dl with
    | none =>
      rw [hl] at h
      simp only at h
      cases hv : r.vis id with
      | none => exact Or.inr ⟨row', h, rfl, Or.inl ⟨rfl, rfl⟩⟩
      | some rv =>
        obtain ⟨row, h1, h2, h3⟩ := hview id rv hv
        rw [h] at h1
        simp only [Option.some.injEq] at h1
        subst h1
        refine Or.inr ⟨row', h, rfl, Or.inr ⟨rv, by simp [dlB, hl, hv], by simp, fun k c hk => ?_⟩⟩
        have hkl : k < rv.length := by rw [← h2]; exact (List.getElem?_eq_some_iff.1 hk).1
        have hrv : rv[k]? = some rv[k] := List.getElem?_eq_getElem hkl
        by_cases e : rv[k] = .any
        · exact Or.inr ⟨by rw [hrv, e], hk⟩
        · have := h3 k _ hrv e
          rw [hk] at this
          simp only [Option.some.injEq] at this
          exact Or.inl ⟨by rw [hrv, this], by rw [this]; exact e⟩
    | some x =>
      rw [hl] at h
      cases x with
      | none => exact absurd h (by simp)
      | some ro =>
        simp only at h
        cases hv : r.vis id with
        | none =>
          rw [hv] at h
          simp only [Option.some.injEq] at h
          subst h
          exact Or.inl ⟨rfl, by simp [dlB, hl]⟩
        | some rv =>
          rw [hv] at h
          simp only [Option.map_eq_some_iff] at h
          obtain ⟨row, h1, rfl⟩ := h
          refine Or.inr ⟨row, h1, by rw [mrg_len], Or.inr ⟨ro, by simp [dlB, hl], by simp, fun k c hk => ?_⟩⟩
          rw [mrg_get] at hk
          simp only [Option.map_eq_some_iff] at hk
          obtain ⟨c', hc', hm⟩ := hk
          obtain ⟨row2, g1, g2, g3⟩ := hview id rv hv
          rw [h1] at g1
          simp only [Option.some.injEq] at g1
          subst g1
          have hkl : k < rv.length := by rw [← g2]; exact (List.getElem?_eq_some_iff.1 hc').1
          have hrv : rv[k]? = some rv[k] := List.getElem?_eq_getElem hkl
          unfold mrgC at hm
          -- an operation keeps the length of what it sees
          cases hro : ro[k]? with
          | none =>
            exfalso
            have := lensOk_spec hit.lens hl hv
            rw [List.getElem?_eq_none_iff] at hro
            omega
          | some o' =>
            rw [hro, hrv] at hm
            simp only at hm
            split at hm
            · rename_i hkeep
              subst hm
              rcases keepC_eq hkeep with e | e
              · subst e
                exact Or.inr ⟨rfl, hc'⟩
              · by_cases e' : rv[k] = .any
                · exact Or.inr ⟨by rw [e, e'], hc'⟩
                · have := g3 k _ hrv e'
                  rw [hc'] at this
                  simp only [Option.some.injEq] at this
                  exact Or.inl ⟨by rw [e, this], by rw [this]; exact e'⟩
            · rename_i hkeep
              subst hm
              refine Or.inl ⟨rfl, ?_⟩
              intro e
              subst e
              simp [keepC] at hkeep
  have hg := guardG_ok (cx := cx) (ops := ops) (o := o) F hmi hf
  have hdisj : ∀ j rj, is[j]? = some rj → j ≠ i → ∀ id, r.n0 ≤ id → id < r.n1 → ¬ (rj.n0 ≤ id ∧ id < rj.n1) := by
    intro j rj hj hne id h1 h2
    rcases Nat.lt_or_gt_of_ne hne with hlt | hlt
    · have := hch.2.2 j i rj r hlt hj hr
      omega
    · have := hch.2.2 i j r rj hlt hr hj
      omega
  have hfree := H.fresh i r hr hpi
  unfold wpOp
  rw [ho]
  simp only
  rcases hit.does with ⟨hyes, hop⟩ | ⟨hno, hv, hdl⟩
  · rw [if_pos (hg.1 hyes)]
    refine Or.inl ?_
    refine opG_does (fx := ⟨fx.N, Xof r.vis β, r.vis, w, fx.ws⟩) F C hmi hf hfree hop _ _ fun β' x w' hE hN hW hx => ⟨β', ?_, hclosed, fun j rj hj hpj id h1 h2 => ?_, H.ext.trans hE, ?_⟩
    · have hW' := H.m.wld.merge hview hE hW hmerge
      exact (M.step (dst := o.dst) H.m hE hW' (dstOk_lt hit.lt) hx).lessL hLafter
    · cases hb : β' id with
      | none => rfl
      | some p =>
        rw [hp'] at hpj
        simp only [Nat.zero_add] at hpj
        split at hpj
        · exact absurd hpj (by simp)
        · rename_i hji
          rcases hN id p hb with h3 | ⟨h3, h4⟩
          · rw [H.fresh j rj hj hpj id h1 h2] at h3
            exact absurd h3 (by simp)
          · exact absurd ⟨h1, h2⟩ (hdisj j rj hj hji id h3 h4)
    · intro id p hp
      rcases hN id p hp with h | ⟨h1, h2⟩
      · exact H.newer id p h
      · have := hch.2.1 i r hr
        have h2 : id < r.n1 := h2
        exact Or.inr ⟨by omega, by omega⟩
  · rw [if_neg (by rw [hg.2 hno]; simp)]
    refine ⟨β, ?_, hclosed, fun j rj hj hpj id h1 h2 => ?_, H.ext, H.newer⟩
    · have hm := M.step (dst := o.dst) (s := undefSV) (x := undef) H.m (Ext.refl _) H.m.wld (dstOk_lt hit.lt) rfl
      rw [← hv] at hm
      have hm := hm.lessL hLafter
      refine ⟨hm.tmps, hm.size, hm.dfr, hm.wld.less fun id row h => ?_⟩
      have h := hrow id row h
      unfold updI at h
      rw [hdl] at h
      exact h
    · rw [hp'] at hpj
      simp only [Nat.zero_add] at hpj
      split at hpj
      · exact absurd hpj (by simp)
      · exact H.fresh j rj hj hpj id h1 h2

/-- Where nothing may come up any more, all have come up. -/
theorem all_listed (hall : ∀ k o, ops.toList[k]? = some o → ∃ r, is[k]? = some r ∧ Item cx call fs fx.N ops bs L0 B0 is k o r) {listed : Array Bool} (hsz : listed.size = ops.size) (hr : Region.ready .any ops listed = []) :
    ∀ (n : Nat) (j : Nat), j < n → j < ops.size → lst listed j = true := by
  intro n
  induction n with
  | zero => intro j hj; omega
  | succ n ih =>
    intro j hj hjs
    have hjl : j < listed.size := by omega
    cases hq : lst listed j with
    | true => rfl
    | false =>
      have hmem : j ∈ Region.ready .any ops listed := by
        rw [mem_ready]
        have ho : ops[j]? = some ops[j] := Array.getElem?_eq_getElem hjs
        obtain ⟨r, _, hit⟩ := hall j ops[j] (by simp [hjs])
        refine ⟨?_, ops[j], ho, fun e he hb => ?_⟩
        · unfold lst at hq
          simp only [Array.getD_eq_getD_getElem?, Array.getElem?_eq_getElem hjl, Option.getD_some] at hq ⊢
          exact hq
        · have hlt := edgesOk_spec hit.edges e (by simpa using he) hb
          exact ih e.on (by omega) (by omega)
      rw [hr] at hmem
      exact absurd hmem (by simp)

theorem wpAny_of_RL (F : Fits cx.Γ cx.S ρ φ) (C : CallOk fx.ws cx φ call) (hf : fs.hold ρ φ) (hall : ∀ k o, ops.toList[k]? = some o → ∃ r, is[k]? = some r ∧ Item cx call fs fx.N ops bs L0 B0 is k o r) (hlen : is.length = ops.toList.length)
    (hbs : sameBefs is bs = true) (hu : Uniq is) (hok : okAll is = true) (hch : Chain is n0 n1) {Q : Exit → Act → World → Prop}
    (hQ : ∀ a w β p, (∀ j, j < ops.size → p j = true) → RL ρ φ fx ops L0 B0 is n0 n1 β0 p a w β → Q .normal a w) :
    ∀ (fuel : Nat) (listed : Array Bool) (a : Act) (w : World) (β : Bk), listed.size = ops.size →
      (List.range ops.size).countP (fun j => !lst listed j) ≤ fuel → RL ρ φ fx ops L0 B0 is n0 n1 β0 (lst listed) a w β → wpAny cx.P .any ops Q fuel listed a w := by
  have hbl : ∀ (j : Nat) (r : RI), is[j]? = some r → ∀ k, r.bef.testBit k = true → k < j := fun j r => bef_lt hall hlen (j + 1) j r (by omega)
  intro fuel
  induction fuel with
  | zero =>
    intro listed a w β hsz hcnt H
    have hall' : ∀ j, j < ops.size → lst listed j = true := by
      intro j hj
      have h0 : (List.range ops.size).countP (fun j => !lst listed j) = 0 := by omega
      rw [List.countP_eq_zero] at h0
      have := h0 j (List.mem_range.2 hj)
      simpa using this
    refine ⟨?_, hQ a w β _ hall' H⟩
    apply List.eq_nil_iff_forall_not_mem.2
    intro j hj
    obtain ⟨h1, o, ho, _⟩ := mem_ready.1 hj
    have hj' := (Array.getElem?_eq_some_iff.1 ho).1
    have := hall' j hj'
    unfold lst at this
    have hjl : j < listed.size := by omega
    simp only [Array.getD_eq_getD_getElem?, Array.getElem?_eq_getElem hjl, Option.getD_some] at h1 this
    rw [h1] at this
    exact absurd this (by simp)
  | succ fuel ih =>
    intro listed a w β hsz hcnt H
    refine ⟨fun hr => hQ a w β _ (fun j hj => all_listed hall hsz hr (j + 1) j (by omega) hj) H, fun i hi => ?_⟩
    have hstep := RL.step F C hf hall hbs hu hok hch hbl hsz H hi (Q := Q)
    refine wpOp_mono (fun a' w' ⟨β', hR⟩ => ?_) hstep
    refine ih (listed.setIfInBounds i true) a' w' β' (by simp [hsz]) ?_ hR
    obtain ⟨hun, o, ho, _⟩ := mem_ready.1 hi
    have hil := (Array.getElem?_eq_some_iff.1 ho).1
    have hpi : lst listed i = false := by
      unfold lst
      have hjl : i < listed.size := by omega
      simp only [Array.getD_eq_getD_getElem?, Array.getElem?_eq_getElem hjl, Option.getD_some] at hun ⊢
      exact hun
    have hlt : (List.range ops.size).countP (fun j => !lst (listed.setIfInBounds i true) j) < (List.range ops.size).countP (fun j => !lst listed j) := by
      refine countP_lt _ (fun x hx => ?_) ⟨i, List.mem_range.2 hil, by simp [hpi], ?_⟩
      · intro h
        by_cases hxi : x = i
        · subst hxi; simp [hpi]
        · simp only [Bool.not_eq_true'] at h ⊢
          unfold lst at *
          simp only [Array.getD_eq_getD_getElem?, Array.getElem?_setIfInBounds_ne (Ne.symm hxi)] at h ⊢
          exact h
      · unfold lst
        simp [show i < listed.size by omega]
    omega

theorem finT_look (t : Nat) (s : SV) : ∀ {is : List RI} {l : List (Nat × SV)}, lookA t (finT is l) = some s →
    (∃ (j : Nat) (r : RI), is[j]? = some r ∧ r.dst = some t ∧ r.v = s) ∨ ((∀ (j : Nat) (r : RI), is[j]? = some r → r.dst ≠ some t) ∧ lookA t l = some s)
  | [], l, h => Or.inr ⟨by simp, h⟩
  | r :: is, l, h => by
    simp only [finT] at h
    rcases finT_look t s h with ⟨j, r', h1, h2⟩ | ⟨h1, h2⟩
    · exact Or.inl ⟨j + 1, r', by simpa using h1, h2⟩
    · rw [look_putT] at h2
      cases hd : r.dst with
      | none =>
        rw [hd] at h2
        refine Or.inr ⟨fun j r' hj => ?_, h2⟩
        cases j with
        | zero => simp at hj; subst hj; rw [hd]; simp
        | succ j => exact h1 j r' (by simpa using hj)
      | some d =>
        rw [hd] at h2
        simp only [putL] at h2
        split at h2
        · rename_i hb
          simp only [Option.some.injEq] at h2
          exact Or.inl ⟨0, r, rfl, by rw [hd, Nat.eq_of_beq_eq_true hb], h2⟩
        · rename_i hb
          refine Or.inr ⟨fun j r' hj => ?_, h2⟩
          cases j with
          | zero =>
            simp at hj
            subst hj
            rw [hd]
            intro e
            simp only [Option.some.injEq] at e
            subst e
            simp at hb
          | succ j => exact h1 j r' (by simpa using hj)

theorem region_sound (F : Fits cx.Γ cx.S ρ φ) (C : CallOk fx.ws cx φ call) (hf : fs.hold ρ φ) {base : BK} {σ : St} {mkf : Nat → List (Nat × Option Nat)} {l : Bs} {n : Nat} {Q : Exit → Act → World → Prop} {β : Bk} {a : Act} {w : World} {rid : Nat} (hc : cx.P.follows .mixedOrders = true ∧ nodupN (dsts ops.toList) = true)
    (h : regGo cx call fs fx.N base mkf ops (dsts ops.toList) bs σ.L ops.toList [] σ.dl σ.next = .ok is l n) (hbs : sameBefs is bs = true) (hok : okAll is = true)
    (H : MS ρ φ fx base σ β a w) (hn : ∀ id, σ.next ≤ id → id < n → β id = none) (hQ : ∀ β' a' w', Ext β β' → Newer β β' σ.next n → MS ρ φ fx base ⟨finT is σ.tmps, l, n⟩ β' a' w' → Q .normal a' w') : (Code.region rid ops true).wp cx.P Q a w ∧ σ.next ≤ n := by
  obtain ⟨_, hlen, hl, hch, hall⟩ := regGo_spec (B0 := dlB σ.dl base) (n00 := σ.next) h rfl ⟨Nat.le_refl _, by simp, by simp⟩
  simp only [List.length_nil, Nat.zero_add] at hlen hall
  refine ⟨?_, hch.1⟩
  have hu : Uniq is := by
    intro i j ri rj d hi hj hdi hdj
    have hil : i < ops.toList.length := by rw [← hlen]; exact (List.getElem?_eq_some_iff.1 hi).1
    have hjl : j < ops.toList.length := by rw [← hlen]; exact (List.getElem?_eq_some_iff.1 hj).1
    obtain ⟨r1, h1, i1⟩ := hall i _ (List.getElem?_eq_getElem hil)
    obtain ⟨r2, h2, i2⟩ := hall j _ (List.getElem?_eq_getElem hjl)
    rw [hi] at h1
    rw [hj] at h2
    simp only [Option.some.injEq] at h1 h2
    subst h1 h2
    exact nodup_uniq hc.2 (List.getElem?_eq_getElem hil) (List.getElem?_eq_getElem hjl) (by rw [← i1.dst]; exact hdi) (by rw [← i2.dst]; exact hdj)
  refine wp_region_any hc.1 ?_
  refine wpAny_of_RL (fx := fx) (L0 := σ.L) (B0 := dlB σ.dl base) (β0 := β) F C hf hall hlen hbs hu hok hch (fun a1 w1 β1 p hp HR => ?_) ops.size _ a _ β (by simp) ?_ ?_
  · refine hQ β1 a1 w1 HR.ext HR.newer ⟨⟨fun t s ht => ?_, HR.m.size, HR.m.dfr, ?_⟩⟩
    · refine HR.m.tmps t s ?_
      have ht : lookA t (finT is σ.tmps) = some s := ht
      unfold Lr
      rcases finT_look t s ht with ⟨j, r, h1, h2, h3⟩ | ⟨h1, h2⟩
      · have hjl : j < ops.toList.length := by rw [← hlen]; exact (List.getElem?_eq_some_iff.1 h1).1
        obtain ⟨r', h4, i4⟩ := hall j _ (List.getElem?_eq_getElem hjl)
        rw [h1] at h4
        simp only [Option.some.injEq] at h4
        subst h4
        have hd : hasN t (dsts ops.toList) = true := hasN_mem.2 (dsts_mem.2 ⟨j, _, List.getElem?_eq_getElem hjl, by rw [← i4.dst]; exact h2⟩)
        rw [if_pos hd, ← h3, wrt_of hu h1 h2 (by rw [Nat.zero_add]; exact hp j (by simpa using hjl))]
      · rw [if_neg]
        · exact h2
        · intro hd
          obtain ⟨i, o, ho, hod⟩ := dsts_mem.1 (hasN_mem.1 hd)
          obtain ⟨r, hr, hi⟩ := hall i o ho
          exact h1 i r hr (by rw [hi.dst]; exact hod)
    · have e : Bf p is 0 (dlB σ.dl base) = dlB l base := by
        rw [hl]
        refine Bf_same fun j hj => ?_
        rw [Nat.zero_add]
        exact hp j (by rw [hlen] at hj; simpa using hj)
      have hw := HR.m.wld
      rw [e] at hw
      exact hw
  · rw [List.countP_eq_length_filter]
    refine Nat.le_trans (List.length_filter_le _ _) ?_
    simp
  · refine ⟨⟨fun t s ht => ?_, H.m.size, H.m.dfr, ?_⟩, fun j r _ hl => ?_, fun j r hj _ id h1 h2 => ?_, Ext.refl _, Newer.refl _ _ _⟩
    · refine H.m.tmps t s ?_
      unfold Lr at ht
      split at ht
      · split at ht
        · rename_i v hv
          obtain ⟨j, r, h1, h2, h3, h4⟩ := wrt_some hv
          rw [lst_rep] at h3
          exact absurd h3 (by simp)
        · simpa using ht
      · exact ht
    · rw [Bf_none fun j _ => lst_rep _ _]
      exact H.m.wld.drew
    · rw [lst_rep] at hl
      exact absurd hl (by simp)
    · have := hch.2.1 j r hj
      exact hn id (by omega) (by omega)
end

theorem regD_sound {ρ : Nat → Value} {φ : Nat → List Value → List Value} {cx : Cx} {fx : Fx} {ops : Array Oper} {call : CallT} {fs : Facts} (F : Fits cx.Γ cx.S ρ φ) (C : CallOk fx.ws cx φ call) (hf : fs.hold ρ φ) {base : BK} {σ σ' : St} {Q : Exit → Act → World → Prop} {β : Bk} {a : Act} {w : World} {rid : Nat}
    (h : regD cx call fs fx.N base ops σ = .ok σ')
    (H : MS ρ φ fx base σ β a w) (hn : ∀ id, σ.next ≤ id → id < σ'.next → β id = none) (hQ : ∀ β' a' w', Ext β β' → Newer β β' σ.next σ'.next → MS ρ φ fx base σ' β' a' w' → Q .normal a' w') : (Code.region rid ops true).wp cx.P Q a w := by
  unfold regD at h
  split at h
  · rename_i hc
    rw [Bool.and_eq_true] at hc
    split at h
    · rename_i is l n hgo
      split at h
      · rename_i hok
        rw [Bool.and_eq_true] at hok
        simp only [RR.ok.injEq] at h
        subst h
        exact (region_sound F C hf hc hgo hok.1 hok.2 H hn hQ).1
      · unfold regF at h
        split at h
        · rename_i is l n hgo
          split at h
          · rename_i hok
            rw [Bool.and_eq_true] at hok
            simp only [RR.ok.injEq] at h
            subst h
            exact (region_sound F C hf hc hgo hok.1 hok.2 H hn hQ).1
          · exact absurd h (by simp)
        · exact absurd h (by simp)
        · exact absurd h (by simp)
    · exact absurd h (by simp)
    · exact absurd h (by simp)
  · exact absurd h (by simp)
theorem regD_next {cx : Cx} {N : Nat} {ops : Array Oper} {call : CallT} {fs : Facts} {base : BK} {σ σ' : St} (h : regD cx call fs N base ops σ = .ok σ') : σ.next ≤ σ'.next := by
  have key : ∀ {mkf : Nat → List (Nat × Option Nat)} {is : List RI} {l : Bs} {n : Nat}, regGo cx call fs N base mkf ops (dsts ops.toList) (befAll ops.toList []) σ.L ops.toList [] σ.dl σ.next = .ok is l n → σ.next ≤ n := by
    intro mkf is l n h
    exact (regGo_spec (B0 := dlB σ.dl base) (n00 := σ.next) h rfl ⟨Nat.le_refl _, by simp, by simp⟩).2.2.2.1.1
  unfold regD at h
  split at h
  · split at h
    · rename_i is l n hgo
      split at h
      · simp only [RR.ok.injEq] at h
        subst h
        exact key hgo
      · unfold regF at h
        split at h
        · rename_i is l n hgo
          split at h
          · simp only [RR.ok.injEq] at h
            subst h
            exact key hgo
          · exact absurd h (by simp)
        · exact absurd h (by simp)
        · exact absurd h (by simp)
    · exact absurd h (by simp)
    · exact absurd h (by simp)
  · exact absurd h (by simp)
end Go.CX
