/- CX: functions without arguments that answer true. -/
import Derived.Test.YthakekgdllmbcaaDoorCXi
import Derived.Lib.LaidTab
import Derived.Lib.Fields
import Derived.Shelf.Strings.OnBuilder
import Derived.Shelf.Strconv.Itoa3
namespace Go.CX
open Go Go.RowKit Go.SX

def cx0 (P : Program) : Cx := ⟨P, [], [], [], []⟩
def isTrue : OR → Bool
  | .ok d => match d.v with
    | .one ⟨false, [.e (.bool true)]⟩ => true
    | _ => false
  | _ => false
def answers (P : Program) (n : Nat) (f : FuncId) : Bool := isTrue (callI (cx0 P) ext0 (run (cx0 P) ext0 n) f [] (fun _ => none) 0 [])
def namesOk (P : Program) : Bool := P.funcs.toList.all fun fn => !(fn.name == "runtime.NumGoroutine")
theorem namesOk_spec {P : Program} (h : namesOk P = true) : ∀ (f : FuncId) (fn : Func), P.funcs[f]? = some fn → (fn.name == "runtime.NumGoroutine") = false := by
  intro f fn hf
  have := List.all_eq_true.1 h fn (by
    rw [Array.mem_toList_iff]
    exact Array.mem_of_getElem? hf)
  simpa using this
theorem fits0 (P : Program) : Fits (cx0 P).Γ (cx0 P).S (fun _ => undef) (fun _ _ => []) :=
  ⟨fun i => by simp [cx0, So.has], fun g j args => by simp [cx0, Cx.S, symS, lookA, So.has]⟩
theorem calls_true {P : Program} (hname : namesOk P = true) {n : Nat} {f : FuncId} (h : answers P n f = true) (w : World) :
    Calls P f #[] w fun e w' => e = .returned (.bool true) ∧ Below w.heap.size w w' := by
  unfold answers isTrue at h
  split at h
  · rename_i d hd
    split at h
    · rename_i hv
      have := calls_run (cx := cx0 P) (namesOk_spec hname) (xs := []) (w := w) rfl rfl (ext0_ok ⟨w, [], gt0⟩ _ _) hd (fits0 P) (fun p hp => by simp at hp) trivial
      refine this.mono ?_
      rintro e w' ⟨x, β', rfl, hx, hb⟩
      rw [hv] at hx
      have hx : x = _ := hx
      subst hx
      exact ⟨rfl, hb⟩
    · exact absurd h (by simp)
  · exact absurd h (by simp)
end Go.CX

/- CX: calls of the library by their contracts. -/
namespace Go.CX
open Go Go.RowKit Go.SX

def orX (a b : ExtT) : ExtT := fun f args B n fs => match a f args B n fs with
  | some o => some o
  | none => b f args B n fs
theorem orX_ok {φ : Nat → List Value → List Value} {ws : Base} {cx : Cx} {a b : ExtT} (ha : ExtOk ws cx φ a) (hb : ExtOk ws cx φ b) : ExtOk ws cx φ (orX a b) := by
  intro f svs B n fs d h
  unfold orX at h
  split at h
  · rename_i o ho
    simp only [Option.some.injEq] at h
    subst h
    exact ha f svs B n fs d ho
  · exact hb f svs B n fs d h

/-- What the call of a function enters. -/
def Enters (P : Program) (f : FuncId) : Prop := ∀ (args : Array Value) (w : World), (callFunc f args).run P w = .ok (.enter f args) w
theorem enters {P : Program} {f : FuncId} {fn : Func} {c : Code} (hf : P.funcs[f]? = some fn) (hb : fn.body = some c) (hn : (fn.name == "runtime.NumGoroutine") = false) : Enters P f := fun args w => callFunc_run hf hb hn args w

section
variable {ρ : Nat → Value} {φ : Nat → List Value → List Value} {fx : Fx} {B : BK} {β : Bk} {w w' : World}
theorem W.tab {P : Program} {name : String} {k : IntKind} {zs : List Int} (H : W ρ φ fx B β w) (h : Lib.TabIs P fx.ws.toWorld name k zs) : Lib.TabIs P w name k zs := by
  unfold Lib.TabIs World.var? at *
  cases hg : P.globalNamed name with
  | none => rw [hg] at h; simp at h
  | some g =>
    rw [hg] at h
    simp only [Option.bind_some] at h ⊢
    have hlt : g < fx.ws.heap.size := by
      cases hq : fx.ws.heap[g]? with
      | none => rw [hq] at h; simp at h
      | some o => exact (Array.getElem?_eq_some_iff.1 hq).1
    rw [H.base.1 g hlt]
    exact h
/-- New blocks above: what was known stays. -/
theorem W.grow (H : W ρ φ fx B β w) (hb : Below w.heap.size w w') : W ρ φ fx B β w' :=
  H.old_block hb.size (fun k hk => hb.block k hk) hb.os hb.tape hb.output (Ext.refl _) (fun _ _ h _ => h) (fun id b n h => Nat.lt_of_lt_of_le (H.inh id b n h) hb.size) H.hi
theorem WG.grow (H : WG ρ φ fx B β w) (hb : Below w.heap.size w w') : WG ρ φ fx B β w' :=
  WG.make rfl (H.o.grow hb) H.g (fun _ h => h) (fun id row _ n h h' => Or.inr ⟨id, row, n, h, h'⟩) (fun c hc _ => hb.block c hc) hb.size fun _ _ x h => ⟨x, h, rfl, rfl⟩
theorem WG.tab {P : Program} {name : String} {k : IntKind} {zs : List Int} (H : WG ρ φ fx B β w) (h : Lib.TabIs P fx.ws.toWorld name k zs) : Lib.TabIs P w name k zs := H.o.tab h
end

/-! ### strings.Fields -/
def plainB (s : ByteArray) : Bool := Nat.ble s.size 1000000 && s.data.toList.all fun b => Nat.blt b.toNat 128
def strV (l : List UInt8) : Value := .string ⟨l.toArray⟩
def fieldsX (f : FuncId) : ExtT := fun g args _ n _ => if Nat.beq g f then (match args with
  | [.one ⟨false, [.e (.val (.string s))]⟩] => if plainB s then some (.ok ⟨.one ⟨false, [.slc n 0 (Lib.fields s.data.toList).length (Lib.fields s.data.toList).length]⟩, [(n, some ((Lib.fields s.data.toList).map fun l => .e (.val (strV l))))], n + 1⟩) else none
  | _ => none) else none
theorem fieldsX_ok {φ : Nat → List Value → List Value} {ws : Base} {cx : Cx} {f : FuncId} {T : TypeId} (hin : Enters cx.P f) (hT : Lib.TabIs cx.P ws.toWorld "strings.asciiSpace" .u8 Lib.asciiSpaceTab)
    (hc : ∀ (s : ByteArray) (w : World), s.size < 4294967281 → (∀ (j : Nat) b, s.data.toList[j]? = some b → b.toNat < 128) → Lib.TabIs cx.P w "strings.asciiSpace" .u8 Lib.asciiSpaceTab →
      Calls cx.P f #[.string s] w fun e w' => e = .returned (.slice (some ⟨w.heap.size, 0, none⟩) (Lib.fields s.data.toList).length (Lib.fields s.data.toList).length) ∧ w' = w.alloc (.cells ((Lib.fields s.data.toList).map fun l => Value.string ⟨l.toArray⟩).toArray T)) :
    ExtOk ws cx φ (fieldsX f) := by
  intro g svs B n fs d h ρ β w xs N F hf hW hn ha
  unfold fieldsX at h
  split at h
  · rename_i hg
    have hg := Nat.eq_of_beq_eq_true hg
    subst hg
    split at h
    · rename_i s
      split at h
      · rename_i hp
        simp only [Option.some.injEq, OR.ok.injEq] at h
        subst h
        match xs, ha with
        | [x], ha =>
          have hx : x = .string s := ha.1
          subst hx
          refine ⟨hin _ _, ?_⟩
          unfold plainB at hp
          rw [Bool.and_eq_true] at hp
          have h1 := Nat.le_of_ble_eq_true hp.1
          have h2 := List.all_eq_true.1 hp.2
          refine (hc s w (by omega) (fun j b hj => blt_lt (h2 b (List.mem_of_getElem? hj))) (hW.tab hT)).mono ?_
          rintro e w' ⟨rfl, rfl⟩
          have hall : All2 (SC.is ρ φ β) ((Lib.fields s.data.toList).map fun l => SC.e (.val (strV l))) ((Lib.fields s.data.toList).map fun l => Value.string ⟨l.toArray⟩) := by
            generalize Lib.fields s.data.toList = ls
            induction ls with
            | nil => trivial
            | cons l ls ih => exact ⟨rfl, ih⟩
          have hn0 := hn n (Nat.le_refl _) (Nat.lt_succ_self _)
          have k3 := world_new (T := T) (row := (Lib.fields s.data.toList).map fun l => SC.e (.val (strV l))) (arr := ((Lib.fields s.data.toList).map fun l => Value.string ⟨l.toArray⟩).toArray) (hW.o.local 0) hn0 (by simp) (vals_row hall) (fun c hc => by
            obtain ⟨l, _, rfl⟩ := List.mem_map.1 hc
            simp)
          have hfr : freeG [(n, some ((Lib.fields s.data.toList).map fun l => SC.e (.val (strV l))))] = true := by
            cases Lib.fields s.data.toList with
            | nil => rfl
            | cons l ls => rfl
          exact ⟨_, _, rfl, updB_ext hn0, updB_newer _ _ _ _, hW.after (updB_ext hn0) hfr k3, _, _, updB_self _ _ _ _, rfl⟩
      · exact absurd h (by simp)
    · exact absurd h (by simp)
  · exact absurd h (by simp)

/-! ### strings.Join -/
def strC : SC → Option ByteArray
  | .e (.val (.string s)) => some s
  | _ => none
def strsC : List SC → Option (List ByteArray)
  | [] => some []
  | c :: cs => match strC c, strsC cs with
    | some s, some r => some (s :: r)
    | _, _ => none
def capOk : SC → Bool
  | .slc _ _ l c => Nat.ble l c
  | _ => true
def joinX (f : FuncId) : ExtT := fun g args B n _ => if Nat.beq g f then (match args with
  | [.one ⟨false, [c]⟩, .one ⟨false, [.e (.val (.string sep))]⟩] => match srcX (noG B) 1 c with
    | some (_, cs) => match strsC cs with
      | some xs => if capOk c && Nat.ble xs.length 1000000 && Nat.ble (Lib.join (xs.map (·.data.toList)) sep.data.toList).length 140737488355328 then
          some (.ok ⟨.one ⟨false, [.e (.val (strV (Lib.join (xs.map (·.data.toList)) sep.data.toList)))]⟩, [], n⟩) else none
      | none => none
    | none => none
  | _ => none) else none
theorem strsC_is {ρ : Nat → Value} {φ : Nat → List Value → List Value} {β : Bk} : ∀ {cs : List SC} {xs : List ByteArray} {us : List Value}, strsC cs = some xs → All2 (SC.is ρ φ β) cs us → us = xs.map .string
  | [], xs, us, h, ha => by
    simp only [strsC, Option.some.injEq] at h
    subst h
    cases us with
    | nil => rfl
    | cons _ _ => exact ha.elim
  | c :: cs, xs, us, h, ha => by
    simp only [strsC] at h
    split at h
    · rename_i s r hs hr
      simp only [Option.some.injEq] at h
      subst h
      cases us with
      | nil => exact ha.elim
      | cons u us =>
        unfold strC at hs
        split at hs
        · simp only [Option.some.injEq] at hs
          subst hs
          have h1 : u = _ := ha.1
          rw [h1, strsC_is hr ha.2]
          rfl
        · exact absurd hs (by simp)
    · exact absurd h (by simp)
theorem slice_cap {ρ : Nat → Value} {φ : Nat → List Value → List Value} {fx : Fx} {B : BK} {β : Bk} {w : World} (H : W ρ φ fx B β w) {size m : Nat} {x : SC} {cs : List SC} {v : Value} (h : srcX B size x = some (m, cs)) (hx : x.is ρ φ β v) (hlc : capOk x = true) :
    ∃ b off c, v = .slice (some ⟨b, off, none⟩) m c ∧ m ≤ c ∧ b < w.heap.size := by
  unfold srcX at h
  split at h
  · obtain ⟨b, n, hb, rfl⟩ := hx
    split at h
    · simp only at h
      split at h
      · simp only [Option.some.injEq, Prod.mk.injEq] at h
        obtain ⟨rfl, _⟩ := h
        exact ⟨b, _, _, rfl, Nat.le_of_ble_eq_true hlc, H.inh _ _ _ hb⟩
      · exact absurd h (by simp)
    · exact absurd h (by simp)
  · obtain ⟨b, n, cap, hb, rfl, hc, _⟩ := hx
    split at h
    · simp only at h
      split at h
      · simp only [Option.some.injEq, Prod.mk.injEq] at h
        obtain ⟨rfl, _⟩ := h
        exact ⟨b, _, _, rfl, hc, H.inh _ _ _ hb⟩
      · exact absurd h (by simp)
    · exact absurd h (by simp)
  · exact absurd h (by simp)
theorem joinX_ok {φ : Nat → List Value → List Value} {ws : Base} {cx : Cx} {f : FuncId} (hin : Enters cx.P f)
    (hc : ∀ (bk o c : Nat) (xs : List ByteArray) (sep : ByteArray) (w : World), (∀ (j : Nat) x, xs[j]? = some x → w.cell? ⟨bk, o + j, none⟩ = some (.string x)) → bk < w.heap.size → xs.length ≤ 140737488355328 → xs.length ≤ c → (Lib.join (xs.map (·.data.toList)) sep.data.toList).length ≤ 140737488355328 →
      Calls cx.P f #[.slice (some ⟨bk, o, none⟩) xs.length c, .string sep] w fun e w' => e = .returned (.string ⟨(Lib.join (xs.map (·.data.toList)) sep.data.toList).toArray⟩) ∧ Below w.heap.size w w') :
    ExtOk ws cx φ (joinX f) := by
  intro g svs B n fs d h ρ β w xs N F hf hW hn ha
  unfold joinX at h
  split at h
  · rename_i hg
    have hg := Nat.eq_of_beq_eq_true hg
    subst hg
    split at h
    · rename_i c sep
      split at h
      · rename_i m cs hsrc
        split at h
        · rename_i ss hss
          split at h
          · rename_i hp
            rw [Bool.and_eq_true, Bool.and_eq_true] at hp
            have h1 := Nat.le_of_ble_eq_true hp.1.2
            have h2 := Nat.le_of_ble_eq_true hp.2
            simp only [Option.some.injEq, OR.ok.injEq] at h
            subst h
            match xs, ha with
            | [x, y], ha =>
              have hy : y = .string sep := ha.2.1
              subst hy
              have hx : c.is ρ φ β x := ha.1
              obtain ⟨ad, cap, us, hv, hul, hua, hcell⟩ := srcX_is hW.o hsrc hx
              obtain ⟨bk, off, cap', hv', hcap, hbk⟩ := slice_cap hW.o hsrc hx hp.1.1
              rw [hv] at hv'
              simp only [Value.slice.injEq, Option.some.injEq] at hv'
              obtain ⟨rfl, _, rfl⟩ := hv'
              have hus := strsC_is hss hua
              subst hus
              simp only [List.length_map, Nat.mul_one] at hul
              subst hul
              subst hv
              refine ⟨hin _ _, ?_⟩
              refine (hc bk off cap ss sep w (fun j s hj => ?_) hbk (by omega) hcap h2).mono ?_
              · have := hcell j (.string s) (by simp [hj])
                rwa [Addr.add_lit] at this
              · rintro e w' ⟨rfl, hb⟩
                exact ⟨_, β, rfl, Ext.refl _, Newer.refl _ _ _, hW.grow hb, rfl⟩
          · exact absurd h (by simp)
        · exact absurd h (by simp)
      · exact absurd h (by simp)
    · exact absurd h (by simp)
  · exact absurd h (by simp)

/-! ### strconv.Itoa, FormatInt, of small numbers -/
def digits2 (i : Nat) : List UInt8 := if Nat.blt i 10 then [UInt8.ofNat (48 + i)] else [UInt8.ofNat (48 + i / 10), UInt8.ofNat (48 + i % 10)]
theorem digits2_eq {i : Nat} (h : i < 100) : Lib.decDigits i = digits2 i := by
  unfold digits2
  by_cases h10 : i < 10
  · have : Nat.blt i 10 = true := by
      unfold Nat.blt
      exact Nat.ble_eq_true_of_le h10
    rw [if_pos this, Lib.decDigits, dif_pos h10]
  · have : ¬ Nat.blt i 10 = true := fun e => h10 (blt_lt e)
    rw [if_neg this, Lib.decDigits, dif_neg h10, Lib.decDigits, dif_pos (by omega)]
    rfl
def itoaX (f : FuncId) (more : List Value) : ExtT := fun g args _ n _ => if Nat.beq g f then (match args with
  | .one ⟨false, [.e (.int .i64 (.ofNat i))]⟩ :: rest => if Nat.blt i 100 && sameLits rest more then some (.ok ⟨.one ⟨false, [.e (.val (strV (digits2 i)))]⟩, [], n⟩) else none
  | _ => none) else none
 where
  sameLits : List SV → List Value → Bool
    | [], [] => true
    | .one ⟨false, [.e (.int .i64 (.ofNat a))]⟩ :: ls, .int .i64 (.ofNat b) :: bs => Nat.beq a b && sameLits ls bs
    | _, _ => false
theorem itoaX_ok {φ : Nat → List Value → List Value} {ws : Base} {cx : Cx} {f : FuncId} {more : List Value} (hin : Enters cx.P f)
    (hc : ∀ (i : Nat) (w : World), i < 100 → Calls cx.P f (.int .i64 (Int.ofNat i) :: more).toArray w fun e w' => e = .returned (.string ⟨(Lib.decDigits i).toArray⟩) ∧ w' = w) :
    ExtOk ws cx φ (itoaX f more) := by
  have lits : ∀ {ρ : Nat → Value} {φ : Nat → List Value → List Value} {β : Bk} {ls : List SV} {bs xs : List Value}, itoaX.sameLits ls bs = true → All2 (SV.is ρ φ β) ls xs → xs = bs := by
    intro ρ φ β ls
    induction ls with
    | nil =>
      intro bs xs h ha
      cases bs with
      | nil => cases xs with | nil => rfl | cons _ _ => exact ha.elim
      | cons _ _ => simp [itoaX.sameLits] at h
    | cons a ls ih =>
      intro bs xs h ha
      unfold itoaX.sameLits at h
      split at h
      · rename_i e; cases e
      · rename_i a' ls' b bs' e1
        simp only [List.cons.injEq] at e1
        obtain ⟨rfl, rfl⟩ := e1
        rw [Bool.and_eq_true] at h
        have hb := Nat.eq_of_beq_eq_true h.1
        subst hb
        cases xs with
        | nil => exact ha.elim
        | cons x xs =>
          have hx : x = _ := ha.1
          rw [hx, ih h.2 ha.2]
          rfl
      · exact absurd h (by simp)
  intro g svs B n fs d h ρ β w xs N F hf hW hn ha
  unfold itoaX at h
  split at h
  · rename_i hg
    have hg := Nat.eq_of_beq_eq_true hg
    subst hg
    split at h
    · rename_i i rest
      split at h
      · rename_i hp
        rw [Bool.and_eq_true] at hp
        have h1 := blt_lt hp.1
        simp only [Option.some.injEq, OR.ok.injEq] at h
        subst h
        cases xs with
        | nil => exact ha.elim
        | cons x xs =>
          have hx : x = _ := ha.1
          have hxs := lits hp.2 ha.2
          subst hx hxs
          refine ⟨hin _ _, (hc i w h1).mono ?_⟩
          rintro e w' ⟨rfl, rfl⟩
          refine ⟨_, β, rfl, Ext.refl _, Newer.refl _ _ _, hW, ?_⟩
          show _ = _
          simp only [E.den, strV, digits2_eq h1]
      · exact absurd h (by simp)
    · exact absurd h (by simp)
  · exact absurd h (by simp)

/-- A function without arguments that answers true, with such calls. -/
def answersE (P : Program) (ext : ExtT) (n : Nat) (f : FuncId) : Bool := isTrue (callI (cx0 P) ext (run (cx0 P) ext n) f [] (fun _ => none) 0 [])
theorem calls_trueE {P : Program} (hname : namesOk P = true) {ext : ExtT} {n : Nat} {f : FuncId} (h : answersE P ext n f = true) (w : World) (hext : ExtOk ⟨w, [], gt0⟩ (cx0 P) (fun _ _ => []) ext) :
    Calls P f #[] w fun e w' => e = .returned (.bool true) ∧ Below w.heap.size w w' := by
  unfold answersE isTrue at h
  split at h
  · rename_i d hd
    split at h
    · rename_i hv
      have := calls_run (cx := cx0 P) (namesOk_spec hname) (xs := []) (w := w) rfl rfl hext hd (fits0 P) (fun p hp => by simp at hp) trivial
      refine this.mono ?_
      rintro e w' ⟨x, β', rfl, hx, hb⟩
      rw [hv] at hx
      have hx : x = _ := hx
      subst hx
      exact ⟨rfl, hb⟩
    · exact absurd h (by simp)
  · exact absurd h (by simp)
end Go.CX

/- CX: ways that part: a function's tree; calls that answer by a symbol. -/
namespace Go.CX
open Go Go.RowKit Go.SX

inductive Tr where
  | leaf (v : SV) | ite (c : E) (t e : Tr) | stuck
def treeD (cx : Cx) (ext : ExtT) (n D : Nat) (f : FuncId) (args : List SV) : Nat → Facts → Tr
  | 0, _ => .stuck
  | k + 1, fs => match callD cx ext (runD cx ext D n) D f args (fun _ => none) 0 fs with
    | .ok d => .leaf d.v
    | .split c => match cx.so c.strip with
      | .bool => .ite c.strip (treeD cx ext n D f args k (addF cx c.strip true fs)) (treeD cx ext n D f args k (addF cx c.strip false fs))
      | _ => .stuck
    | .stuck => .stuck
abbrev tree (cx : Cx) (ext : ExtT) (n : Nat) := treeD cx ext n 0
def Tr.all (ρ : Nat → Value) (φ : Nat → List Value → List Value) (K : SV → Prop) : Tr → Prop
  | .leaf v => K v
  | .ite c t e => (c.den ρ φ = .bool true → t.all ρ φ K) ∧ (c.den ρ φ = .bool false → e.all ρ φ K)
  | .stuck => False
def Tr.yes : Tr → Bool
  | .leaf v => match v with
    | .one ⟨false, [.e (.bool true)]⟩ => true
    | _ => false
  | .ite _ t e => t.yes && e.yes
  | .stuck => false
/-- One term at each end, a bool. -/
def Tr.bools (cx : Cx) (m : Nat) : Tr → Bool
  | .leaf v => match v with
    | .one ⟨false, [.e x]⟩ => (match cx.so x with | .bool => true | _ => false) && x.lt m
    | _ => false
  | .ite c t e => c.lt m && t.bools cx m && e.bools cx m
  | .stuck => false
def Tr.val (ρ : Nat → Value) (φ : Nat → List Value → List Value) : Tr → Value
  | .leaf v => match v with
    | .one ⟨false, [.e x]⟩ => x.den ρ φ
    | _ => undef
  | .ite c t e => if vbool (c.den ρ φ) then t.val ρ φ else e.val ρ φ
  | .stuck => undef

section
variable {ρ : Nat → Value} {φ : Nat → List Value → List Value} {cx : Cx} {ext : ExtT}
theorem tree_sound {gt : GT} (hct : cx.ct = []) (hname : ∀ (f : FuncId) (fn : Func), cx.P.funcs[f]? = some fn → (fn.name == "runtime.NumGoroutine") = false) {n D : Nat} {f : FuncId} {args : List SV} {xs : List Value} {w : World} (hvw : ∀ v ∈ cx.vw, VwC v ρ w) (hext : ExtOk ⟨w, cx.vw, gt⟩ cx φ ext)
    (F : Fits cx.Γ cx.S ρ φ) (ha : All2 (SV.is ρ φ fun _ => none) args xs) {R : Ending → World → Prop} : ∀ (k : Nat) (fs : Facts), fs.hold ρ φ →
    (treeD cx ext n D f args k fs).all ρ φ (fun v => ∀ x β' w', v.is ρ φ β' x → Below w.heap.size w w' → R (.returned x) w') → Calls cx.P f xs.toArray w R
  | 0, _, _, h => h.elim
  | k + 1, fs, hf, h => by
    have C : CtSound cx φ := by
      intro g hg
      rw [hct] at hg
      simp at hg
    unfold treeD at h
    split at h
    · rename_i d hd
      refine (calls_runV hname hct hvw hext (hk0_ok _ _ _) hd F hf ha).mono ?_
      rintro e w' ⟨x, β', rfl, hx, hb⟩
      exact h x β' w' hx hb
    · rename_i c hc
      split at h
      · rename_i hb
        have hbool := so_bool F hb
        have ht : vbool (c.strip.den ρ φ) = true ∨ vbool (c.strip.den ρ φ) = false := by cases vbool (c.strip.den ρ φ) <;> simp
        rcases ht with ht | ht
        · rw [ht] at hbool
          exact tree_sound hct hname hvw hext F ha k _ (addF_hold F C c.strip true hf hbool) (h.1 hbool)
        · rw [ht] at hbool
          exact tree_sound hct hname hvw hext F ha k _ (addF_hold F C c.strip false hf hbool) (h.2 hbool)
      · exact h.elim
    · exact h.elim
theorem Tr.yes_all {R : Ending → World → Prop} {w : World} (hR : ∀ w', Below w.heap.size w w' → R (.returned (.bool true)) w') : ∀ {T : Tr}, T.yes = true →
    T.all ρ φ (fun v => ∀ x β' w', v.is ρ φ β' x → Below w.heap.size w w' → R (.returned x) w')
  | .leaf v, h => by
    intro x β' w' hx hb
    unfold Tr.yes at h
    split at h
    · have hx : x = _ := hx
      subst hx
      exact hR w' hb
    · exact absurd h (by simp)
  | .ite c t e, h => by
    simp only [Tr.yes, Bool.and_eq_true] at h
    exact ⟨fun _ => yes_all hR h.1, fun _ => yes_all hR h.2⟩
  | .stuck, h => by simp [Tr.yes] at h
theorem Tr.bools_all (F : Fits cx.Γ cx.S ρ φ) {m : Nat} {R : Ending → World → Prop} {w : World} : ∀ {T : Tr}, T.bools cx m = true → (∀ w', Below w.heap.size w w' → R (.returned (T.val ρ φ)) w') →
    T.all ρ φ (fun v => ∀ x β' w', v.is ρ φ β' x → Below w.heap.size w w' → R (.returned x) w')
  | .leaf v, h, hR => by
    intro x β' w' hx hb
    unfold Tr.bools at h
    split at h
    · rename_i e
      have hx : x = e.den ρ φ := hx
      subst hx
      exact hR w' hb
    · exact absurd h (by simp)
  | .ite c t e, h, hR => by
    simp only [Tr.bools, Bool.and_eq_true] at h
    refine ⟨fun hc => bools_all F h.1.2 fun w' hb => ?_, fun hc => bools_all F h.2 fun w' hb => ?_⟩
    · have := hR w' hb
      simpa [Tr.val, hc] using this
    · have := hR w' hb
      simpa [Tr.val, hc] using this
  | .stuck, h, _ => by simp [Tr.bools] at h
theorem Tr.bools_bool (F : Fits cx.Γ cx.S ρ φ) {m : Nat} : ∀ {T : Tr}, T.bools cx m = true → ∃ b, T.val ρ φ = .bool b
  | .leaf v, h => by
    unfold Tr.bools at h
    split at h
    · rename_i e
      rw [Bool.and_eq_true] at h
      have h := h.1
      split at h
      · rename_i hb
        exact ⟨_, so_bool F hb⟩
      · exact absurd h (by simp)
    · exact absurd h (by simp)
  | .ite c t e, h => by
    simp only [Tr.bools, Bool.and_eq_true] at h
    obtain ⟨b1, h1⟩ := bools_bool F h.1.2
    obtain ⟨b2, h2⟩ := bools_bool F h.2
    simp only [Tr.val]
    split
    · exact ⟨b1, h1⟩
    · exact ⟨b2, h2⟩
  | .stuck, h => by simp [Tr.bools] at h
end

/-! ### Calls that answer by a symbol: of cells that are terms -/
/-- An argument: many cells or one; their sorts. -/
structure Con where
  f : FuncId
  sym : Nat
  ps : List (Bool × List So)
def exsC : List SC → Option (List E)
  | [] => some []
  | .e x :: cs => (exsC cs).map (x :: ·)
  | _ => none
def flatC (cx : Cx) : List (Bool × List So) → List SV → Option (List E)
  | [], [] => some []
  | (a, ss) :: ps, .one ⟨a', cs⟩ :: svs => if a == a' then (match exsC cs, flatC cx ps svs with
    | some es, some r => if soOk cx ss es && (a || Nat.beq ss.length 1) then some (es ++ r) else none
    | _, _ => none) else none
  | _, _ => none
/-- What comes in, cell by cell. -/
def packs : List (Bool × List So) → List Value → List Value → Prop
  | [], [], fl => fl = []
  | (a, ss) :: ps, x :: xs, fl => ∃ f1 f2, fl = f1 ++ f2 ∧ All2 So.has ss f1 ∧ (if a then x = .agg f1.toArray else f1 = [x]) ∧ packs ps xs f2
  | _, _, _ => False
def conX (cx : Cx) (g : Con) : ExtT := fun f args _ n _ => if Nat.beq f g.f then (match flatC cx g.ps args with
  | some es => some (.ok ⟨.one ⟨false, [.e (.app g.sym 0 (toL es))]⟩, [], n⟩)
  | none => none) else none
section
variable {ρ : Nat → Value} {φ : Nat → List Value → List Value} {cx : Cx}
theorem exsC_is {β : Bk} : ∀ {cs : List SC} {es : List E} {vs : List Value}, exsC cs = some es → All2 (SC.is ρ φ β) cs vs → vs = es.map (·.den ρ φ)
  | [], es, vs, h, ha => by
    simp only [exsC, Option.some.injEq] at h
    subst h
    cases vs with
    | nil => rfl
    | cons _ _ => exact ha.elim
  | .e x :: cs, es, vs, h, ha => by
    simp only [exsC, Option.map_eq_some_iff] at h
    obtain ⟨es', he, rfl⟩ := h
    cases vs with
    | nil => exact ha.elim
    | cons v vs =>
      have h1 : v = x.den ρ φ := ha.1
      rw [h1, exsC_is he ha.2]
      rfl
  | .any :: _, _, _, h, _ => by simp [exsC] at h
  | .ptr _ _ :: _, _, _, h, _ => by simp [exsC] at h
  | .slc _ _ _ _ :: _, _, _, h, _ => by simp [exsC] at h
  | .sla _ _ _ _ :: _, _, _, h, _ => by simp [exsC] at h
  | .vad _ _ _ _ :: _, _, _, h, _ => by simp [exsC] at h
  | .vsl _ _ :: _, _, _, h, _ => by simp [exsC] at h
  | .nul :: _, _, _, h, _ => by simp [exsC] at h
theorem soOk_has (F : Fits cx.Γ cx.S ρ φ) : ∀ {ss : List So} {es : List E}, soOk cx ss es = true → All2 So.has ss (es.map (·.den ρ φ))
  | [], [], _ => trivial
  | s :: ss, x :: xs, h => by
    simp only [soOk, Bool.and_eq_true] at h
    exact ⟨has_of F h.1, soOk_has F h.2⟩
  | [], _ :: _, h => by simp [soOk] at h
  | _ :: _, [], h => by simp [soOk] at h
theorem flatC_is (F : Fits cx.Γ cx.S ρ φ) {β : Bk} : ∀ {ps : List (Bool × List So)} {svs : List SV} {es : List E} {xs : List Value}, flatC cx ps svs = some es → All2 (SV.is ρ φ β) svs xs → packs ps xs (es.map (·.den ρ φ))
  | [], [], es, xs, h, ha => by
    simp only [flatC, Option.some.injEq] at h
    subst h
    cases xs with
    | nil => rfl
    | cons _ _ => exact ha.elim
  | (a, ss) :: ps, .one ⟨a', cs⟩ :: svs, es, xs, h, ha => by
    simp only [flatC] at h
    split at h
    · rename_i haa
      have haa : a = a' := by simpa using haa
      subst haa
      split at h
      · rename_i e1 r he hr
        split at h
        · rename_i hso
          rw [Bool.and_eq_true] at hso
          simp only [Option.some.injEq] at h
          subst h
          cases xs with
          | nil => exact ha.elim
          | cons x xs =>
            refine ⟨e1.map (·.den ρ φ), r.map (·.den ρ φ), by simp, soOk_has F hso.1, ?_, flatC_is F hr ha.2⟩
            cases a with
            | true =>
              obtain ⟨vs, hx, hv⟩ := ha.1
              rw [if_pos rfl, hx, exsC_is he hv]
            | false =>
              rw [if_neg (by simp)]
              have hx := ha.1
              match cs, hx, he with
              | [c], hx, he =>
                have hx : c.is ρ φ β x := hx
                have := exsC_is (vs := [x]) he ⟨hx, trivial⟩
                exact this.symm
        · exact absurd h (by simp)
      · exact absurd h (by simp)
    · exact absurd h (by simp)
  | [], _ :: _, _, _, h, _ => by simp [flatC] at h
  | _ :: _, [], _, _, h, _ => by simp [flatC] at h
  | _ :: _, .tup _ :: _, _, _, h, _ => by simp [flatC] at h
  | _ :: _, .fn _ _ _ :: _, _, _, h, _ => by simp [flatC] at h
end
/-- The call answers as the symbol says. -/
def Con.Sound (g : Con) (P : Program) (φ : Nat → List Value → List Value) : Prop := Enters P g.f ∧ ∀ (w : World) (xs fl : List Value), packs g.ps xs fl → Calls P g.f xs.toArray w fun e w' => e = .returned ((φ g.sym fl).getD 0 undef) ∧ Below w.heap.size w w'
theorem conX_ok {ws : Base} {cx : Cx} {φ : Nat → List Value → List Value} {g : Con} (hg : g.Sound cx.P φ) : ExtOk ws cx φ (conX cx g) := by
  intro f svs B n fs d h ρ β w xs N F hf hW hn ha
  unfold conX at h
  split at h
  · rename_i he
    have he := Nat.eq_of_beq_eq_true he
    subst he
    split at h
    · rename_i es hes
      simp only [Option.some.injEq, OR.ok.injEq] at h
      subst h
      refine ⟨hg.1 _ _, (hg.2 w xs _ (flatC_is F hes ha)).mono ?_⟩
      rintro e w' ⟨rfl, hb⟩
      refine ⟨_, β, rfl, Ext.refl _, Newer.refl _ _ _, hW.grow hb, ?_⟩
      show _ = _
      simp only [E.den, toL_dens]
    · exact absurd h (by simp)
  · exact absurd h (by simp)

/-! ### Calls that answer a literal truth -/
def boolX (f : FuncId) (T : List SV → Option Bool) : ExtT := fun g args _ n _ => if Nat.beq g f then (match T args with
  | some b => some (.ok ⟨.one ⟨false, [.e (.bool b)]⟩, [], n⟩)
  | none => none) else none
theorem boolX_ok {ws : Base} {cx : Cx} {φ : Nat → List Value → List Value} {f : FuncId} {T : List SV → Option Bool} (hin : Enters cx.P f)
    (hc : ∀ (svs : List SV) (b : Bool) (ρ : Nat → Value) (β : Bk) (xs : List Value) (w : World), T svs = some b → Fits cx.Γ cx.S ρ φ → All2 (SV.is ρ φ β) svs xs → (∀ k, k < ws.heap.size → w.heap[k]? = ws.heap[k]?) →
      Calls cx.P f xs.toArray w fun e w' => e = .returned (.bool b) ∧ Below w.heap.size w w') : ExtOk ws cx φ (boolX f T) := by
  intro g svs B n fs d h ρ β w xs N F hf hW hn ha
  unfold boolX at h
  split at h
  · rename_i he
    have he := Nat.eq_of_beq_eq_true he
    subst he
    split at h
    · rename_i b hb
      simp only [Option.some.injEq, OR.ok.injEq] at h
      subst h
      refine ⟨hin _ _, (hc svs b ρ β xs w hb F ha (fun k hk => hW.o.base.1 k hk)).mono ?_⟩
      rintro e w' ⟨rfl, hbl⟩
      exact ⟨_, β, rfl, Ext.refl _, Newer.refl _ _ _, hW.grow hbl, rfl⟩
    · exact absurd h (by simp)
  · exact absurd h (by simp)
def noArgs : List SV → Option Bool
  | [] => some true
  | _ => none
end Go.CX
