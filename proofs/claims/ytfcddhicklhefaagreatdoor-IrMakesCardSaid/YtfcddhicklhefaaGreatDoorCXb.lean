/- CX: what reads only: numbers, cells, structs, addresses, slices. -/
import Derived.Test.YtfcddhicklhefaaGreatDoorCXa
namespace Go.CX
open Go Go.RowKit Go.SX

/-- What a state says of a frame and a world. -/
structure M (ρ : Nat → Value) (φ : Nat → List Value → List Value) (fx : Fx) (L : LK) (B : BK) (β : Bk) (a : Act) (w : World) : Prop where
  tmps : ∀ t s, L t = some s → ∃ x, a.tmps[t]? = some x ∧ s.is ρ φ β x
  size : a.tmps.size = fx.N
  dfr : a.defers = []
  wld : W ρ φ fx B β w

def ofX (n : Nat) : SX.OR → OR
  | .ok d => match d.v with
    | .one ⟨false, [.e z]⟩ => vE n z
    | _ => .stuck
  | .split c => .split c
  | .stuck => .stuck

/-- Cells that are terms, as SX has them. -/
def toX : List SC → Option (List SX.SC)
  | [] => some []
  | .e x :: cs => (toX cs).map (.e x :: ·)
  | _ => none
def partX (p : Part) : Option SX.Part := (toX p.cs).map fun cs => ⟨p.agg, cs⟩

def listE : List SC → Option E
  | [] => some .nil
  | .e x :: cs => (listE cs).map (.cons x ·)
  | _ => none
def loadX (cx : Cx) (B : BK) (n0 : Nat) (t : TypeId) (c : SC) : OR :=
  match c, tyx cx.P t with
  | .ptr id off, some (agg, n) =>
    match B id with
    | some row =>
      if agg then (match (row.drop off).take n with
        | cs => if Nat.beq cs.length n then vV n0 (.one ⟨true, cs⟩) else .stuck)
      else match row[off]? with
        | some c => vC n0 c
        | none => .stuck
    | none => .stuck
  | _, _ => .stuck
def fieldAddrX (cx : Cx) (n0 : Nat) (s : TypeId) (c : SC) (f : Nat) : OR :=
  match c, cx.P.underlying s with
  | .ptr id off, some (.struct fs) =>
    match fs[f]? with
    | some fld => match tyx cx.P fld.type with
      | some (_, n) => if Nat.beq n 0 then .stuck else vC n0 (.ptr id (off + fld.offset))
      | none => .stuck
    | none => .stuck
  | _, _ => .stuck
def fieldX (cx : Cx) (n0 : Nat) (s : TypeId) (v : SV) (f : Nat) : OR :=
  match v, cx.P.underlying s with
  | .one ⟨true, cs⟩, some (.struct fs) =>
    match fs[f]? with
    | some fld => match tyx cx.P fld.type with
      | some (true, n) => vV n0 (.one ⟨true, (cs.drop fld.offset).take n⟩)
      | some (false, _) => match cs[fld.offset]? with
        | some c => vC n0 c
        | none => .stuck
      | none => .stuck
    | none => .stuck
  | _, _ => .stuck
def indexAddrX (cx : Cx) (n0 : Nat) (t : TypeId) (c : SC) (i : E) : OR :=
  match c, cx.P.underlying t, i with
  | .slc id off len _, some (.slice e), .int _ (.ofNat j) =>
    match tyx cx.P e with
    | some (_, n) => if Nat.blt j len then vC n0 (.ptr id (off + j * n)) else .stuck
    | none => .stuck
  | .sla id off len _, some (.slice e), .int _ (.ofNat j) =>
    match tyx cx.P e with
    | some (_, n) => if Nat.blt j len then vC n0 (.ptr id (off + j * n)) else .stuck
    | none => .stuck
  | .ptr id off, some (.array len e), .int _ (.ofNat j) =>
    match tyx cx.P e with
    | some (_, n) => if Nat.blt j len then vC n0 (.ptr id (off + j * n)) else .stuck
    | none => .stuck
  | _, _, _ => .stuck
def litN : Option E → Option (Option Nat)
  | none => some none
  | some (.int _ (.ofNat n)) => some (some n)
  | some _ => none
/-- [l:h:m] of a slice whose capacity is known. -/
def cutK (n0 id off len cap n : Nat) (l h m : Option Nat) : OR :=
  match m, h with
  | none, h => cutK2 (h.getD len) (l.getD 0)
  | some m, some h => cutK3 m h (l.getD 0)
  | _, _ => .stuck
 where
  cutK2 (h l : Nat) : OR := if Nat.ble h cap && Nat.ble l h then vC n0 (.slc id (if Nat.beq cap l then off else off + l * n) (h - l) (cap - l)) else .stuck
  cutK3 (m h l : Nat) : OR := if Nat.ble m cap && Nat.ble h m && Nat.ble l h then vC n0 (.slc id (if Nat.beq m l then off else off + l * n) (h - l) (m - l)) else .stuck
/-- The same of one whose capacity is not known. -/
def cutU (n0 id off len sz n : Nat) (l h m : Option Nat) : OR :=
  match m, h with
  | none, h => cutU2 (h.getD len) (l.getD 0)
  | some m, some h => cutU3 m h (l.getD 0)
  | _, _ => .stuck
 where
  cutU2 (h l : Nat) : OR := if Nat.ble h len && Nat.blt l h && Nat.beq sz n then vC n0 (.sla id (off + l * n) (h - l) sz)
      else if Nat.ble h len && Nat.beq l 0 && Nat.blt 0 len then vC n0 (.sla id off h sz) else if Nat.ble h len && Nat.beq l h then vC n0 .nul else .stuck
  cutU3 (m h l : Nat) : OR := if Nat.ble m len && Nat.ble h m && Nat.ble l h then vC n0 (.slc id (if Nat.beq m l then off else off + l * n) (h - l) (m - l)) else .stuck
def sliceX (cx : Cx) (n0 : Nat) (t : TypeId) (c : SC) (lo hi mx : Option E) : OR :=
  match litN lo, litN hi, litN mx with
  | some l, some h, some m =>
    match c, cx.P.underlying t with
    | .slc id off len cap, some (.slice e) =>
      match tyx cx.P e with
      | some (_, n) => cutK n0 id off len cap n l h m
      | none => .stuck
    | .sla id off len sz, some (.slice e) =>
      match tyx cx.P e with
      | some (_, n) => cutU n0 id off len sz n l h m
      | none => .stuck
    | .ptr id off, some (.array k e) =>
      match tyx cx.P e with
      | some (_, n) => cutK n0 id off k k n l h m
      | none => .stuck
    | _, _ => .stuck
  | _, _, _ => .stuck
def extractX (n0 : Nat) (v : SV) (i : Nat) : OR :=
  match v with
  | .tup ps => match ps[i]? with
    | some p => vV n0 (.one p)
    | none => .stuck
  | _ => .stuck
def lenX (cx : Cx) (n0 : Nat) (t : TypeId) (c : SC) : OR :=
  match c, cx.P.underlying t with
  | .slc _ _ len _, some (.slice _) => vE n0 (.int .i64 (Int.ofNat len))
  | .sla _ _ len _, some (.slice _) => vE n0 (.int .i64 (Int.ofNat len))
  | .e (.val (.slice none 0 0)), some (.slice _) => vE n0 (.int .i64 0)
  | .e x, some .string => match cx.so x with
    | .str => vE n0 (mkLen x)
    | _ => .stuck
  | _, _ => .stuck
/-- Is it nil: of an address, of a slice. -/
def nilX (cx : Cx) (t : TypeId) (x y : SC) : Option Bool :=
  match cx.P.underlying t, x, y with
  | some (.pointer _), .ptr _ _, .e (.val (.pointer none)) => some false
  | some (.pointer _), .e (.val (.pointer none)), .e (.val (.pointer none)) => some true
  | some (.slice _), .slc _ _ _ _, .e (.val (.slice none 0 0)) => some false
  | some (.slice _), .sla _ _ _ _, .e (.val (.slice none 0 0)) => some false
  | some (.slice _), .e (.val (.slice none 0 0)), .e (.val (.slice none 0 0)) => some true
  | _, _, _ => none
def nilOpX (cx : Cx) (n0 : Nat) (t : TypeId) (op : BinOp) (x y : SC) : OR :=
  match nilX cx t x y, op with
  | some b, .eql => vE n0 (.bool b)
  | some b, .neq => vE n0 (.bool !b)
  | _, _ => .stuck

/-- What reads only. -/
def Reads (ρ : Nat → Value) (φ : Nat → List Value → List Value) (β : Bk) (P : Program) (w : World) (n0 : Nat) (d : Out) (s : Sem Value) : Prop :=
  d.dl = [] ∧ d.next = n0 ∧ ∃ x, s.run P w = .ok x w ∧ d.v.is ρ φ β x

section
variable {ρ : Nat → Value} {φ : Nat → List Value → List Value} {cx : Cx} {fx : Fx} {L : LK} {B : BK} {β : Bk} {a : Act} {w : World} {n0 : Nat}
theorem vE_ok {x : E} {d : Out} (h : vE n0 x = .ok d) : d = ⟨.one ⟨false, [.e x]⟩, [], n0⟩ := by
  unfold vE at h
  simp only [OR.ok.injEq] at h
  exact h.symm
theorem vC_ok {c : SC} {d : Out} (h : vC n0 c = .ok d) : d = ⟨.one ⟨false, [c]⟩, [], n0⟩ := by
  unfold vC at h
  simp only [OR.ok.injEq] at h
  exact h.symm
theorem vV_ok {s : SV} {d : Out} (h : vV n0 s = .ok d) : d = ⟨s, [], n0⟩ := by
  unfold vV at h
  simp only [OR.ok.injEq] at h
  exact h.symm
theorem opd_is (H : M ρ φ fx L B β a w) {x : Operand} {s : SV} (h : opd L x = some s) : s.is ρ φ β (a.eval x) := by
  cases x with
  | tmp t =>
    obtain ⟨v, hv, hs⟩ := H.tmps t s h
    simp only [Act.eval, Array.getD_eq_getD_getElem?, hv, Option.getD_some]
    exact hs
  | const v => simp only [opd, Option.some.injEq] at h; subst h; exact constSV_is v
  | global g => simp [opd] at h
  | func f => simp only [opd, Option.some.injEq] at h; subst h; exact ⟨[], [], rfl, trivial, trivial⟩
theorem exIs (H : M ρ φ fx L B β a w) {x : Operand} {e : E} (h : (opd L x).bind SV.ex = some e) : a.eval x = e.den ρ φ := by
  simp only [Option.bind_eq_some_iff] at h
  obtain ⟨s, hs, he⟩ := h
  exact SV.ex_is he (opd_is H hs)
theorem scIs (H : M ρ φ fx L B β a w) {x : Operand} {c : SC} (h : (opd L x).bind SV.sc = some c) : c.is ρ φ β (a.eval x) := by
  simp only [Option.bind_eq_some_iff] at h
  obtain ⟨s, hs, he⟩ := h
  exact SV.sc_is he (opd_is H hs)
theorem does_reads (H : M ρ φ fx L B β a w) {o : Oper} {d : Out} {s : Sem Value} (hr : Reads ρ φ β cx.P w n0 d s) (ho : (execOp a.eval o) = (do pure (.value (← s)))) :
    Does ρ φ cx.P fx B o a w β n0 d := by
  obtain ⟨h1, h2, x, hx, hv⟩ := hr
  obtain ⟨v, dl, nx⟩ := d
  simp only at h1 h2
  subst h1 h2
  exact does_val H.wld (by rw [ho]; simp [hx]) hv
theorem ofX_ok {r : SX.OR} {d : Out} (h : ofX n0 r = .ok d) : ∃ z d0, r = .ok d0 ∧ d0.v = .one ⟨false, [.e z]⟩ ∧ d = ⟨.one ⟨false, [.e z]⟩, [], n0⟩ := by
  unfold ofX at h
  split at h
  · rename_i d0
    split at h
    · rename_i z hz
      exact ⟨z, d0, rfl, hz, vE_ok h⟩
    · exact absurd h (by simp)
  · exact absurd h (by simp)
  · exact absurd h (by simp)
/-- What SX's own operations say of terms holds here. -/
theorem ofX_reads {r : SX.OR} {d : Out} {s : Sem Value} (h : ofX n0 r = .ok d) (hr : ∀ d0, r = .ok d0 → ∃ x, s.run cx.P w = .ok x w ∧ d0.v.is ρ φ (fun _ => none) x) : Reads ρ φ β cx.P w n0 d s := by
  obtain ⟨z, d0, h1, h2, rfl⟩ := ofX_ok h
  obtain ⟨x, hx, hv⟩ := hr d0 h1
  rw [h2] at hv
  exact ⟨rfl, rfl, x, hx, hv⟩
theorem toX_is : ∀ {cs : List SC} {ds : List SX.SC}, toX cs = some ds → ∀ {vs : List Value}, All2 (SC.is ρ φ β) cs vs → All2 (SX.SC.is ρ φ fun _ => none) ds vs
  | [], ds, h, vs, ha => by simp only [toX, Option.some.injEq] at h; subst h; cases vs with | nil => trivial | cons _ _ => exact ha.elim
  | .e x :: cs, ds, h, vs, ha => by
    simp only [toX, Option.map_eq_some_iff] at h
    obtain ⟨ds', hd, rfl⟩ := h
    cases vs with
    | nil => exact ha.elim
    | cons v vs => exact ⟨ha.1, toX_is hd ha.2⟩
  | .any :: _, _, h, _, _ => by simp [toX] at h
  | .ptr _ _ :: _, _, h, _, _ => by simp [toX] at h
  | .slc _ _ _ _ :: _, _, h, _, _ => by simp [toX] at h
  | .sla _ _ _ _ :: _, _, h, _, _ => by simp [toX] at h
  | .vad _ _ _ _ :: _, _, h, _, _ => by simp [toX] at h
  | .vsl _ _ :: _, _, h, _, _ => by simp [toX] at h
  | .nul :: _, _, h, _, _ => by simp [toX] at h
theorem partX_is {p : Part} {q : SX.Part} (h : partX p = some q) {v : Value} (hp : p.is ρ φ β v) : (SX.SV.one q).is ρ φ (fun _ => none) v := by
  unfold partX at h
  simp only [Option.map_eq_some_iff] at h
  obtain ⟨ds, hd, rfl⟩ := h
  obtain ⟨agg, cs⟩ := p
  cases agg with
  | true =>
    obtain ⟨vs, rfl, ha⟩ := hp
    exact ⟨vs, rfl, toX_is hd ha⟩
  | false =>
    match cs, hp, hd with
    | [c], hp, hd =>
      have hp : c.is ρ φ β v := hp
      have := toX_is (vs := [v]) hd ⟨hp, trivial⟩
      match ds, this with
      | [e], this => exact this.1

theorem loadX_run (H : M ρ φ fx L B β a w) {t : TypeId} {c : SC} {d : Out} {v : Value} (h : loadX cx B n0 t c = .ok d) (hc : c.is ρ φ β v) :
    Reads ρ φ β cx.P w n0 d (Instr.loadAt t v) := by
  unfold loadX at h
  split at h
  · rename_i id off agg n ht
    obtain ⟨b, n', hb, rfl⟩ := hc
    have htr := tyx_run ht
    split at h
    · rename_i row hr
      obtain ⟨arr, T, h1, h2, h3, h4, h5⟩ := H.wld.rows hr hb
      have hcell : ∀ o, w.cell? ⟨b, o, none⟩ = arr[o]? := fun o => by simp [World.cell?, h2]
      split at h
      · rename_i hagg
        subst hagg
        simp only at h
        split at h
        · rename_i hn
          have hn := Nat.eq_of_beq_eq_true hn
          have := vV_ok h
          subst this
          have hall := (h5.drop off).take n
          refine ⟨rfl, rfl, .agg (((arr.toList.take row.length).drop off).take n).toArray, ?_, _, rfl, hall⟩
          have hl := run_loadCells_list (P := cx.P) w ⟨b, off, none⟩ (((arr.toList.take row.length).drop off).take n) (fun j u hj => by
            rw [Addr.add_lit, hcell]
            rw [List.getElem?_take] at hj
            split at hj
            · rw [List.getElem?_drop, List.getElem?_take] at hj
              split at hj
              · simpa using hj
              · simp at hj
            · simp at hj)
          rw [← hall.length, hn] at hl
          simp [Instr.loadAt, Instr.sureAddr, loadVar, htr, hl]
        · exact absurd h (by simp)
      · rename_i hagg
        have hagg : agg = false := by simpa using hagg
        subst hagg
        split at h
        · rename_i c hrow
          have := vC_ok h
          subst this
          obtain ⟨u, hu, hcu⟩ := h5.get hrow
          have hu' : arr[off]? = some u := by
            rw [List.getElem?_take] at hu
            split at hu
            · simpa using hu
            · simp at hu
          refine ⟨rfl, rfl, u, ?_, hcu⟩
          simp [Instr.loadAt, Instr.sureAddr, loadVar, htr, hcell, hu']
        · exact absurd h (by simp)
    · exact absurd h (by simp)
  · exact absurd h (by simp)

theorem fieldAddrX_run {s : TypeId} {c : SC} {f : Nat} {d : Out} {v : Value} (h : fieldAddrX cx n0 s c f = .ok d) (hc : c.is ρ φ β v) :
    Reads ρ φ β cx.P w n0 d (Instr.fieldAt s v f) := by
  unfold fieldAddrX at h
  split at h
  · rename_i id off fs hu
    obtain ⟨b, n', hb, rfl⟩ := hc
    split at h
    · rename_i fld hfld
      split at h
      · rename_i ag n ht
        split at h
        · exact absurd h (by simp)
        · rename_i hn
          have hn : n ≠ 0 := by
            intro e; subst e; simp at hn
          have := vC_ok h
          subst this
          refine ⟨rfl, rfl, .pointer (some ⟨b, off + fld.offset, none⟩), ?_, b, n', hb, rfl⟩
          simp [Instr.fieldAt, run_underlying hu, hfld, Instr.sureAddr, fieldPlace, (tyx_run ht _).2, hn, Addr.add_lit]
      · exact absurd h (by simp)
    · exact absurd h (by simp)
  · exact absurd h (by simp)

theorem fieldX_run {s : TypeId} {v : SV} {f : Nat} {d : Out} {x : Value} (h : fieldX cx n0 s v f = .ok d) (hv : v.is ρ φ β x) :
    Reads ρ φ β cx.P w n0 d (Instr.field s x f) := by
  unfold fieldX at h
  split at h
  · rename_i cs fs hu
    obtain ⟨vs, rfl, ha⟩ := hv
    split at h
    · rename_i fld hfld
      split at h
      · rename_i n ht
        have := vV_ok h
        subst this
        refine ⟨rfl, rfl, .agg ((vs.drop fld.offset).take n).toArray, ?_, _, rfl, (ha.drop _).take n⟩
        simp only [Instr.field, Sem.run_bind, run_underlying hu, Result.andThen_ok, hfld, asAgg, Sem.run_pure, part, (tyx_run ht _).1, if_true, (tyx_run ht _).2]
        congr 2
        apply Array.ext'
        simp [List.take_drop, Nat.add_sub_cancel_left]
      · rename_i n ht
        split at h
        · rename_i c hc
          have := vC_ok h
          subst this
          obtain ⟨u, hu', hcu⟩ := ha.get hc
          refine ⟨rfl, rfl, u, ?_, hcu⟩
          simp [Instr.field, run_underlying hu, hfld, asAgg, part, (tyx_run ht _).1, hu']
        · exact absurd h (by simp)
      · exact absurd h (by simp)
    · exact absurd h (by simp)
  · exact absurd h (by simp)

theorem blt_lt {a b : Nat} (h : Nat.blt a b = true) : a < b := by unfold Nat.blt at h; exact Nat.lt_of_succ_le (Nat.le_of_ble_eq_true h)

theorem indexAddrX_run {t : TypeId} {c : SC} {i : E} {d : Out} {v : Value} (h : indexAddrX cx n0 t c i = .ok d) (hc : c.is ρ φ β v) :
    Reads ρ φ β cx.P w n0 d (Instr.indexAt t v (i.den ρ φ)) := by
  unfold indexAddrX at h
  split at h
  · rename_i id off len cap e k j hu
    obtain ⟨b, n', hb, rfl⟩ := hc
    split at h
    · rename_i ag n ht
      split at h
      · rename_i hj
        have hj := blt_lt hj
        have := vC_ok h
        subst this
        refine ⟨rfl, rfl, .pointer (some ⟨b, off + j * n, none⟩), ?_, b, n', hb, rfl⟩
        simp only [E.den, Instr.indexAt, Sem.run_bind, run_underlying hu, Result.andThen_ok, asIntOf, Sem.run_pure]
        simp [Addr.add_lit, hj, (tyx_run ht _).2]
      · exact absurd h (by simp)
    · exact absurd h (by simp)
  · rename_i id off len sz e k j hu
    obtain ⟨b, n', cap, hb, rfl, _⟩ := hc
    split at h
    · rename_i ag n ht
      split at h
      · rename_i hj
        have hj := blt_lt hj
        have := vC_ok h
        subst this
        refine ⟨rfl, rfl, .pointer (some ⟨b, off + j * n, none⟩), ?_, b, n', hb, rfl⟩
        simp only [E.den, Instr.indexAt, Sem.run_bind, run_underlying hu, Result.andThen_ok, asIntOf, Sem.run_pure]
        simp [Addr.add_lit, hj, (tyx_run ht _).2]
      · exact absurd h (by simp)
    · exact absurd h (by simp)
  · rename_i id off len e k j hu
    obtain ⟨b, n', hb, rfl⟩ := hc
    split at h
    · rename_i ag n ht
      split at h
      · rename_i hj
        have hj := blt_lt hj
        have := vC_ok h
        subst this
        refine ⟨rfl, rfl, .pointer (some ⟨b, off + j * n, none⟩), ?_, b, n', hb, rfl⟩
        simp only [E.den, Instr.indexAt, Sem.run_bind, run_underlying hu, Result.andThen_ok, asIntOf, Sem.run_pure]
        simp [Addr.add_lit, hj, Instr.sureAddr, (tyx_run ht _).2]
      · exact absurd h (by simp)
    · exact absurd h (by simp)
  · exact absurd h (by simp)

theorem litN_is {e : Option E} {n : Option Nat} (h : litN e = some n) : ∃ k : Nat → IntKind, e.map (·.den ρ φ) = n.map fun m => .int (k m) (Int.ofNat m) := by
  unfold litN at h
  split at h
  · simp only [Option.some.injEq] at h; subst h; exact ⟨fun _ => .i64, rfl⟩
  · rename_i k m
    simp only [Option.some.injEq] at h; subst h; exact ⟨fun _ => k, rfl⟩
  · exact absurd h (by simp)

theorem bound_opt {n : Option Nat} {k : Nat → IntKind} {y dflt : Nat} (code : BoundsCode) (h : n.getD dflt ≤ y) (s : Sem Nat) (hs : s.run cx.P w = .ok dflt w) : (match n.map (fun m => Value.int (k m) (Int.ofNat m)) with
    | some v => Instr.sliceBound v y code | none => s : Sem Nat).run cx.P w = .ok (n.getD dflt) w := by
  cases n with
  | none => exact hs
  | some m => exact SX.bound_ok code h

theorem beq_if {x y : Nat} {α : Type} (p q : α) : (if Nat.beq x y then p else q) = if x = y then p else q := by
  by_cases e : x = y
  · subst e; simp
  · have : Nat.beq x y = false := by
      cases hq : Nat.beq x y with
      | false => rfl
      | true => exact absurd (Nat.eq_of_beq_eq_true hq) e
    simp [e, this]

section
variable {lo hi mx : Option E} {l h m : Option Nat}
theorem bounds2 (hl : litN lo = some l) (hh : litN hi = some h) (s : Bool) (len cap : Nat) (h1 : h.getD len ≤ cap) (h2 : l.getD 0 ≤ h.getD len) :
    (Instr.sliceBounds s len cap (lo.map (·.den ρ φ)) (hi.map (·.den ρ φ)) none).run cx.P w = .ok (l.getD 0, h.getD len, cap) w := by
  obtain ⟨k1, e1⟩ := litN_is (ρ := ρ) (φ := φ) hl
  obtain ⟨k2, e2⟩ := litN_is (ρ := ρ) (φ := φ) hh
  rw [e1, e2]
  cases h <;> cases l <;> simp only [Option.getD_some, Option.getD_none] at h1 h2 ⊢ <;> simp only [Instr.sliceBounds, Option.map_some, Option.map_none, Sem.run_bind, Sem.run_pure, Result.andThen_ok, SX.bound_ok _ h1, SX.bound_ok _ h2]
theorem bounds3 {h m : Nat} (hl : litN lo = some l) (hh : litN hi = some (some h)) (hm : litN mx = some (some m)) (s : Bool) (len cap : Nat) (h0 : m ≤ cap) (h1 : h ≤ m) (h2 : l.getD 0 ≤ h) :
    (Instr.sliceBounds s len cap (lo.map (·.den ρ φ)) (hi.map (·.den ρ φ)) (mx.map (·.den ρ φ))).run cx.P w = .ok (l.getD 0, h, m) w := by
  obtain ⟨k1, e1⟩ := litN_is (ρ := ρ) (φ := φ) hl
  obtain ⟨k2, e2⟩ := litN_is (ρ := ρ) (φ := φ) hh
  obtain ⟨k3, e3⟩ := litN_is (ρ := ρ) (φ := φ) hm
  rw [e1, e2, e3]
  cases l <;> simp only [Option.getD_some, Option.getD_none] at h2 ⊢ <;> simp only [Instr.sliceBounds, Option.map_some, Option.map_none, Sem.run_bind, Sem.run_pure, Result.andThen_ok, SX.bound_ok _ h0, SX.bound_ok _ h1, SX.bound_ok _ h2]

theorem litN_none (hm : litN mx = some none) : mx = none := by
  unfold litN at hm
  split at hm <;> simp_all

theorem cutK_run {t : TypeId} {id off len cap n b n' : Nat} {d : Out} (hb : β id = some (b, n')) (hl : litN lo = some l) (hh : litN hi = some h) (hm : litN mx = some m) (hc : cutK n0 id off len cap n l h m = .ok d) (s : Bool) (v : Value)
    (hs : ∀ r : Nat × Nat × Nat, (Instr.sliceBounds s len cap (lo.map (·.den ρ φ)) (hi.map (·.den ρ φ)) (mx.map (·.den ρ φ))).run cx.P w = .ok r w →
      (Instr.sliceAt t v (lo.map (·.den ρ φ)) (hi.map (·.den ρ φ)) (mx.map (·.den ρ φ))).run cx.P w = .ok (.slice (some (if r.2.2 = r.1 then ⟨b, off, none⟩ else ⟨b, off + r.1 * n, none⟩)) (r.2.1 - r.1) (r.2.2 - r.1)) w) :
    Reads ρ φ β cx.P w n0 d (Instr.sliceAt t v (lo.map (·.den ρ φ)) (hi.map (·.den ρ φ)) (mx.map (·.den ρ φ))) := by
  unfold cutK at hc
  split at hc
  · unfold cutK.cutK2 at hc
    split at hc
    · rename_i hcond
      rw [Bool.and_eq_true] at hcond
      have h1 := Nat.le_of_ble_eq_true hcond.1
      have h2 := Nat.le_of_ble_eq_true hcond.2
      have := vC_ok hc
      subst this
      have := litN_none hm
      subst this
      refine ⟨rfl, rfl, _, hs _ (bounds2 hl hh s len cap h1 h2), b, n', hb, ?_⟩
      rw [beq_if]
      simp only
      split <;> rfl
    · exact absurd hc (by simp)
  · unfold cutK.cutK3 at hc
    split at hc
    · rename_i hcond
      rw [Bool.and_eq_true, Bool.and_eq_true] at hcond
      have h0 := Nat.le_of_ble_eq_true hcond.1.1
      have h1 := Nat.le_of_ble_eq_true hcond.1.2
      have h2 := Nat.le_of_ble_eq_true hcond.2
      have := vC_ok hc
      subst this
      refine ⟨rfl, rfl, _, hs _ (bounds3 hl hh hm s len cap h0 h1 h2), b, n', hb, ?_⟩
      rw [beq_if]
      simp only
      split <;> rfl
    · exact absurd hc (by simp)
  · exact absurd hc (by simp)
theorem cutU_run {t : TypeId} {id off len cap sz n b n' : Nat} {d : Out} (hb : β id = some (b, n')) (hlc : len ≤ cap) (hcm : cap ≤ maxLen) (hfit : off + cap * sz ≤ n') (hl : litN lo = some l) (hh : litN hi = some h) (hm : litN mx = some m) (hc : cutU n0 id off len sz n l h m = .ok d) (v : Value)
    (hs : ∀ r : Nat × Nat × Nat, (Instr.sliceBounds true len cap (lo.map (·.den ρ φ)) (hi.map (·.den ρ φ)) (mx.map (·.den ρ φ))).run cx.P w = .ok r w →
      (Instr.sliceAt t v (lo.map (·.den ρ φ)) (hi.map (·.den ρ φ)) (mx.map (·.den ρ φ))).run cx.P w = .ok (.slice (some (if r.2.2 = r.1 then ⟨b, off, none⟩ else ⟨b, off + r.1 * n, none⟩)) (r.2.1 - r.1) (r.2.2 - r.1)) w) :
    Reads ρ φ β cx.P w n0 d (Instr.sliceAt t v (lo.map (·.den ρ φ)) (hi.map (·.den ρ φ)) (mx.map (·.den ρ φ))) := by
  unfold cutU at hc
  split at hc
  · unfold cutU.cutU2 at hc
    split at hc
    · rename_i hcond
      rw [Bool.and_eq_true, Bool.and_eq_true] at hcond
      have h1 := Nat.le_of_ble_eq_true hcond.1.1
      have h2 := blt_lt hcond.1.2
      have h3 := Nat.eq_of_beq_eq_true hcond.2
      subst h3
      have := vC_ok hc
      subst this
      have := litN_none hm
      subst this
      refine ⟨rfl, rfl, _, hs _ (bounds2 hl hh true len cap (by omega) (by omega)), b, n', cap - l.getD 0, hb, ?_, by omega, by omega, ?_⟩
      · simp only
        rw [if_neg (by omega)]
      · have : l.getD 0 * sz + (cap - l.getD 0) * sz = cap * sz := by rw [← Nat.add_mul]; congr 1; omega
        omega
    · split at hc
      · rename_i hcond
        rw [Bool.and_eq_true, Bool.and_eq_true] at hcond
        have h1 := Nat.le_of_ble_eq_true hcond.1.1
        have h2 := Nat.eq_of_beq_eq_true hcond.1.2
        have h3 := blt_lt hcond.2
        have := vC_ok hc
        subst this
        have := litN_none hm
        subst this
        refine ⟨rfl, rfl, _, hs _ (bounds2 hl hh true len cap (by omega) (by omega)), b, n', cap, hb, ?_, by omega, by omega, hfit⟩
        simp only [h2]
        rw [if_neg (by omega)]
        simp
      · split at hc
        · rename_i hcond
          rw [Bool.and_eq_true] at hcond
          have h1 := Nat.le_of_ble_eq_true hcond.1
          have h2 := Nat.eq_of_beq_eq_true hcond.2
          have := vC_ok hc
          subst this
          have := litN_none hm
          subst this
          refine ⟨rfl, rfl, _, hs _ (bounds2 hl hh true len cap (by omega) (by omega)), some (if cap = l.getD 0 then ⟨b, off, none⟩ else ⟨b, off + l.getD 0 * n, none⟩), cap - l.getD 0, ?_⟩
          have : h.getD len - l.getD 0 = 0 := by omega
          simp only [this]
        · exact absurd hc (by simp)
  · unfold cutU.cutU3 at hc
    split at hc
    · rename_i hcond
      rw [Bool.and_eq_true, Bool.and_eq_true] at hcond
      have h0 := Nat.le_of_ble_eq_true hcond.1.1
      have h1 := Nat.le_of_ble_eq_true hcond.1.2
      have h2 := Nat.le_of_ble_eq_true hcond.2
      have := vC_ok hc
      subst this
      refine ⟨rfl, rfl, _, hs _ (bounds3 hl hh hm true len cap (by omega) h1 h2), b, n', hb, ?_⟩
      rw [beq_if]
      simp only
      split <;> rfl
    · exact absurd hc (by simp)
  · exact absurd hc (by simp)
end
theorem sliceX_run {t : TypeId} {c : SC} {lo hi mx : Option E} {d : Out} {v : Value} (h : sliceX cx n0 t c lo hi mx = .ok d) (hc : c.is ρ φ β v) :
    Reads ρ φ β cx.P w n0 d (Instr.sliceAt t v (lo.map (·.den ρ φ)) (hi.map (·.den ρ φ)) (mx.map (·.den ρ φ))) := by
  unfold sliceX at h
  split at h
  · rename_i l hh m hl hhi hm
    split at h
    · rename_i id off len cap e hu
      obtain ⟨b, n', hb, rfl⟩ := hc
      split at h
      · rename_i ag n ht
        refine cutK_run hb hl hhi hm h true _ fun r hr => ?_
        simp only [Instr.sliceAt, Instr.slice, Sem.run_bind, run_underlying hu, Result.andThen_ok, hr, (tyx_run ht _).2, Sem.run_pure]
        simp only [Option.map_some, Addr.add_lit]
        split <;> rfl
      · exact absurd h (by simp)
    · rename_i id off len sz e hu
      obtain ⟨b, n', cap, hb, rfl, h1, h2, h3⟩ := hc
      split at h
      · rename_i ag n ht
        refine cutU_run hb h1 h2 h3 hl hhi hm h _ fun r hr => ?_
        simp only [Instr.sliceAt, Instr.slice, Sem.run_bind, run_underlying hu, Result.andThen_ok, hr, (tyx_run ht _).2, Sem.run_pure]
        simp only [Option.map_some, Addr.add_lit]
        split <;> rfl
      · exact absurd h (by simp)
    · rename_i id off k e hu
      obtain ⟨b, n', hb, rfl⟩ := hc
      split at h
      · rename_i ag n ht
        refine cutK_run hb hl hhi hm h false _ fun r hr => ?_
        simp only [Instr.sliceAt, Instr.sureAddr, Sem.run_bind, run_underlying hu, Result.andThen_ok, hr, (tyx_run ht _).2, Sem.run_pure]
        simp only [Addr.add_lit]
      · exact absurd h (by simp)
    · exact absurd h (by simp)
  · exact absurd h (by simp)

theorem eq_slice_nil0 (w : World) (d : Nat) (t e : TypeId) (a : Option Addr) (l c : Nat) (h : cx.P.underlying t = some (.slice e)) : (Op.equalIn (d + 1) t (.slice a l c) (.slice none 0 0)).run cx.P w = .ok a.isNone w := by
  cases a <;> simp [Op.equalIn, run_underlying h]
theorem eq_slice_nil (w : World) (t e : TypeId) (a : Option Addr) (l c : Nat) (h : cx.P.underlying t = some (.slice e)) : (Op.equal t (.slice a l c) (.slice none 0 0)).run cx.P w = .ok a.isNone w :=
  eq_slice_nil0 w 9999 t e a l c h
theorem nilX_run {t : TypeId} {x y : SC} {r : Bool} {u v : Value} (h : nilX cx t x y = some r) (hx : x.is ρ φ β u) (hy : y.is ρ φ β v) :
    (Op.equal t u v).run cx.P w = .ok r w ∧ (∀ op X Y, eqGuard op t X Y u v = pure ()) ∧ binOp .eql t u v = (do pure (.bool (← Op.equal t u v))) ∧ binOp .neq t u v = (do pure (.bool (!(← Op.equal t u v)))) := by
  unfold nilX at h
  split at h
  · rename_i e id off hu
    obtain ⟨b, n', hb, rfl⟩ := hx
    have hy : v = _ := hy
    subst hy
    simp only [Option.some.injEq] at h
    subst h
    exact ⟨run_equal_pointer_nil w t _ (by simp [Program.pointee, hu]), fun op X Y => eqGuard_at_pointer .., rfl, rfl⟩
  · rename_i e hu
    have hy : v = _ := hy
    have hx : u = _ := hx
    subst hy hx
    simp only [Option.some.injEq] at h
    subst h
    exact ⟨run_equal_pointer_nil w t _ (by simp [Program.pointee, hu]), fun op X Y => eqGuard_at_pointer .., rfl, rfl⟩
  · rename_i e id off len cap hu
    obtain ⟨b, n', hb, rfl⟩ := hx
    have hy : v = _ := hy
    subst hy
    simp only [Option.some.injEq] at h
    subst h
    exact ⟨eq_slice_nil w t e _ _ _ hu, fun op X Y => eqGuard_at_slice .., rfl, rfl⟩
  · rename_i e id off len sz hu
    obtain ⟨b, n', cap, hb, rfl, _⟩ := hx
    have hy : v = _ := hy
    subst hy
    simp only [Option.some.injEq] at h
    subst h
    exact ⟨eq_slice_nil w t e _ _ _ hu, fun op X Y => eqGuard_at_slice .., rfl, rfl⟩
  · rename_i e hu
    have hy : v = _ := hy
    have hx : u = _ := hx
    subst hy hx
    simp only [Option.some.injEq] at h
    subst h
    exact ⟨eq_slice_nil w t e _ _ _ hu, fun op X Y => eqGuard_at_slice .., rfl, rfl⟩
  · exact absurd h (by simp)
theorem nilOpX_run {op : BinOp} {t : TypeId} {x y : SC} {d : Out} {u v : Value} (h : nilOpX cx n0 t op x y = .ok d) (hx : x.is ρ φ β u) (hy : y.is ρ φ β v) (X Y : Operand) :
    Reads ρ φ β cx.P w n0 d (do eqGuard op t X Y u v; binOp op t u v) := by
  unfold nilOpX at h
  split at h
  · rename_i r hr
    obtain ⟨h1, h2, h3, h4⟩ := nilX_run (w := w) hr hx hy
    have := vE_ok h
    subst this
    refine ⟨rfl, rfl, .bool r, ?_, rfl⟩
    rw [h2, h3]
    simp [h1]
  · rename_i r hr
    obtain ⟨h1, h2, h3, h4⟩ := nilX_run (w := w) hr hx hy
    have := vE_ok h
    subst this
    refine ⟨rfl, rfl, .bool !r, ?_, rfl⟩
    rw [h2, h4]
    simp [h1]
  · exact absurd h (by simp)

theorem extractX_run {v : SV} {i : Nat} {d : Out} {x : Value} (h : extractX n0 v i = .ok d) (hv : v.is ρ φ β x) : Reads ρ φ β cx.P w n0 d (Instr.extract x i) := by
  unfold extractX at h
  split at h
  · rename_i ps
    obtain ⟨vs, rfl, ha⟩ := hv
    split at h
    · rename_i p hp
      have := vV_ok h
      subst this
      obtain ⟨u, hu, hpu⟩ := ha.get hp
      exact ⟨rfl, rfl, u, by simp [Instr.extract, hu], hpu⟩
    · exact absurd h (by simp)
  · exact absurd h (by simp)

theorem lenX_run (F : Fits cx.Γ cx.S ρ φ) {t ty : TypeId} {c : SC} {d : Out} {v : Value} (h : lenX cx n0 t c = .ok d) (hc : c.is ρ φ β v) : Reads ρ φ β cx.P w n0 d (Builtin.len_ #[t] ty #[v]) := by
  unfold lenX at h
  split at h
  · rename_i id off len cap e hu
    have := vE_ok h
    subst this
    obtain ⟨b, n', hb, rfl⟩ := hc
    exact ⟨rfl, rfl, _, by simp [Builtin.len_, run_underlying hu]; rfl, rfl⟩
  · rename_i id off len sz e hu
    have := vE_ok h
    subst this
    obtain ⟨b, n', cap, hb, rfl, _⟩ := hc
    exact ⟨rfl, rfl, _, by simp [Builtin.len_, run_underlying hu]; rfl, rfl⟩
  · rename_i e hu
    have := vE_ok h
    subst this
    have hc : v = _ := hc
    subst hc
    exact ⟨rfl, rfl, _, by simp [Builtin.len_, run_underlying hu, E.den]; rfl, rfl⟩
  · rename_i x hu
    split at h
    · rename_i hx
      have := vE_ok h
      subst this
      obtain ⟨s, hs, hb⟩ := so_strB F hx
      have hc : v = E.den ρ φ x := hc
      rw [hs] at hc
      subst hc
      refine ⟨rfl, rfl, .int .i64 (Int.ofNat s.size), by simp [Builtin.len_, run_underlying hu]; rfl, ?_⟩
      show _ = _
      rw [mkLen_den hs hb]
    · exact absurd h (by simp)
  · exact absurd h (by simp)
end
end Go.CX
