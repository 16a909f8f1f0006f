/- SX: operations on cells, structs, arrays and slices of the call's own. -/
import Derived.Test.YtfcddhicklhefaaGreatDoorSXd
import Derived.Laws.Tables
namespace Go.SX
open Go Go.RowKit

def listE : List SC → Option E
  | [] => some .nil
  | .e x :: cs => (listE cs).map (.cons x ·)
  | _ => none
section
variable {ρ : Nat → Value} {φ : Nat → List Value → List Value} {β : Nat → Option Nat}
theorem listE_dens : ∀ {cs : List SC} {l : E} {vs : List Value}, listE cs = some l → All2 (SC.is ρ φ β) cs vs → l.dens ρ φ = vs
  | [], l, vs, h, ha => by
    simp only [listE, Option.some.injEq] at h
    subst h
    cases vs with
    | nil => rfl
    | cons _ _ => exact ha.elim
  | .e x :: cs, l, vs, h, ha => by
    simp only [listE, Option.map_eq_some_iff] at h
    obtain ⟨l', hl, rfl⟩ := h
    cases vs with
    | nil => exact ha.elim
    | cons v vs =>
      have h1 : v = x.den ρ φ := ha.1
      simp only [E.dens]
      rw [listE_dens hl ha.2, h1]
  | .ptr _ _ :: _, _, _, h, _ => by simp [listE] at h
  | .pti _ _ _ :: _, _, _, h, _ => by simp [listE] at h
  | .slc _ _ _ _ :: _, _, _, h, _ => by simp [listE] at h
  | .vad _ _ _ _ :: _, _, _, h, _ => by simp [listE] at h
end

def spanOf : Bool → Nat → Nat
  | true, n => n
  | false, _ => 1
def viewX (v : Vw) (idx : E) (sz o : Nat) : Bool → Nat → OR
  | true, n => vV (.one ⟨true, (List.range n).map fun j => .e (.el (.var v.g) idx sz (o + j) (v.ss.getD (o + j) .any))⟩)
  | false, _ => vE (.el (.var v.g) idx sz o (v.ss.getD o .any))
def loadX (cx : Cx) (B : BK) (fs : Facts) (t : TypeId) (c : SC) : OR :=
  match c, tyx cx.P t with
  | .ptr id off, some (agg, n) =>
    match B id with
    | some row =>
      if agg then (if Nat.beq ((row.drop off).take n).length n then vV (.one ⟨true, (row.drop off).take n⟩) else .stuck)
      else match row[off]? with
        | some c => vC c
        | none => .stuck
    | none => .stuck
  | .pti id off i, some (false, _) =>
    match B id with
    | some row => match listE (row.drop off) with
      | some l => asg cx fs (mkLss i (.int .i64 0)) false (asg cx fs (mkLss i (.int .i64 (row.drop off).length)) true (vE (.idx i l)))
      | none => .stuck
    | none => .stuck
  | .vad i idx sz o, some (agg, n) =>
    match findVw i cx.vw with
    | some v =>
      if Nat.beq sz v.ss.length && Nat.ble (o + spanOf agg n) sz then
        asg cx fs (mkLss idx (.int .i64 0)) false (asg cx fs (mkLss idx (.var v.l)) true (viewX v idx sz o agg n))
      else .stuck
    | none => .stuck
  | _, _ => .stuck

def storeX (cx : Cx) (B : BK) (t : TypeId) (c : SC) (v : SV) : OR :=
  match c, tyx cx.P t, v.cells with
  | .ptr id off, some (_, n), some cs =>
    match B id with
    | some row => if Nat.beq cs.length n && Nat.ble (off + n) row.length && cs.all (SC.cell cx) then .ok ⟨undefSV, none, some (id, off, cs)⟩ else .stuck
    | none => .stuck
  | _, _, _ => .stuck

def fieldAddrX (cx : Cx) (s : TypeId) (c : SC) (f : Nat) : OR :=
  match c, cx.P.underlying s with
  | .ptr id off, some (.struct fs) =>
    match fs[f]? with
    | some fld => match tyx cx.P fld.type with
      | some (_, n) => if Nat.beq n 0 then .stuck else vC (.ptr id (off + fld.offset))
      | none => .stuck
    | none => .stuck
  | .vad i idx sz o, some (.struct fs) =>
    match fs[f]? with
    | some fld => match tyx cx.P fld.type with
      | some (_, n) => if Nat.beq n 0 then .stuck else vC (.vad i idx sz (o + fld.offset))
      | none => .stuck
    | none => .stuck
  | _, _ => .stuck

def fieldX (cx : Cx) (s : TypeId) (v : SV) (f : Nat) : OR :=
  match v, cx.P.underlying s with
  | .one ⟨true, cs⟩, some (.struct fs) =>
    match fs[f]? with
    | some fld => match tyx cx.P fld.type with
      | some (true, n) => vV (.one ⟨true, (cs.drop fld.offset).take n⟩)
      | some (false, _) => match cs[fld.offset]? with
        | some c => vC c
        | none => .stuck
      | none => .stuck
    | none => .stuck
  | _, _ => .stuck

def indexAddrX (cx : Cx) (fs : Facts) (t : TypeId) (c : SC) (i : E) : OR :=
  match c, cx.P.underlying t, cx.so i with
  | .slc id off len _, some (.slice e), .int _ =>
    match tyx cx.P e with
    | some (_, n) => match i with
      | .int _ (.ofNat j) => if Nat.blt j len then vC (.ptr id (off + j * n)) else .stuck
      | i => if Nat.beq n 1 then asg cx fs (mkLss i (.int .i64 0)) false (asg cx fs (mkLss i (.int .i64 len)) true (vC (.pti id off i))) else .stuck
    | none => .stuck
  | .ptr id off, some (.array len e), .int _ =>
    match tyx cx.P e with
    | some (_, n) => match i with
      | .int _ (.ofNat j) => if Nat.blt j len then vC (.ptr id (off + j * n)) else .stuck
      | i => if Nat.beq n 1 then asg cx fs (mkLss i (.int .i64 0)) false (asg cx fs (mkLss i (.int .i64 len)) true (vC (.pti id off i))) else .stuck
    | none => .stuck
  | .e (.var vi), some (.slice e), .int _ =>
    match tyx cx.P e, findVw vi cx.vw with
    | some (_, n), some v => if Nat.beq n v.ss.length then
        asg cx fs (mkLss i (.int .i64 0)) false (asg cx fs (mkLss i (.var v.l)) true (vC (.vad vi i n 0))) else .stuck
    | _, _ => .stuck
  | _, _, _ => .stuck

section
variable {ρ : Nat → Value} {φ : Nat → List Value → List Value} {cx : Cx} {fx : Fx} {L : LK} {B : BK} {β : Nat → Option Nat} {a : Act} {w : World}

theorem vC_ok {c : SC} {δ : Dl} (h : vC c = .ok δ) : δ = ⟨.one ⟨false, [c]⟩, none, none⟩ := by
  unfold vC at h
  simp only [OR.ok.injEq] at h
  exact h.symm
theorem vV_ok {s : SV} {δ : Dl} (h : vV s = .ok δ) : δ = ⟨s, none, none⟩ := by
  unfold vV at h
  simp only [OR.ok.injEq] at h
  exact h.symm
theorem one_c {c : SC} {v : Value} (h : c.is ρ φ β v) : (SV.one ⟨false, [c]⟩).is ρ φ β v := h

theorem cell_at {b off : Nat} {vs : List Value} {T : TypeId} (h : w.heap[b]? = some (.cells vs.toArray T (0, 0))) : w.cell? ⟨b, off, none⟩ = vs[off]? := by
  simp [World.cell?, h]

/-- What reads only. -/
def Reads (ρ : Nat → Value) (φ : Nat → List Value → List Value) (β : Nat → Option Nat) (P : Program) (w : World) (δ : Dl) (s : Sem Value) : Prop :=
  δ.new = none ∧ δ.wr = none ∧ ∃ x, s.run P w = .ok x w ∧ δ.v.is ρ φ β x

theorem loadX_run (V : Views cx ρ fx) (F : Fits cx.Γ cx.S ρ φ) (H : M ρ φ fx L B β a w) {fs : Facts} (hf : fs.hold ρ φ) {t : TypeId} {c : SC} {δ : Dl} {v : Value} (h : loadX cx B fs t c = .ok δ) (hc : c.is ρ φ β v) :
    Reads ρ φ β cx.P w δ (Instr.loadAt t v) := by
  unfold loadX at h
  split at h
  · rename_i id off agg n ht
    obtain ⟨b, hb, rfl⟩ := hc
    have htr := tyx_run ht
    split at h
    · rename_i row hr
      obtain ⟨b', vs, T, hb', hlo, hh, ha⟩ := H.box id row hr
      rw [hb] at hb'
      simp only [Option.some.injEq] at hb'
      subst hb'
      split at h
      · rename_i hagg
        subst hagg
        split at h
        · rename_i hn
          have hn := Nat.eq_of_beq_eq_true hn
          have := vV_ok h
          subst this
          have hall := (ha.drop off).take n
          refine ⟨rfl, rfl, .agg ((vs.drop off).take n).toArray, ?_, _, rfl, hall⟩
          have hl := run_loadCells_list (P := cx.P) w ⟨b, off, none⟩ ((vs.drop off).take n) (fun j u hj => by
            have hj' : j < n := by
              have := (List.getElem?_eq_some_iff.1 hj).1
              have := List.length_take_le n (vs.drop off)
              omega
            rw [List.getElem?_take, if_pos hj', List.getElem?_drop] at hj
            rw [Addr.add_lit, cell_at hh, hj])
          rw [← hall.length, hn] at hl
          simp [Instr.loadAt, Instr.sureAddr, loadVar, htr, hl]
        · exact absurd h (by simp)
      · rename_i hagg
        have hagg : agg = false := by simpa using hagg
        subst hagg
        split at h
        · rename_i c hrow
          have := vC_ok h
          subst this
          obtain ⟨u, hu, hcu⟩ := ha.get hrow
          refine ⟨rfl, rfl, u, ?_, hcu⟩
          simp [Instr.loadAt, Instr.sureAddr, loadVar, htr, cell_at hh, hu]
        · exact absurd h (by simp)
    · exact absurd h (by simp)
  · rename_i id off i n ht
    obtain ⟨b, hb, rfl⟩ := hc
    have htr := tyx_run ht
    split at h
    · rename_i row hr
      obtain ⟨b', vs, T, hb', hlo, hh, ha⟩ := H.box id row hr
      rw [hb] at hb'
      simp only [Option.some.injEq] at hb'
      subst hb'
      split at h
      · rename_i l hl
        obtain ⟨h1, h2⟩ := asg_ok F hf h
        obtain ⟨h3, h4⟩ := asg_ok F hf h1
        have := vE_ok h3
        subst this
        have hd := listE_dens hl (ha.drop off)
        have hlen := (ha.drop off).length
        rw [mkLss_den] at h2 h4
        simp only [E.den, vint_int, Value.bool.injEq] at h2 h4
        replace h2 := of_decide_eq_false h2
        replace h4 := of_decide_eq_true h4
        rw [hlen] at h4
        have hlt : (vint (i.den ρ φ)).toNat < (vs.drop off).length := by omega
        refine ⟨rfl, rfl, (vs.drop off)[(vint (i.den ρ φ)).toNat], ?_, ?_⟩
        · have : w.cell? ⟨b, off + (vint (i.den ρ φ)).toNat, none⟩ = some (vs.drop off)[(vint (i.den ρ φ)).toNat] := by
            rw [cell_at hh, ← List.getElem?_drop, List.getElem?_eq_getElem hlt]
          simp [Instr.loadAt, Instr.sureAddr, loadVar, htr, this]
        · show _ = _
          simp only [E.den, hd]
          rw [List.getD_eq_getElem?_getD, List.getElem?_eq_getElem hlt, Option.getD_some]
      · exact absurd h (by simp)
    · exact absurd h (by simp)
  · rename_i i idx sz o agg n ht
    have htr := tyx_run ht
    split at h
    · rename_i v hv
      obtain ⟨hmem, rfl⟩ := findVw_mem hv
      obtain ⟨ad, len, cap, vs, h1, h2, h3, h4, h4', h5, h6, h7, h8⟩ := V v hmem
      obtain ⟨b, off, n', c', hb, rfl⟩ := hc
      rw [h1] at hb
      simp only [Value.slice.injEq] at hb
      obtain ⟨rfl, rfl, rfl⟩ := hb
      split at h
      · rename_i hcond
        rw [Bool.and_eq_true] at hcond
        have hsz := Nat.eq_of_beq_eq_true hcond.1
        have hon := Nat.le_of_ble_eq_true hcond.2
        subst hsz
        obtain ⟨g1, g2⟩ := asg_ok F hf h
        obtain ⟨g3, g4⟩ := asg_ok F hf g1
        rw [mkLss_den] at g2 g4
        simp only [E.den, vint_int, Value.bool.injEq] at g2 g4
        replace g2 := of_decide_eq_false g2
        replace g4 := of_decide_eq_true g4
        rw [h2, vint_int] at g4
        obtain ⟨k, hk⟩ : ∃ k : Nat, vint (idx.den ρ φ) = Int.ofNat k := ⟨(vint (idx.den ρ φ)).toNat, (Int.toNat_of_nonneg (by omega)).symm⟩
        rw [hk] at g4
        have hkl : k < len := Int.ofNat_lt.1 g4
        rcases h8 with ⟨h8, _⟩ | ⟨b', off', h8, hbl, hbX, hcell⟩
        · exact absurd h8 (by simp)
        simp only [Option.some.injEq, Addr.mk.injEq, and_true] at h8
        obtain ⟨rfl, rfl⟩ := h8
        have hin : ∀ j, j < v.ss.length → k * v.ss.length + j < vs.length := by
          intro j hj
          rw [h4]
          have : (k + 1) * v.ss.length ≤ len * v.ss.length := Nat.mul_le_mul_right _ hkl
          rw [Nat.add_mul, Nat.one_mul] at this
          omega
        have hel : ∀ j, j < v.ss.length → ∃ u, w.cell? ⟨b, off + k * v.ss.length + j, none⟩ = some u ∧ u = (E.el (.var v.g) idx v.ss.length j (v.ss.getD j .any)).den ρ φ := by
          intro j hj
          have hlt := hin j hj
          refine ⟨vs[k * v.ss.length + j], ?_, ?_⟩
          · rw [H.old hbl hbX, Nat.add_assoc]
            exact hcell _ _ (List.getElem?_eq_getElem hlt)
          · have hs := h7 (k * v.ss.length + j) _ (List.getElem?_eq_getElem hlt)
            have hmod : (k * v.ss.length + j) % v.ss.length = j := by
              rw [Nat.add_comm, Nat.add_mul_mod_self_right, Nat.mod_eq_of_lt hj]
            rw [hmod] at hs
            simp only [E.den, h3, vtup, hk]
            have hget : vs.getD (k * v.ss.length + j) undef = vs[k * v.ss.length + j] := by
              rw [List.getD_eq_getElem?_getD, List.getElem?_eq_getElem hlt, Option.getD_some]
            rw [show (Int.ofNat k).toNat = k from rfl, hget]
            exact (coe_id hs).symm
        have hk' : (vint (idx.den ρ φ)).toNat = k := by rw [hk]; rfl
        rw [hk']
        cases agg with
        | true =>
          simp only [viewX] at g3
          simp only [spanOf] at hon
          have := vV_ok g3
          subst this
          have hall : ∀ (m s : Nat), s + m ≤ v.ss.length → ∃ us : List Value, us.length = m ∧ (∀ j u, us[j]? = some u → w.cell? ⟨b, off + k * v.ss.length + (s + j), none⟩ = some u) ∧
              All2 (SC.is ρ φ β) ((List.range' s m).map fun j => .e (.el (.var v.g) idx v.ss.length j (v.ss.getD j .any))) us := by
            intro m
            induction m with
            | zero => intro s _; exact ⟨[], rfl, by simp, trivial⟩
            | succ m ih =>
              intro s hs
              obtain ⟨u, hu1, hu2⟩ := hel s (by omega)
              obtain ⟨us, h9, h10, h11⟩ := ih (s + 1) (by omega)
              refine ⟨u :: us, by simp [h9], fun j x hx => ?_, hu2, h11⟩
              cases j with
              | zero => simp at hx; subst hx; simpa using hu1
              | succ j =>
                have := h10 j x (by simpa using hx)
                rwa [show s + 1 + j = s + (j + 1) by omega] at this
          obtain ⟨us, h9, h10, h11⟩ := hall n o hon
          refine ⟨rfl, rfl, .agg us.toArray, ?_, us, rfl, ?_⟩
          · have hl := run_loadCells_list (P := cx.P) w ⟨b, off + k * v.ss.length + o, none⟩ us (fun j u hj => by
              rw [Addr.add_lit]
              have := h10 j u hj
              rwa [← Nat.add_assoc] at this)
            rw [h9] at hl
            simp [Instr.loadAt, Instr.sureAddr, loadVar, htr, hl]
          · have e : ((List.range n).map fun j => SC.e (.el (.var v.g) idx v.ss.length (o + j) (v.ss.getD (o + j) .any))) = ((List.range' o n).map fun j => SC.e (.el (.var v.g) idx v.ss.length j (v.ss.getD j .any))) := by
              rw [List.range'_eq_map_range, List.map_map]
              rfl
            rw [e]
            exact h11
        | false =>
          simp only [viewX] at g3
          simp only [spanOf] at hon
          have := vE_ok g3
          subst this
          obtain ⟨u, hu1, hu2⟩ := hel o (by omega)
          refine ⟨rfl, rfl, u, ?_, hu2⟩
          simp [Instr.loadAt, Instr.sureAddr, loadVar, htr, hu1]
      · exact absurd h (by simp)
    · exact absurd h (by simp)
  · exact absurd h (by simp)

theorem fieldAddrX_run {s : TypeId} {c : SC} {f : Nat} {δ : Dl} {v : Value} (h : fieldAddrX cx s c f = .ok δ) (hc : c.is ρ φ β v) :
    Reads ρ φ β cx.P w δ (Instr.fieldAt s v f) := by
  unfold fieldAddrX at h
  split at h
  · rename_i id off fs hu
    obtain ⟨b, hb, rfl⟩ := hc
    split at h
    · rename_i fld hfld
      split at h
      · rename_i ag n ht
        split at h
        · exact absurd h (by simp)
        · rename_i hn
          have hn : n ≠ 0 := by
            intro e; subst e; simp at hn
          have := vC_ok h
          subst this
          refine ⟨rfl, rfl, .pointer (some ⟨b, off + fld.offset, none⟩), ?_, b, hb, rfl⟩
          simp [Instr.fieldAt, run_underlying hu, hfld, Instr.sureAddr, fieldPlace, (tyx_run ht _).2, hn, Addr.add_lit]
      · exact absurd h (by simp)
    · exact absurd h (by simp)
  · rename_i i idx sz o fs hu
    obtain ⟨b, off, n', c', hb, rfl⟩ := hc
    split at h
    · rename_i fld hfld
      split at h
      · rename_i ag n ht
        split at h
        · exact absurd h (by simp)
        · rename_i hn
          have hn : n ≠ 0 := by
            intro e; subst e; simp at hn
          have := vC_ok h
          subst this
          refine ⟨rfl, rfl, .pointer (some ⟨b, off + (vint (idx.den ρ φ)).toNat * sz + (o + fld.offset), none⟩), ?_, b, off, n', c', hb, rfl⟩
          simp [Instr.fieldAt, run_underlying hu, hfld, Instr.sureAddr, fieldPlace, (tyx_run ht _).2, hn, Addr.add_lit, Nat.add_assoc]
      · exact absurd h (by simp)
    · exact absurd h (by simp)
  · exact absurd h (by simp)

theorem fieldX_run {s : TypeId} {v : SV} {f : Nat} {δ : Dl} {x : Value} (h : fieldX cx s v f = .ok δ) (hv : v.is ρ φ β x) :
    Reads ρ φ β cx.P w δ (Instr.field s x f) := by
  unfold fieldX at h
  split at h
  · rename_i cs fs hu
    obtain ⟨vs, rfl, ha⟩ := hv
    split at h
    · rename_i fld hfld
      split at h
      · rename_i n ht
        have := vV_ok h
        subst this
        refine ⟨rfl, rfl, .agg ((vs.drop fld.offset).take n).toArray, ?_, _, rfl, (ha.drop _).take n⟩
        simp only [Instr.field, Sem.run_bind, run_underlying hu, Result.andThen_ok, hfld, asAgg, Sem.run_pure, part, (tyx_run ht _).1, if_true, (tyx_run ht _).2]
        congr 2
        apply Array.ext'
        simp [List.take_drop, Nat.add_sub_cancel_left]
      · rename_i n ht
        split at h
        · rename_i c hc
          have := vC_ok h
          subst this
          obtain ⟨u, hu', hcu⟩ := ha.get hc
          refine ⟨rfl, rfl, u, ?_, hcu⟩
          simp [Instr.field, run_underlying hu, hfld, asAgg, part, (tyx_run ht _).1, hu']
        · exact absurd h (by simp)
      · exact absurd h (by simp)
    · exact absurd h (by simp)
  · exact absurd h (by simp)
end
end Go.SX
