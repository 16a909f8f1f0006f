/- SX: new blocks; structs that are built; calls by their contracts. -/
import Derived.Test.YtfcddhicklhefaaGreatDoorSXf
namespace Go.SX
open Go Go.RowKit

def opdList (L : LK) : List (Nat × Operand) → Option (List (Nat × List SC))
  | [] => some []
  | (i, x) :: ps => match opd L x with
    | some s => match s.cells, opdList L ps with
      | some cs, some r => some ((i, cs) :: r)
      | _, _ => none
    | none => none

def allocX (cx : Cx) (nid : Nat) (t : TypeId) : OR :=
  match cx.P.info? t with
  | some i => match i.zero with
    | some z => .ok ⟨.one ⟨false, [.ptr nid 0]⟩, some (z.cells.toList.map constSC), none⟩
    | none => .stuck
  | none => .stuck

def boxX (cx : Cx) (nid : Nat) (v : SV) : OR :=
  match v.cells with
  | some cs => if cs.all (SC.cell cx) then .ok ⟨.one ⟨false, [.ptr nid 0]⟩, some cs, none⟩ else .stuck
  | none => .stuck

def zeroCells (cx : Cx) (t : TypeId) : Option (List SC) :=
  match cx.P.info? t with
  | some i => i.zero.map fun z => z.cells.toList.map constSC
  | none => none

def placesX (cx : Cx) : List Field → Option (List (Nat × Nat))
  | [] => some []
  | f :: fs => match tyx cx.P f.type, placesX cx fs with
    | some (_, n), some r => some ((f.offset, n) :: r)
    | _, _ => none

def buildX (cx : Cx) (L : LK) (t : TypeId) (parts : List (Nat × Operand)) : OR :=
  match cx.P.underlying t, zeroCells cx t, opdList L parts with
  | some (.struct fs), some z, some ps =>
    if ps.all (fun p => p.2.all (SC.cell cx)) then
      match placesX cx fs.toList with
      | some pl => match sfill (fun i => pl[i]?) z ps with
        | some cs => vV (.one ⟨true, cs⟩)
        | none => .stuck
      | none => .stuck
    else .stuck
  | some (.array _ e), some z, some ps =>
    if ps.all (fun p => p.2.all (SC.cell cx)) then
      match tyx cx.P e with
      | some (_, n) => match sfill (fun i => some (i * n, n)) z ps with
        | some cs => vV (.one ⟨true, cs⟩)
        | none => .stuck
      | none => .stuck
    else .stuck
  | _, _, _ => .stuck

/-- 'n' zeros of 'z', one behind the other. -/
def reps (z : List SC) : Nat → List SC
  | 0 => []
  | n + 1 => z ++ reps z n

def buildSliceX (cx : Cx) (L : LK) (nid : Nat) (t : TypeId) (len : Nat) (parts : List (Nat × Operand)) : OR :=
  match cx.P.underlying t, opdList L parts with
  | some (.slice e), some ps =>
    match tyx cx.P e, zeroCells cx e with
    | some (_, n), some z =>
      if ps.all (fun p => p.2.all (SC.cell cx)) && Nat.ble (len * n) 16777216 && Nat.beq z.length n && Nat.blt 0 n then
        match sfill (fun i => some (i * n, n)) (reps z len) ps with
        | some cs => .ok ⟨.one ⟨false, [.slc nid 0 len len]⟩, some cs, none⟩
        | none => .stuck
      else .stuck
    | _, _ => .stuck
  | _, _ => .stuck

def extractX (v : SV) (i : Nat) : OR :=
  match v with
  | .tup ps => match ps[i]? with
    | some p => vV (.one p)
    | none => .stuck
  | .one _ => .stuck

section
variable {ρ : Nat → Value} {φ : Nat → List Value → List Value} {cx : Cx} {fx : Fx} {L : LK} {B : BK} {β : Nat → Option Nat} {a : Act} {w : World}

theorem opdList_is (F : Fits cx.Γ cx.S ρ φ) (H : M ρ φ fx L B β a w) : ∀ {ps : List (Nat × Operand)} {r : List (Nat × List SC)}, opdList L ps = some r →
    r.all (fun p => p.2.all (SC.cell cx)) = true →
    All2 (fun (p : Nat × List SC) (q : Nat × Value) => p.1 = q.1 ∧ ∃ us : List Value, q.2.cells = us.toArray ∧ All2 (SC.is ρ φ β) p.2 us) r (ps.map fun (i, x) => (i, a.eval x))
  | [], r, h, _ => by
    simp only [opdList, Option.some.injEq] at h
    subst h
    trivial
  | (i, x) :: ps, r, h, hc => by
    simp only [opdList] at h
    split at h
    · rename_i s hs
      split at h
      · rename_i cs r' hcs hr
        simp only [Option.some.injEq] at h
        subst h
        simp only [List.all_cons, Bool.and_eq_true] at hc
        obtain ⟨us, h1, h2, _⟩ := SV.cells_is F hcs hc.1 (opd_is H hs)
        exact ⟨⟨rfl, us, h1, h2⟩, opdList_is F H hr hc.2⟩
      · exact absurd h (by simp)
    · exact absurd h (by simp)

theorem allocX_does (H : M ρ φ fx L B β a w) {t : TypeId} {nid : Nat} {δ : Dl} {o : Oper} (hn : β nid = none) (h : allocX cx nid t = .ok δ)
    (ho : execOp a.eval o = (do pure (.value (← Instr.alloc t true (.tuple #[]))))) : Does ρ φ cx.P fx.w0.heap.size fx.X o a w β nid δ := by
  unfold allocX at h
  split at h
  · rename_i i hi
    split at h
    · rename_i z hz
      simp only [OR.ok.injEq] at h
      subst h
      refine does_new (x := .pointer (some ⟨w.heap.size, 0, none⟩)) (vs := z.cells.toList) (T := t) H.inh hn ?_ ⟨_, updB_self _ _ _, rfl⟩ (constSC_all _)
      rw [ho]
      simp [Instr.alloc, zeroValue, typeInfo, hi, hz, newVar, newRow]
    · exact absurd h (by simp)
  · exact absurd h (by simp)

theorem boxX_does (F : Fits cx.Γ cx.S ρ φ) (H : M ρ φ fx L B β a w) {t : TypeId} {nid : Nat} {δ : Dl} {o : Oper} {v : SV} {x : Value} (hn : β nid = none) (h : boxX cx nid v = .ok δ) (hv : v.is ρ φ β x)
    (ho : execOp a.eval o = (do pure (.value (← Instr.box t x)))) : Does ρ φ cx.P fx.w0.heap.size fx.X o a w β nid δ := by
  unfold boxX at h
  split at h
  · rename_i cs hcs
    split at h
    · rename_i hc
      simp only [OR.ok.injEq] at h
      subst h
      obtain ⟨us, h1, h2, _⟩ := SV.cells_is F hcs hc hv
      refine does_new (x := .pointer (some ⟨w.heap.size, 0, none⟩)) (vs := us) (T := t) H.inh hn ?_ ⟨_, updB_self _ _ _, rfl⟩ h2
      rw [ho]
      simp [Instr.box, newVar, newRow, h1]
    · exact absurd h (by simp)
  · exact absurd h (by simp)

theorem zeroCells_run {t : TypeId} {cs : List SC} (h : zeroCells cx t = some cs) (w : World) : ∃ z : Value, (zeroValue t).run cx.P w = .ok z w ∧ cs = z.cells.toList.map constSC := by
  unfold zeroCells at h
  split at h
  · rename_i i hi
    simp only [Option.map_eq_some_iff] at h
    obtain ⟨z, hz, rfl⟩ := h
    exact ⟨z, by simp [zeroValue, typeInfo, hi, hz], rfl⟩
  · exact absurd h (by simp)

theorem placesX_run : ∀ {fs : List Field} {pl : List (Nat × Nat)}, placesX cx fs = some pl → ∀ w, 
    (fs.mapM (m := Sem) fun f => do pure (f.offset, ← sizeOf f.type)).run cx.P w = .ok pl w
  | [], pl, h, w => by
    simp only [placesX, Option.some.injEq] at h
    subst h
    simp
  | f :: fs, pl, h, w => by
    simp only [placesX] at h
    split at h
    · rename_i ag n r ht hr
      simp only [Option.some.injEq] at h
      subst h
      have ih := placesX_run hr w
      simp only [List.mapM_cons, Sem.run_bind, (tyx_run ht _).2, Result.andThen_ok, Sem.run_pure, ih]
    · exact absurd h (by simp)

theorem buildX_run (F : Fits cx.Γ cx.S ρ φ) (H : M ρ φ fx L B β a w) {t : TypeId} {parts : Array (Nat × Operand)} {δ : Dl} (h : buildX cx L t parts.toList = .ok δ) :
    Reads ρ φ β cx.P w δ (Instr.build t (parts.map fun (i, x) => (i, a.eval x))) := by
  unfold buildX at h
  split at h
  · rename_i fs z ps hu hz hps
    split at h
    · rename_i hc
      split at h
      · rename_i pl hpl
        split at h
        · rename_i cs hcs
          have := vV_ok h
          subst this
          obtain ⟨zv, hzr, rfl⟩ := zeroCells_run hz w
          obtain ⟨ws, hw1, hw2⟩ := sfill_run hcs (constSC_all _) (opdList_is F H hps hc)
          refine ⟨rfl, rfl, .agg ws.toArray, ?_, _, rfl, hw2⟩
          have hplr := placesX_run hpl w
          simp only [Instr.build, Sem.run_bind, hzr, Result.andThen_ok, run_underlying hu]
          rw [Array.mapM_eq_mapM_toList]
          simp only [Sem.run_map, hplr, Result.andThen_ok]
          have e : (fun x : Nat => pl.toArray[x]?) = (fun i : Nat => pl[i]?) := by funext i; simp
          simp only [e]
          have e2 : (parts.map fun (x : Nat × Operand) => (x.1, a.eval x.2)).toList = parts.toList.map fun (i, x) => (i, a.eval x) := by simp
          rw [e2]
          have e3 : zv.cells = zv.cells.toList.toArray := by simp
          rw [e3, hw1]
          simp
        · exact absurd h (by simp)
      · exact absurd h (by simp)
    · exact absurd h (by simp)
  · rename_i m e z ps hu hz hps
    split at h
    · rename_i hc
      split at h
      · rename_i ag n ht
        split at h
        · rename_i cs hcs
          have := vV_ok h
          subst this
          obtain ⟨zv, hzr, rfl⟩ := zeroCells_run hz w
          obtain ⟨ws, hw1, hw2⟩ := sfill_run hcs (constSC_all _) (opdList_is F H hps hc)
          refine ⟨rfl, rfl, .agg ws.toArray, ?_, _, rfl, hw2⟩
          simp only [Instr.build, Sem.run_bind, hzr, Result.andThen_ok, run_underlying hu, (tyx_run ht _).2]
          have e2 : (parts.map fun (x : Nat × Operand) => (x.1, a.eval x.2)).toList = parts.toList.map fun (i, x) => (i, a.eval x) := by simp
          rw [e2]
          have e3 : zv.cells = zv.cells.toList.toArray := by simp
          rw [e3, hw1]
          simp
        · exact absurd h (by simp)
      · exact absurd h (by simp)
    · exact absurd h (by simp)
  · exact absurd h (by simp)

theorem extractX_run {v : SV} {i : Nat} {δ : Dl} {x : Value} (h : extractX v i = .ok δ) (hv : v.is ρ φ β x) : Reads ρ φ β cx.P w δ (Instr.extract x i) := by
  unfold extractX at h
  split at h
  · rename_i ps
    obtain ⟨vs, rfl, ha⟩ := hv
    split at h
    · rename_i p hp
      have := vV_ok h
      subst this
      obtain ⟨u, hu, hpu⟩ := ha.get hp
      exact ⟨rfl, rfl, u, by simp [Instr.extract, hu], hpu⟩
    · exact absurd h (by simp)
  · exact absurd h (by simp)

def repsV (z : List Value) : Nat → List Value
  | 0 => []
  | n + 1 => z ++ repsV z n
theorem reps_all {z : List SC} {zs : List Value} (h : All2 (SC.is ρ φ β) z zs) : ∀ n, All2 (SC.is ρ φ β) (reps z n) (repsV zs n)
  | 0 => trivial
  | n + 1 => All2.append h (reps_all h n)
theorem repsV_range (zs : List Value) (hz : 0 < zs.length) : ∀ n, (List.range (n * zs.length)).map (fun i => zs.toArray[i % zs.toArray.size]!) = repsV zs n
  | 0 => by simp [repsV]
  | n + 1 => by
    have e : (n + 1) * zs.length = zs.length + n * zs.length := by rw [Nat.add_mul, Nat.one_mul, Nat.add_comm]
    rw [e, List.range_add, List.map_append, List.map_map]
    simp only [repsV]
    congr 1
    · apply List.ext_getElem
      · simp
      · intro i h1 h2
        simp only [List.getElem_map, List.getElem_range, List.size_toArray]
        rw [Nat.mod_eq_of_lt h2]
        simp [h2]
    · rw [← repsV_range zs hz n]
      apply List.map_congr_left
      intro i _
      simp only [Function.comp, List.size_toArray, Nat.add_mod_left]

theorem buildSliceX_does (F : Fits cx.Γ cx.S ρ φ) (H : M ρ φ fx L B β a w) {t : TypeId} {len : Nat} {parts : Array (Nat × Operand)} {nid : Nat} {δ : Dl} {o : Oper} (hn : β nid = none)
    (h : buildSliceX cx L nid t len parts.toList = .ok δ) (ho : execOp a.eval o = (do pure (.value (← Instr.buildSlice t len (parts.map fun (i, x) => (i, a.eval x)))))) :
    Does ρ φ cx.P fx.w0.heap.size fx.X o a w β nid δ := by
  unfold buildSliceX at h
  split at h
  · rename_i e ps hu hps
    split at h
    · rename_i ag n z ht hz
      split at h
      · rename_i hc
        simp only [Bool.and_eq_true] at hc
        obtain ⟨⟨⟨hc, h1⟩, h2⟩, h3⟩ := hc
        have h1 := Nat.le_of_ble_eq_true h1
        have h2 := Nat.eq_of_beq_eq_true h2
        have h3 : 0 < n := by unfold Nat.blt at h3; exact Nat.lt_of_succ_le (Nat.le_of_ble_eq_true h3)
        split at h
        · rename_i cs hcs
          simp only [OR.ok.injEq] at h
          subst h
          obtain ⟨zv, hzr, rfl⟩ := zeroCells_run hz w
          have hzl : zv.cells.toList.length = n := by simpa using h2
          have hrep := repsV_range zv.cells.toList (by omega) len
          obtain ⟨ws, hw1, hw2⟩ := sfill_run hcs (reps_all (constSC_all zv.cells.toList) len) (opdList_is F H hps hc)
          refine does_new (x := .slice (some ⟨w.heap.size, 0, none⟩) len len) (vs := ws) (T := e) H.inh hn ?_ ⟨_, updB_self _ _ _, rfl⟩ hw2
          rw [ho]
          have e1 : ((Array.range (len * n)).map fun i => zv.cells[i % zv.cells.size]!) = (repsV zv.cells.toList len).toArray := by
            apply Array.ext'
            rw [← hrep, hzl]
            simp
          have e2 : (parts.map fun (x : Nat × Operand) => (x.1, a.eval x.2)).toList = parts.toList.map fun (i, x) => (i, a.eval x) := by simp
          have e4 : ¬ len * n > 2 ^ 24 := by omega
          by_cases hl : len = 0
          · subst hl
            have hz0 : (repsV zv.cells.toList 0) = [] := rfl
            simp only [Instr.buildSlice, Sem.run_bind, run_underlying hu, Result.andThen_ok, (tyx_run ht _).2, Nat.zero_mul, if_true, Sem.run_pure]
            rw [e2, if_neg (show ¬ 0 > 2 ^ 24 by decide)]
            simp only [pure_bind]
            have : ((Array.range 0).map fun x => (#[] : Array Value)[x % (#[] : Array Value).size]!) = (repsV zv.cells.toList 0).toArray := by simp [hz0]
            rw [this, hw1]
            simp [newRow]
          · have hne : ¬ len * n = 0 := by
              have := Nat.mul_pos (Nat.pos_of_ne_zero hl) h3
              omega
            simp only [Instr.buildSlice, Sem.run_bind, run_underlying hu, Result.andThen_ok, (tyx_run ht _).2, if_neg e4, if_neg hne, hzr, Sem.run_pure]
            rw [e2, e1, hw1]
            simp [newRow]
        · exact absurd h (by simp)
      · exact absurd h (by simp)
    · exact absurd h (by simp)
  · exact absurd h (by simp)
end
end Go.SX
