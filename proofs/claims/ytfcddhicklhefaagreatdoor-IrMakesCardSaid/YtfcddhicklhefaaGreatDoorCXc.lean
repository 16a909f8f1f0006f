/- CX: what makes or turns blocks: new variables, structs, slices; stores; append. -/
import Derived.Test.YtfcddhicklhefaaGreatDoorCXb
import Derived.Laws.AppendOwn
import Derived.Laws.MakeOwn
namespace Go.CX
open Go Go.RowKit Go.SX

def fillC (place : Nat → Option (Nat × Nat)) (cells : List SC) : List (Nat × List SC) → Option (List SC)
  | [] => some cells
  | (i, v) :: rest =>
    match place i with
    | none => none
    | some (off, size) =>
      if Nat.beq v.length size && Nat.ble (off + v.length) cells.length then fillC place (spl cells off v) rest else none
def opdList (L : LK) : List (Nat × Operand) → Option (List (Nat × List SC))
  | [] => some []
  | (i, x) :: ps => match opd L x with
    | some s => match s.cells, opdList L ps with
      | some cs, some r => some ((i, cs) :: r)
      | _, _ => none
    | none => none
def allocX (cx : Cx) (n0 : Nat) (t : TypeId) : OR :=
  match cx.P.info? t with
  | some i => match i.zero with
    | some z => .ok ⟨.one ⟨false, [.ptr n0 0]⟩, [(n0, some (z.cells.toList.map constSC))], n0 + 1⟩
    | none => .stuck
  | none => .stuck
def boxX (cx : Cx) (n0 : Nat) (v : SV) : OR :=
  match v.cells with
  | some cs => if cs.all (SC.cell cx) then .ok ⟨.one ⟨false, [.ptr n0 0]⟩, [(n0, some cs)], n0 + 1⟩ else .stuck
  | none => .stuck
def zeroCells (cx : Cx) (t : TypeId) : Option (List SC) :=
  match cx.P.info? t with
  | some i => i.zero.map fun z => z.cells.toList.map constSC
  | none => none
def buildX (cx : Cx) (L : LK) (n0 : Nat) (t : TypeId) (parts : List (Nat × Operand)) : OR :=
  match cx.P.underlying t, zeroCells cx t, opdList L parts with
  | some (.struct fs), some z, some ps =>
    if ps.all (fun p => p.2.all (SC.cell cx)) then
      match placesX cx fs.toList with
      | some pl => match fillC (fun i => pl[i]?) z ps with
        | some cs => vV n0 (.one ⟨true, cs⟩)
        | none => .stuck
      | none => .stuck
    else .stuck
  | some (.array _ e), some z, some ps =>
    if ps.all (fun p => p.2.all (SC.cell cx)) then
      match tyx cx.P e with
      | some (_, n) => match fillC (fun i => some (i * n, n)) z ps with
        | some cs => vV n0 (.one ⟨true, cs⟩)
        | none => .stuck
      | none => .stuck
    else .stuck
  | _, _, _ => .stuck
def reps (z : List SC) : Nat → List SC
  | 0 => []
  | n + 1 => z ++ reps z n
def buildSliceX (cx : Cx) (L : LK) (n0 : Nat) (t : TypeId) (len : Nat) (parts : List (Nat × Operand)) : OR :=
  match cx.P.underlying t, opdList L parts with
  | some (.slice e), some ps =>
    match tyx cx.P e, zeroCells cx e with
    | some (_, n), some z =>
      if ps.all (fun p => p.2.all (SC.cell cx)) && Nat.ble (len * n) 16777216 && Nat.beq z.length n && Nat.blt 0 n then
        match fillC (fun i => some (i * n, n)) (reps z len) ps with
        | some cs => if cs.all (SC.cell cx) then .ok ⟨.one ⟨false, [.slc n0 0 len len]⟩, [(n0, some cs)], n0 + 1⟩ else .stuck
        | none => .stuck
      else .stuck
    | _, _ => .stuck
  | _, _ => .stuck
/-- A literal length. -/
def natE : E → Option Nat
  | .int _ (.ofNat n) => some n
  | _ => none
def makeSliceX (cx : Cx) (n0 : Nat) (t : TypeId) (len cap : E) : OR :=
  match cx.P.underlying t, natE len, natE cap with
  | some (.slice e), some l, some c => match cx.P.info? e with
    | some i => match i.zero with
      | some z =>
        if Nat.beq z.cells.size i.size && Nat.blt 0 i.size && Nat.ble l c && Nat.ble (i.bytes * c) 16777216 && Nat.ble c 16777216 && (z.cells.toList.map constSC).all (SC.cell cx) then
          .ok ⟨.one ⟨false, [.slc n0 0 l c]⟩, [(n0, some (reps (z.cells.toList.map constSC) c))], n0 + 1⟩
        else .stuck
      | none => .stuck
    | none => .stuck
  | _, _, _ => .stuck
def storeX (cx : Cx) (B : BK) (n0 : Nat) (t : TypeId) (c : SC) (v : SV) : OR :=
  match c, tyx cx.P t, v.cells with
  | .ptr id off, some (_, n), some cs =>
    match B id with
    | some row => if Nat.beq cs.length n && Nat.ble (off + n) row.length && cs.all (SC.cell cx) then .ok ⟨undefSV, [(id, some (spl row off cs))], n0⟩ else .stuck
    | none => .stuck
  | _, _, _ => .stuck
/-- What a slice's places hold. -/
def srcX (B : BK) (size : Nat) : SC → Option (Nat × List SC)
  | .slc id off m _ => match B id with
    | some row => (match (row.drop off).take (m * size) with | cs => if Nat.beq cs.length (m * size) then some (m, cs) else none)
    | none => none
  | .sla id off m _ => match B id with
    | some row => (match (row.drop off).take (m * size) with | cs => if Nat.beq cs.length (m * size) then some (m, cs) else none)
    | none => none
  | _ => none
def small (len m bytes : Nat) : Bool := Nat.ble (len + m) 1000000000 && Nat.ble ((len + m) * bytes) 140737488355328
def appX (B : BK) (n0 size bytes : Nat) (s : SC) (m : Nat) (news : List SC) : OR :=
  match s with
  | .e (.val (.slice none 0 0)) =>
    if Nat.beq m 0 then vC n0 s else if small 0 m bytes then .ok ⟨.one ⟨false, [.sla n0 0 m size]⟩, [(n0, some news)], n0 + 1⟩ else .stuck
  | .slc id off len cap => match B id with
    | some row =>
      if Nat.ble (len + m) cap then
        (if Nat.ble (off + len * size + news.length) row.length then .ok ⟨.one ⟨false, [.slc id off (len + m) cap]⟩, [(id, some (spl row (off + len * size) news))], n0⟩ else .stuck)
      else (match (row.drop off).take (len * size) with
        | olds => if Nat.beq olds.length (len * size) && small len m bytes && olds.all (fun c => match c with | .any => false | _ => true) then .ok ⟨.one ⟨false, [.sla n0 0 (len + m) size]⟩, [(n0, some (olds ++ news))], n0 + 1⟩ else .stuck)
    | none => .stuck
  | .sla id 0 len sz => match B id with
    | some row => (match row.take (len * size) with
      | olds => if Nat.beq sz size && Nat.beq olds.length (len * size) && small len m bytes && olds.all (fun c => match c with | .any => false | _ => true) then
          .ok ⟨.one ⟨false, [.sla n0 0 (len + m) size]⟩, [(n0, some (olds ++ news)), (id, none)], n0 + 1⟩ else .stuck)
    | none => .stuck
  | _ => .stuck
def appendX (cx : Cx) (B : BK) (n0 : Nat) (t : TypeId) (s x : SC) : OR :=
  match cx.P.underlying t with
  | some (.slice e) => match cx.P.info? e with
    | some i => match i.zero with
      | some z => if Nat.beq z.cells.size i.size && Nat.blt 0 i.size then (match srcX B i.size x with
        | some (m, news) => if news.all (SC.cell cx) then appX B n0 i.size i.bytes s m news else .stuck
        | none => .stuck) else .stuck
      | none => .stuck
    | none => .stuck
  | _ => .stuck

section
variable {ρ : Nat → Value} {φ : Nat → List Value → List Value} {cx : Cx} {fx : Fx} {L : LK} {B : BK} {β : Bk} {a : Act} {w : World} {n0 : Nat}

theorem constSC_ne (v : Value) : constSC v ≠ .any := by
  unfold constSC
  split <;> simp
theorem all_ne {cs : List SC} (h : cs.all (SC.cell cx) = true) : ∀ c ∈ cs, c ≠ .any := fun c hc => SC.cell_ne (List.all_eq_true.1 h c hc)

theorem fillC_run {place : Nat → Option (Nat × Nat)} : ∀ {parts : List (Nat × List SC)} {vparts : List (Nat × Value)} {cells : List SC} {vs : List Value} {out : List SC},
    fillC place cells parts = some out → All2 (SC.is ρ φ β) cells vs →
    All2 (fun (p : Nat × List SC) (q : Nat × Value) => p.1 = q.1 ∧ ∃ us : List Value, q.2.cells = us.toArray ∧ All2 (SC.is ρ φ β) p.2 us) parts vparts →
    ∃ ws : List Value, Instr.fill place vs.toArray vparts = some ws.toArray ∧ All2 (SC.is ρ φ β) out ws
  | [], [], cells, vs, out, h, ha, _ => by
    simp only [fillC, Option.some.injEq] at h
    subst h
    exact ⟨vs, rfl, ha⟩
  | (i, v) :: parts, (j, q) :: vparts, cells, vs, out, h, ha, hp => by
    obtain ⟨⟨hij, us, hus, hav⟩, hrest⟩ := hp
    simp only at hij hus hav
    subst hij
    simp only [fillC] at h
    split at h
    · exact absurd h (by simp)
    · rename_i off size hpl
      split at h
      · rename_i hc
        rw [Bool.and_eq_true] at hc
        have h1 := Nat.eq_of_beq_eq_true hc.1
        have h2 := Nat.le_of_ble_eq_true hc.2
        rw [hav.length] at h1 h2
        rw [ha.length] at h2
        obtain ⟨ws, hws, haw⟩ := fillC_run h (ha.spl off hav) hrest
        refine ⟨ws, ?_, haw⟩
        have hz := zip_fold us 0 off vs (by omega)
        simp only [Nat.add_zero] at hz
        simp only [Instr.fill, hpl, hus]
        rw [if_neg (by simp; omega)]
        rw [← hws]
        congr 1
        rw [← hz]
        simp
      · exact absurd h (by simp)
  | [], _ :: _, _, _, _, _, _, hp => hp.elim
  | _ :: _, [], _, _, _, _, _, hp => hp.elim

theorem opdList_is (F : Fits cx.Γ cx.S ρ φ) (H : M ρ φ fx L B β a w) : ∀ {ps : List (Nat × Operand)} {r : List (Nat × List SC)}, opdList L ps = some r →
    r.all (fun p => p.2.all (SC.cell cx)) = true →
    All2 (fun (p : Nat × List SC) (q : Nat × Value) => p.1 = q.1 ∧ ∃ us : List Value, q.2.cells = us.toArray ∧ All2 (SC.is ρ φ β) p.2 us) r (ps.map fun (i, x) => (i, a.eval x))
  | [], r, h, _ => by
    simp only [opdList, Option.some.injEq] at h
    subst h
    trivial
  | (i, x) :: ps, r, h, hc => by
    simp only [opdList] at h
    split at h
    · rename_i s hs
      split at h
      · rename_i cs r' hcs hr
        simp only [Option.some.injEq] at h
        subst h
        simp only [List.all_cons, Bool.and_eq_true] at hc
        obtain ⟨us, h1, h2, _⟩ := SV.cells_is F hcs hc.1 (opd_is H hs)
        exact ⟨⟨rfl, us, h1, h2⟩, opdList_is F H hr hc.2⟩
      · exact absurd h (by simp)
    · exact absurd h (by simp)

theorem allocX_does (H : M ρ φ fx L B β a w) {t : TypeId} {d : Out} {o : Oper} (hn : ∀ id, n0 ≤ id → id < d.next → β id = none) (h : allocX cx n0 t = .ok d)
    (ho : execOp a.eval o = (do pure (.value (← Instr.alloc t true (.tuple #[]))))) : Does ρ φ cx.P fx B o a w β n0 d := by
  unfold allocX at h
  split at h
  · rename_i i hi
    split at h
    · rename_i z hz
      simp only [OR.ok.injEq] at h
      subst h
      refine does_new' (x := .pointer (some ⟨w.heap.size, 0, none⟩)) (vs := z.cells.toList) (T := t) H.wld (hn n0 (Nat.le_refl _) (Nat.lt_succ_self _)) ?_ ⟨_, _, updB_self _ _ _ _, rfl⟩ (constSC_all _) ?_
      · rw [ho]
        simp [Instr.alloc, zeroValue, typeInfo, hi, hz, newVar, newRow]
      · intro c hc
        obtain ⟨v, _, rfl⟩ := List.mem_map.1 hc
        exact constSC_ne v
    · exact absurd h (by simp)
  · exact absurd h (by simp)

theorem boxX_does (F : Fits cx.Γ cx.S ρ φ) (H : M ρ φ fx L B β a w) {t : TypeId} {d : Out} {o : Oper} {v : SV} {x : Value} (hn : ∀ id, n0 ≤ id → id < d.next → β id = none) (h : boxX cx n0 v = .ok d) (hv : v.is ρ φ β x)
    (ho : execOp a.eval o = (do pure (.value (← Instr.box t x)))) : Does ρ φ cx.P fx B o a w β n0 d := by
  unfold boxX at h
  split at h
  · rename_i cs hcs
    split at h
    · rename_i hc
      simp only [OR.ok.injEq] at h
      subst h
      obtain ⟨us, h1, h2, _⟩ := SV.cells_is F hcs hc hv
      refine does_new' (x := .pointer (some ⟨w.heap.size, 0, none⟩)) (vs := us) (T := t) H.wld (hn n0 (Nat.le_refl _) (Nat.lt_succ_self _)) ?_ ⟨_, _, updB_self _ _ _ _, rfl⟩ h2 (all_ne hc)
      rw [ho]
      simp [Instr.box, newVar, newRow, h1]
    · exact absurd h (by simp)
  · exact absurd h (by simp)

theorem zeroCells_run {t : TypeId} {cs : List SC} (h : zeroCells cx t = some cs) (w : World) : ∃ z : Value, (zeroValue t).run cx.P w = .ok z w ∧ cs = z.cells.toList.map constSC := by
  unfold zeroCells at h
  split at h
  · rename_i i hi
    simp only [Option.map_eq_some_iff] at h
    obtain ⟨z, hz, rfl⟩ := h
    exact ⟨z, by simp [zeroValue, typeInfo, hi, hz], rfl⟩
  · exact absurd h (by simp)

theorem buildX_run (F : Fits cx.Γ cx.S ρ φ) (H : M ρ φ fx L B β a w) {t : TypeId} {parts : Array (Nat × Operand)} {d : Out} (h : buildX cx L n0 t parts.toList = .ok d) :
    Reads ρ φ β cx.P w n0 d (Instr.build t (parts.map fun (i, x) => (i, a.eval x))) := by
  unfold buildX at h
  split at h
  · rename_i fs z ps hu hz hps
    split at h
    · rename_i hc
      split at h
      · rename_i pl hpl
        split at h
        · rename_i cs hcs
          have := vV_ok h
          subst this
          obtain ⟨zv, hzr, rfl⟩ := zeroCells_run hz w
          obtain ⟨ws, hw1, hw2⟩ := fillC_run hcs (constSC_all _) (opdList_is F H hps hc)
          refine ⟨rfl, rfl, .agg ws.toArray, ?_, _, rfl, hw2⟩
          have hplr := placesX_run hpl w
          simp only [Instr.build, Sem.run_bind, hzr, Result.andThen_ok, run_underlying hu]
          rw [Array.mapM_eq_mapM_toList]
          simp only [Sem.run_map, hplr, Result.andThen_ok]
          have e : (fun x : Nat => pl.toArray[x]?) = (fun i : Nat => pl[i]?) := by funext i; simp
          simp only [e]
          have e2 : (parts.map fun (x : Nat × Operand) => (x.1, a.eval x.2)).toList = parts.toList.map fun (i, x) => (i, a.eval x) := by simp
          rw [e2]
          have e3 : zv.cells = zv.cells.toList.toArray := by simp
          rw [e3, hw1]
          simp
        · exact absurd h (by simp)
      · exact absurd h (by simp)
    · exact absurd h (by simp)
  · rename_i m e z ps hu hz hps
    split at h
    · rename_i hc
      split at h
      · rename_i ag n ht
        split at h
        · rename_i cs hcs
          have := vV_ok h
          subst this
          obtain ⟨zv, hzr, rfl⟩ := zeroCells_run hz w
          obtain ⟨ws, hw1, hw2⟩ := fillC_run hcs (constSC_all _) (opdList_is F H hps hc)
          refine ⟨rfl, rfl, .agg ws.toArray, ?_, _, rfl, hw2⟩
          simp only [Instr.build, Sem.run_bind, hzr, Result.andThen_ok, run_underlying hu, (tyx_run ht _).2]
          have e2 : (parts.map fun (x : Nat × Operand) => (x.1, a.eval x.2)).toList = parts.toList.map fun (i, x) => (i, a.eval x) := by simp
          rw [e2]
          have e3 : zv.cells = zv.cells.toList.toArray := by simp
          rw [e3, hw1]
          simp
        · exact absurd h (by simp)
      · exact absurd h (by simp)
    · exact absurd h (by simp)
  · exact absurd h (by simp)

theorem reps_all {z : List SC} {zs : List Value} (h : All2 (SC.is ρ φ β) z zs) : ∀ n, All2 (SC.is ρ φ β) (reps z n) (repsV zs n)
  | 0 => trivial
  | n + 1 => All2.append h (reps_all h n)

theorem buildSliceX_does (F : Fits cx.Γ cx.S ρ φ) (H : M ρ φ fx L B β a w) {t : TypeId} {len : Nat} {parts : Array (Nat × Operand)} {d : Out} {o : Oper} (hn : ∀ id, n0 ≤ id → id < d.next → β id = none)
    (h : buildSliceX cx L n0 t len parts.toList = .ok d) (ho : execOp a.eval o = (do pure (.value (← Instr.buildSlice t len (parts.map fun (i, x) => (i, a.eval x)))))) :
    Does ρ φ cx.P fx B o a w β n0 d := by
  unfold buildSliceX at h
  split at h
  · rename_i e ps hu hps
    split at h
    · rename_i ag n z ht hz
      split at h
      · rename_i hc
        simp only [Bool.and_eq_true] at hc
        obtain ⟨⟨⟨hc, h1⟩, h2⟩, h3⟩ := hc
        have h1 := Nat.le_of_ble_eq_true h1
        have h2 := Nat.eq_of_beq_eq_true h2
        have h3 := blt_lt h3
        split at h
        · rename_i cs hcs
          split at h
          · rename_i hall
            simp only [OR.ok.injEq] at h
            subst h
            obtain ⟨zv, hzr, rfl⟩ := zeroCells_run hz w
            have hzl : zv.cells.toList.length = n := by simpa using h2
            have hrep := repsV_range zv.cells.toList (by omega) len
            obtain ⟨ws, hw1, hw2⟩ := fillC_run hcs (reps_all (constSC_all zv.cells.toList) len) (opdList_is F H hps hc)
            refine does_new' (x := .slice (some ⟨w.heap.size, 0, none⟩) len len) (vs := ws) (T := e) H.wld (hn n0 (Nat.le_refl _) (Nat.lt_succ_self _)) ?_ ⟨_, _, updB_self _ _ _ _, rfl⟩ hw2 (all_ne hall)
            rw [ho]
            have e1 : ((Array.range (len * n)).map fun i => zv.cells[i % zv.cells.size]!) = (repsV zv.cells.toList len).toArray := by
              apply Array.ext'
              rw [← hrep, hzl]
              simp
            have e2 : (parts.map fun (x : Nat × Operand) => (x.1, a.eval x.2)).toList = parts.toList.map fun (i, x) => (i, a.eval x) := by simp
            have e4 : ¬ len * n > 2 ^ 24 := by omega
            by_cases hl : len = 0
            · subst hl
              have hz0 : (repsV zv.cells.toList 0) = [] := rfl
              simp only [Instr.buildSlice, Sem.run_bind, run_underlying hu, Result.andThen_ok, (tyx_run ht _).2, Nat.zero_mul, if_true, Sem.run_pure]
              rw [e2, if_neg (show ¬ 0 > 2 ^ 24 by decide)]
              simp only [pure_bind]
              have : ((Array.range 0).map fun x => (#[] : Array Value)[x % (#[] : Array Value).size]!) = (repsV zv.cells.toList 0).toArray := by simp [hz0]
              rw [this, hw1]
              simp [newRow]
            · have hne : ¬ len * n = 0 := by
                have := Nat.mul_pos (Nat.pos_of_ne_zero hl) h3
                omega
              simp only [Instr.buildSlice, Sem.run_bind, run_underlying hu, Result.andThen_ok, (tyx_run ht _).2, if_neg e4, if_neg hne, hzr, Sem.run_pure]
              rw [e2, e1, hw1]
              simp [newRow]
          · exact absurd h (by simp)
        · exact absurd h (by simp)
      · exact absurd h (by simp)
    · exact absurd h (by simp)
  · exact absurd h (by simp)

theorem natE_den {e : E} {n : Nat} (h : natE e = some n) : ∃ k, e.den ρ φ = .int k (n : Int) := by
  unfold natE at h
  split at h
  · rename_i k m
    simp only [Option.some.injEq] at h
    subst h
    exact ⟨k, rfl⟩
  · exact absurd h (by simp)
theorem reps_mem {z : List SC} {c : SC} : ∀ {n : Nat}, c ∈ reps z n → c ∈ z
  | 0, h => absurd h (by simp [reps])
  | n + 1, h => by
    rcases List.mem_append.1 h with h | h
    · exact h
    · exact reps_mem h
theorem makeSliceX_does (H : M ρ φ fx L B β a w) {t : TypeId} {x y : Operand} {len cap : E} {d : Out} {o : Oper} (hn : ∀ id, n0 ≤ id → id < d.next → β id = none)
    (hx : a.eval x = len.den ρ φ) (hy : a.eval y = cap.den ρ φ)
    (h : makeSliceX cx n0 t len cap = .ok d) (ho : execOp a.eval o = (do pure (.value (← Instr.makeSlice t (a.eval x) (a.eval y))))) :
    Does ρ φ cx.P fx B o a w β n0 d := by
  unfold makeSliceX at h
  split at h
  · rename_i e l c hu hl hc
    split at h
    · rename_i i hi
      split at h
      · rename_i z hz
        split at h
        · rename_i hcond
          simp only [Bool.and_eq_true] at hcond
          obtain ⟨⟨⟨⟨⟨h1, h2⟩, h3⟩, h4⟩, h5⟩, h6⟩ := hcond
          have h1 := Nat.eq_of_beq_eq_true h1
          have h2 := blt_lt h2
          have h3 := Nat.le_of_ble_eq_true h3
          have h4 := Nat.le_of_ble_eq_true h4
          have h5 := Nat.le_of_ble_eq_true h5
          simp only [OR.ok.injEq] at h
          subst h
          obtain ⟨kl, hl⟩ := natE_den (ρ := ρ) (φ := φ) hl
          obtain ⟨kc, hc⟩ := natE_den (ρ := ρ) (φ := φ) hc
          have hb : (i.bytes : Int) * (c : Int) ≤ 281474976710656 := by
            have : ((i.bytes * c : Nat) : Int) ≤ 281474976710656 := by omega
            rwa [Int.natCast_mul] at this
          have hrun := run_make (P := cx.P) w t e i z hu hi hz kl kc l c (by omega) (by omega) hb (by omega)
          have e1 : madeCells z.cells ((c : Int).toNat * i.size) = (repsV z.cells.toList c).toArray := by
            apply Array.ext'
            have hr := repsV_range z.cells.toList (by simp; omega) c
            rw [← hr]
            simp [madeCells, h1]
          rw [e1] at hrun
          refine does_new' (x := .slice (some ⟨w.heap.size, 0, none⟩) l c) (vs := repsV z.cells.toList c) (T := e) H.wld (hn n0 (Nat.le_refl _) (Nat.lt_succ_self _)) ?_ ⟨_, _, updB_self _ _ _ _, rfl⟩ (reps_all (constSC_all z.cells.toList) c) (fun q hq => all_ne h6 q (reps_mem hq))
          rw [ho, hx, hy, hl, hc]
          simp only [Sem.run_bind, hrun, Result.andThen_ok, Sem.run_pure, Int.toNat_natCast]
        · exact absurd h (by simp)
      · exact absurd h (by simp)
    · exact absurd h (by simp)
  · exact absurd h (by simp)

theorem storeX_does (F : Fits cx.Γ cx.S ρ φ) (H : M ρ φ fx L B β a w) {t : TypeId} {c : SC} {v : SV} {d : Out} {x y : Value} {o : Oper} (h : storeX cx B n0 t c v = .ok d) (hc : c.is ρ φ β x)
    (hv : v.is ρ φ β y) (ho : execOp a.eval o = (do Instr.storeAt t x y; pure .skip)) : Does ρ φ cx.P fx B o a w β n0 d := by
  unfold storeX at h
  split at h
  · rename_i id off ag n cs ht hcs
    split at h
    · rename_i row hr
      split at h
      · rename_i hcond
        simp only [Bool.and_eq_true] at hcond
        obtain ⟨⟨h1, h2⟩, h3⟩ := hcond
        have h1 := Nat.eq_of_beq_eq_true h1
        have h2 := Nat.le_of_ble_eq_true h2
        simp only [OR.ok.injEq] at h
        subst h
        obtain ⟨b, n', hb, rfl⟩ := hc
        obtain ⟨arr, T, g1, g2, g3, g4, g5⟩ := H.wld.rows hr hb
        obtain ⟨us, hus, hau, hone⟩ := SV.cells_is F hcs h3 hv
        have hul := hau.length
        have hlen : off + 0 + us.length ≤ arr.size := by omega
        have hrun := run_storeCells_at cx.P b off T us 0 arr w g2 hlen hone
        refine does_wr H.wld hr hb g2 (by omega) hau (all_ne h3) ?_
        rw [ho]
        have hsz : us.length = n := by omega
        simp only [Instr.storeAt, Instr.sureAddr, Sem.run_bind, Sem.run_pure, Result.andThen_ok, storeVar, (tyx_run ht _).2, hus]
        rw [if_neg (by simp [hsz])]
        rw [hrun]
        simp [spl]
      · exact absurd h (by simp)
    · exact absurd h (by simp)
  · exact absurd h (by simp)

theorem srcX_is (H : W ρ φ fx B β w) {size m : Nat} {x : SC} {cs : List SC} {v : Value} (h : srcX B size x = some (m, cs)) (hx : x.is ρ φ β v) :
    ∃ ad c, ∃ us : List Value, v = .slice (some ad) m c ∧ us.length = m * size ∧ All2 (SC.is ρ φ β) cs us ∧ ∀ j u, us[j]? = some u → w.cell? (ad.add j) = some u := by
  have key : ∀ (id off : Nat) (row : List SC) (b n : Nat), B id = some row → β id = some (b, n) → Nat.beq ((row.drop off).take (m * size)).length (m * size) = true →
      ∃ us : List Value, us.length = m * size ∧ All2 (SC.is ρ φ β) ((row.drop off).take (m * size)) us ∧ ∀ j u, us[j]? = some u → w.cell? ((⟨b, off, none⟩ : Addr).add j) = some u := by
    intro id off row b n hB hb hl
    have hl := Nat.eq_of_beq_eq_true hl
    obtain ⟨arr, T, g1, g2, g3, g4, g5⟩ := H.rows hB hb
    have hall := (g5.drop off).take (m * size)
    refine ⟨_, by rw [← hall.length, hl], hall, fun j u hj => ?_⟩
    rw [Addr.add_lit]
    rw [List.getElem?_take] at hj
    split at hj
    · rw [List.getElem?_drop, List.getElem?_take] at hj
      split at hj
      · simpa [World.cell?, g2] using hj
      · simp at hj
    · simp at hj
  unfold srcX at h
  split at h
  · rename_i id off m' c
    obtain ⟨b, n, hb, rfl⟩ := hx
    split at h
    · rename_i row hB
      simp only at h
      split at h
      · rename_i hl
        simp only [Option.some.injEq, Prod.mk.injEq] at h
        obtain ⟨rfl, rfl⟩ := h
        obtain ⟨us, h1, h2, h3⟩ := key id off row b n hB hb hl
        exact ⟨_, _, us, rfl, h1, h2, h3⟩
      · exact absurd h (by simp)
    · exact absurd h (by simp)
  · rename_i id off m' c
    obtain ⟨b, n, cap, hb, rfl, _⟩ := hx
    split at h
    · rename_i row hB
      simp only at h
      split at h
      · rename_i hl
        simp only [Option.some.injEq, Prod.mk.injEq] at h
        obtain ⟨rfl, rfl⟩ := h
        obtain ⟨us, h1, h2, h3⟩ := key id off row b n hB hb hl
        exact ⟨_, _, us, rfl, h1, h2, h3⟩
      · exact absurd h (by simp)
    · exact absurd h (by simp)
  · exact absurd h (by simp)
end
end Go.CX
