/- CX: slices that came in, looked at by symbol. -/
import Derived.Test.YtfcddhicklhefaaGreatDoorCXd
namespace Go.CX
open Go Go.RowKit Go.SX

def asgX (cx : Cx) (fs : Facts) (c : E) (want : Bool) (x : OR) : OR :=
  match dec cx fs c with
  | some b => if b == want then x else .stuck
  | none => match cx.so c with
    | .bool => .split c
    | _ => .stuck
/-- The element's cells. -/
def viewC (v : Vw) (idx : E) (sz o n : Nat) : List SC := (List.range n).map fun j => .e (.el (.var v.g) idx sz (o + j) (v.ss.getD (o + j) .any))
def loadV (cx : Cx) (fs : Facts) (n0 : Nat) (t : TypeId) (i : Nat) (idx : E) (sz o : Nat) : OR :=
  match tyx cx.P t, findVw i cx.vw with
  | some (agg, n), some v =>
    if Nat.beq sz v.ss.length && Nat.ble (o + spanOf agg n) sz then
      asgX cx fs (mkLss idx (.int .i64 0)) false (asgX cx fs (mkLss idx (.var v.l)) true (if agg then vV n0 (.one ⟨true, viewC v idx sz o n⟩) else vE n0 (.el (.var v.g) idx sz o (v.ss.getD o .any))))
    else .stuck
  | _, _ => .stuck
def fieldAddrV (cx : Cx) (n0 : Nat) (s : TypeId) (i : Nat) (idx : E) (sz o f : Nat) : OR :=
  match cx.P.underlying s with
  | some (.struct fs) =>
    match fs[f]? with
    | some fld => match tyx cx.P fld.type with
      | some (_, n) => if Nat.beq n 0 then .stuck else vC n0 (.vad i idx sz (o + fld.offset))
      | none => .stuck
    | none => .stuck
  | _ => .stuck
/-- An element's address, of a slice of n (or of all). -/
def indexAddrV (cx : Cx) (fs : Facts) (n0 : Nat) (t : TypeId) (vi : Nat) (m : Option Nat) (i : E) : OR :=
  match cx.P.underlying t, cx.so i with
  | some (.slice e), .int _ =>
    match tyx cx.P e, findVw vi cx.vw with
    | some (_, n), some v => if Nat.beq n v.ss.length then
        asgX cx fs (mkLss i (.int .i64 0)) false (asgX cx fs (mkLss i (match m with | some m => .int .i64 (Int.ofNat m) | none => .var v.l)) true (vC n0 (.vad vi i n 0))) else .stuck
    | _, _ => .stuck
  | _, _ => .stuck
def lenV (cx : Cx) (n0 : Nat) (t : TypeId) (vi : Nat) (m : Option Nat) : OR :=
  match cx.P.underlying t, m, findVw vi cx.vw with
  | some (.slice _), some m, _ => vE n0 (.int .i64 (Int.ofNat m))
  | some (.slice _), none, some v => vE n0 (.var v.l)
  | _, _, _ => .stuck
/-- The first h. -/
def sliceV (cx : Cx) (fs : Facts) (n0 : Nat) (t : TypeId) (vi : Nat) (m : Option Nat) (h : Nat) : OR :=
  match cx.P.underlying t with
  | some (.slice e) => match tyx cx.P e, m, findVw vi cx.vw with
    | some _, some m, some _ => if Nat.ble h m then vC n0 (.vsl vi h) else .stuck
    | some _, none, some v => asgX cx fs (mkLss (.var v.l) (.int .i64 (Int.ofNat h))) false (vC n0 (.vsl vi h))
    | _, _, _ => .stuck
  | _ => .stuck

section
variable {ρ : Nat → Value} {φ : Nat → List Value → List Value} {cx : Cx} {fx : Fx} {L : LK} {B : BK} {β : Bk} {a : Act} {w : World} {n0 : Nat}
theorem asgX_ok (F : Fits cx.Γ cx.S ρ φ) {fs : Facts} (hf : fs.hold ρ φ) {c : E} {want : Bool} {x : OR} {d : Out} (h : asgX cx fs c want x = .ok d) : x = .ok d ∧ c.den ρ φ = .bool want := by
  unfold asgX at h
  split at h
  · rename_i b hb
    split at h
    · rename_i e
      have e : b = want := by simpa using e
      subst e
      exact ⟨h, dec_sound F hf hb⟩
    · exact absurd h (by simp)
  · split at h <;> exact absurd h (by simp)
theorem loadV_run (F : Fits cx.Γ cx.S ρ φ) (hv : fx.ws.vw = cx.vw) (H : M ρ φ fx L B β a w) {fs : Facts} (hf : fs.hold ρ φ) {t : TypeId} {i : Nat} {idx : E} {sz o : Nat} {d : Out} {x : Value} (h : loadV cx fs n0 t i idx sz o = .ok d) (hc : (SC.vad i idx sz o).is ρ φ β x) :
    Reads ρ φ β cx.P w n0 d (Instr.loadAt t x) := by
  unfold loadV at h
  split at h
  · rename_i agg n v ht hvw
    have htr := tyx_run ht
    obtain ⟨hmem, rfl⟩ := findVw_mem hvw
    obtain ⟨ad, len, cap, vs, h1, h2, h3, h4, h4', h5, h6, h7, h8⟩ := H.wld.base.2 v (by rw [hv]; exact hmem)
    obtain ⟨b, off, n', c', hb, rfl⟩ := hc
    rw [h1] at hb
    simp only [Value.slice.injEq] at hb
    obtain ⟨rfl, rfl, rfl⟩ := hb
    split at h
    · rename_i hcond
      rw [Bool.and_eq_true] at hcond
      have hsz := Nat.eq_of_beq_eq_true hcond.1
      have hon := Nat.le_of_ble_eq_true hcond.2
      subst hsz
      obtain ⟨g1, g2⟩ := asgX_ok F hf h
      obtain ⟨g3, g4⟩ := asgX_ok F hf g1
      rw [mkLss_den] at g2 g4
      simp only [E.den, vint_int, Value.bool.injEq] at g2 g4
      replace g2 := of_decide_eq_false g2
      replace g4 := of_decide_eq_true g4
      rw [h2, vint_int] at g4
      obtain ⟨k, hk⟩ : ∃ k : Nat, vint (idx.den ρ φ) = Int.ofNat k := ⟨(vint (idx.den ρ φ)).toNat, (Int.toNat_of_nonneg (by omega)).symm⟩
      rw [hk] at g4
      have hkl : k < len := Int.ofNat_lt.1 g4
      rcases h8 with ⟨h8, _⟩ | ⟨b', off', h8, hbl, hcell⟩
      · exact absurd h8 (by simp)
      simp only [Option.some.injEq, Addr.mk.injEq, and_true] at h8
      obtain ⟨rfl, rfl⟩ := h8
      have hold : ∀ o, w.cell? ⟨b, o, none⟩ = fx.ws.toWorld.cell? ⟨b, o, none⟩ := fun o => World.cell?_of_block (w := fx.ws.toWorld) (H.wld.base.1 b hbl)
      have hin : ∀ j, j < v.ss.length → k * v.ss.length + j < vs.length := by
        intro j hj
        rw [h4]
        have : (k + 1) * v.ss.length ≤ len * v.ss.length := Nat.mul_le_mul_right _ hkl
        rw [Nat.add_mul, Nat.one_mul] at this
        omega
      have hel : ∀ j, j < v.ss.length → ∃ u, w.cell? ⟨b, off + k * v.ss.length + j, none⟩ = some u ∧ u = (E.el (.var v.g) idx v.ss.length j (v.ss.getD j .any)).den ρ φ := by
        intro j hj
        have hlt := hin j hj
        refine ⟨vs[k * v.ss.length + j], ?_, ?_⟩
        · rw [hold, Nat.add_assoc]
          exact hcell _ _ (List.getElem?_eq_getElem hlt)
        · have hs := h7 (k * v.ss.length + j) _ (List.getElem?_eq_getElem hlt)
          have hmod : (k * v.ss.length + j) % v.ss.length = j := by
            rw [Nat.add_comm, Nat.add_mul_mod_self_right, Nat.mod_eq_of_lt hj]
          rw [hmod] at hs
          simp only [E.den, h3, vtup, hk]
          have hget : vs.getD (k * v.ss.length + j) undef = vs[k * v.ss.length + j] := by
            rw [List.getD_eq_getElem?_getD, List.getElem?_eq_getElem hlt, Option.getD_some]
          rw [show (Int.ofNat k).toNat = k from rfl, hget]
          exact (coe_id hs).symm
      have hk' : (vint (idx.den ρ φ)).toNat = k := by rw [hk]; rfl
      rw [hk']
      cases agg with
      | true =>
        simp only [if_true] at g3
        simp only [spanOf] at hon
        have := vV_ok g3
        subst this
        have hall : ∀ (m s : Nat), s + m ≤ v.ss.length → ∃ us : List Value, us.length = m ∧ (∀ j u, us[j]? = some u → w.cell? ⟨b, off + k * v.ss.length + (s + j), none⟩ = some u) ∧
            All2 (SC.is ρ φ β) ((List.range' s m).map fun j => .e (.el (.var v.g) idx v.ss.length j (v.ss.getD j .any))) us := by
          intro m
          induction m with
          | zero => intro s _; exact ⟨[], rfl, by simp, trivial⟩
          | succ m ih =>
            intro s hs
            obtain ⟨u, hu1, hu2⟩ := hel s (by omega)
            obtain ⟨us, h9, h10, h11⟩ := ih (s + 1) (by omega)
            refine ⟨u :: us, by simp [h9], fun j x hx => ?_, hu2, h11⟩
            cases j with
            | zero => simp at hx; subst hx; simpa using hu1
            | succ j =>
              have := h10 j x (by simpa using hx)
              rwa [show s + 1 + j = s + (j + 1) by omega] at this
        obtain ⟨us, h9, h10, h11⟩ := hall n o hon
        refine ⟨rfl, rfl, .agg us.toArray, ?_, us, rfl, ?_⟩
        · have hl := run_loadCells_list (P := cx.P) w ⟨b, off + k * v.ss.length + o, none⟩ us (fun j u hj => by
            rw [Addr.add_lit]
            have := h10 j u hj
            rwa [← Nat.add_assoc] at this)
          rw [h9] at hl
          simp [Instr.loadAt, Instr.sureAddr, loadVar, htr, hl]
        · have e : viewC v idx v.ss.length o n = ((List.range' o n).map fun j => SC.e (.el (.var v.g) idx v.ss.length j (v.ss.getD j .any))) := by
            unfold viewC
            rw [List.range'_eq_map_range, List.map_map]
            rfl
          rw [e]
          exact h11
      | false =>
        simp only [Bool.false_eq_true, if_false] at g3
        simp only [spanOf] at hon
        have := vE_ok g3
        subst this
        obtain ⟨u, hu1, hu2⟩ := hel o (by omega)
        refine ⟨rfl, rfl, u, ?_, hu2⟩
        simp [Instr.loadAt, Instr.sureAddr, loadVar, htr, hu1]
    · exact absurd h (by simp)
  · exact absurd h (by simp)
theorem fieldAddrV_run {s : TypeId} {i : Nat} {idx : E} {sz o f : Nat} {d : Out} {x : Value} (h : fieldAddrV cx n0 s i idx sz o f = .ok d) (hc : (SC.vad i idx sz o).is ρ φ β x) :
    Reads ρ φ β cx.P w n0 d (Instr.fieldAt s x f) := by
  unfold fieldAddrV at h
  split at h
  · rename_i fs hu
    obtain ⟨b, off, n', c', hb, rfl⟩ := hc
    split at h
    · rename_i fld hfld
      split at h
      · rename_i ag n ht
        split at h
        · exact absurd h (by simp)
        · rename_i hn
          have hn : n ≠ 0 := by
            intro e; subst e; simp at hn
          have := vC_ok h
          subst this
          refine ⟨rfl, rfl, .pointer (some ⟨b, off + (vint (idx.den ρ φ)).toNat * sz + (o + fld.offset), none⟩), ?_, b, off, n', c', hb, rfl⟩
          simp [Instr.fieldAt, run_underlying hu, hfld, Instr.sureAddr, fieldPlace, (tyx_run ht _).2, hn, Addr.add_lit, Nat.add_assoc]
      · exact absurd h (by simp)
    · exact absurd h (by simp)
  · exact absurd h (by simp)
/-- A slice of the first m, or of all, of one that came in. -/
def isV (ρ : Nat → Value) (vi : Nat) (m : Option Nat) (x : Value) : Prop := match m with
  | some m => ∃ a len cap, ρ vi = .slice a len cap ∧ m ≤ len ∧ x = .slice a m cap
  | none => x = ρ vi
theorem indexAddrV_run (F : Fits cx.Γ cx.S ρ φ) (hv : fx.ws.vw = cx.vw) (H : M ρ φ fx L B β a w) {fs : Facts} (hf : fs.hold ρ φ) {t : TypeId} {vi : Nat} {m : Option Nat} {i : E} {d : Out} {x : Value} (h : indexAddrV cx fs n0 t vi m i = .ok d) (hc : isV ρ vi m x) :
    Reads ρ φ β cx.P w n0 d (Instr.indexAt t x (i.den ρ φ)) := by
  unfold indexAddrV at h
  split at h
  · rename_i e k hu hi
    have ei := so_int F hi
    split at h
    · rename_i ag n v ht hvw
      obtain ⟨hmem, rfl⟩ := findVw_mem hvw
      obtain ⟨ad, len, cap, vs, h1, h2, h3, h4, h4', h5, h6, h7, h8⟩ := H.wld.base.2 v (by rw [hv]; exact hmem)
      split at h
      · obtain ⟨g1, g2⟩ := asgX_ok F hf h
        obtain ⟨g3, g4⟩ := asgX_ok F hf g1
        have := vC_ok g3
        subst this
        rw [mkLss_den] at g2 g4
        simp only [E.den, vint_int, Value.bool.injEq] at g2 g4
        replace g2 := of_decide_eq_false g2
        replace g4 := of_decide_eq_true g4
        obtain ⟨mm, hmm, hx, g5⟩ : ∃ mm, mm ≤ len ∧ x = .slice ad mm cap ∧ vint (i.den ρ φ) < (mm : Int) := by
          cases m with
          | some m =>
            obtain ⟨a', l', c', e1, e2, e3⟩ := hc
            rw [h1] at e1
            simp only [Value.slice.injEq] at e1
            obtain ⟨rfl, rfl, rfl⟩ := e1
            exact ⟨m, e2, e3, by simpa [E.den] using g4⟩
          | none =>
            have hc : x = ρ v.i := hc
            refine ⟨len, Nat.le_refl _, hc.trans h1, ?_⟩
            simp only [E.den, h2, vint_int] at g4
            exact g4
        subst hx
        rcases h8 with ⟨h8, h9, _⟩ | ⟨b', off', h8, _⟩
        · subst h9
          exfalso
          omega
        subst h8
        refine ⟨rfl, rfl, .pointer (some ⟨b', off' + (vint (i.den ρ φ)).toNat * n + 0, none⟩), ?_, b', off', len, cap, h1, rfl⟩
        rw [ei]
        simp [Instr.indexAt, run_underlying hu, asIntOf, (tyx_run ht _).2, Addr.add_lit, g5, show 0 ≤ vint (i.den ρ φ) by omega]
      · exact absurd h (by simp)
    · exact absurd h (by simp)
  · exact absurd h (by simp)
theorem lenV_run (hv : fx.ws.vw = cx.vw) (H : M ρ φ fx L B β a w) {t ty : TypeId} {vi : Nat} {m : Option Nat} {d : Out} {x : Value} (h : lenV cx n0 t vi m = .ok d) (hc : isV ρ vi m x) : Reads ρ φ β cx.P w n0 d (Builtin.len_ #[t] ty #[x]) := by
  unfold lenV at h
  split at h
  · rename_i e m' _ hu
    have := vE_ok h
    subst this
    obtain ⟨a', l', c', e1, e2, rfl⟩ := hc
    exact ⟨rfl, rfl, _, by simp [Builtin.len_, run_underlying hu]; rfl, rfl⟩
  · rename_i e v hu hvw
    have := vE_ok h
    subst this
    obtain ⟨hmem, rfl⟩ := findVw_mem hvw
    obtain ⟨ad, len, cap, vs, h1, h2, _⟩ := H.wld.base.2 v (by rw [hv]; exact hmem)
    have hc : x = ρ v.i := hc
    rw [h1] at hc
    subst hc
    exact ⟨rfl, rfl, .int .i64 (Int.ofNat len), by simp [Builtin.len_, run_underlying hu]; rfl, h2.symm⟩
  · exact absurd h (by simp)
theorem sliceV_run (F : Fits cx.Γ cx.S ρ φ) (hv : fx.ws.vw = cx.vw) (H : M ρ φ fx L B β a w) {fs : Facts} (hf : fs.hold ρ φ) {t : TypeId} {vi : Nat} {m : Option Nat} {hh : Nat} {k : IntKind} {d : Out} {x : Value} (h : sliceV cx fs n0 t vi m hh = .ok d) (hc : isV ρ vi m x) :
    Reads ρ φ β cx.P w n0 d (Instr.sliceAt t x none (some (.int k (Int.ofNat hh))) none) := by
  have fin : ∀ (a : Option Addr) (mm cap : Nat) (e : TypeId) (ag : Bool) (n : Nat), cx.P.underlying t = some (.slice e) → tyx cx.P e = some (ag, n) → hh ≤ cap →
      (Instr.sliceAt t (.slice a mm cap) none (some (.int k (Int.ofNat hh))) none).run cx.P w = .ok (.slice a hh cap) w := by
    intro a mm cap e ag n hu ht hle
    have hl : ∀ code, (Instr.sliceBound (.int k (Int.ofNat hh)) cap code).run cx.P w = .ok hh w := fun code => bound_ok code hle
    cases a with
    | none => simp only [Instr.sliceAt, Instr.slice, Sem.run_bind, run_underlying hu, Result.andThen_ok, Instr.sliceBounds, Sem.run_pure, (tyx_run ht _).2]; simp only [hl]; simp
    | some a => simp only [Instr.sliceAt, Instr.slice, Sem.run_bind, run_underlying hu, Result.andThen_ok, Instr.sliceBounds, Sem.run_pure, (tyx_run ht _).2]; simp only [hl]; simp [Addr.add_zero']
  unfold sliceV at h
  split at h
  · rename_i e hu
    split at h
    · rename_i q m' v ht hvw
      obtain ⟨hmem, rfl⟩ := findVw_mem hvw
      obtain ⟨ad, len, cap, vs, h1, h2, h3, h4, h4', _⟩ := H.wld.base.2 v (by rw [hv]; exact hmem)
      split at h
      · rename_i hle
        have hle := Nat.le_of_ble_eq_true hle
        have := vC_ok h
        subst this
        obtain ⟨a', l', c', e1, e2, rfl⟩ := hc
        rw [h1] at e1
        simp only [Value.slice.injEq] at e1
        obtain ⟨rfl, rfl, rfl⟩ := e1
        exact ⟨rfl, rfl, _, fin _ _ _ _ q.1 q.2 hu ht (by omega), _, _, _, h1, by omega, rfl⟩
      · exact absurd h (by simp)
    · rename_i q v ht hvw
      obtain ⟨hmem, rfl⟩ := findVw_mem hvw
      obtain ⟨ad, len, cap, vs, h1, h2, h3, h4, h4', _⟩ := H.wld.base.2 v (by rw [hv]; exact hmem)
      obtain ⟨g1, g2⟩ := asgX_ok F hf h
      have := vC_ok g1
      subst this
      rw [mkLss_den] at g2
      simp only [E.den, h2, vint_int, Value.bool.injEq] at g2
      replace g2 := of_decide_eq_false g2
      have hc : x = ρ v.i := hc
      rw [h1] at hc
      subst hc
      have : hh ≤ len := by
        have : (Int.ofNat hh) ≤ Int.ofNat len := by omega
        exact Int.ofNat_le.1 this
      exact ⟨rfl, rfl, _, fin _ _ _ _ q.1 q.2 hu ht (by omega), _, _, _, h1, by omega, rfl⟩
    · exact absurd h (by simp)
  · exact absurd h (by simp)
end

/-! ### Any -/
def loadG (cx : Cx) (B : BK) (fs : Facts) (n0 : Nat) (t : TypeId) (c : SC) : OR := match c with
  | .vad i idx sz o => loadV cx fs n0 t i idx sz o
  | c => loadX cx B n0 t c
def fieldAddrG (cx : Cx) (n0 : Nat) (s : TypeId) (c : SC) (f : Nat) : OR := match c with
  | .vad i idx sz o => fieldAddrV cx n0 s i idx sz o f
  | c => fieldAddrX cx n0 s c f
def viewOf : SC → Option (Nat × Option Nat)
  | .vsl i m => some (i, some m)
  | .e (.var i) => some (i, none)
  | _ => none
def indexAddrG (cx : Cx) (fs : Facts) (n0 : Nat) (t : TypeId) (c : SC) (i : E) : OR := match viewOf c with
  | some (vi, m) => indexAddrV cx fs n0 t vi m i
  | none => indexAddrX cx n0 t c i
def lenG (cx : Cx) (n0 : Nat) (t : TypeId) (c : SC) : OR := match lenX cx n0 t c with
  | .stuck => match viewOf c with
    | some (vi, m) => lenV cx n0 t vi m
    | none => match c, cx.P.underlying t with
      | .nul, some (.slice _) => vE n0 (.int .i64 0)
      | _, _ => .stuck
  | r => r
/-- [:h] of a slice that came in. -/
def sliceG (cx : Cx) (fs : Facts) (n0 : Nat) (t : TypeId) (c : SC) (lo hi : Option E) : OR := match viewOf c, lo, hi with
  | some (vi, m), none, some (.int _ (.ofNat h)) => sliceV cx fs n0 t vi m h
  | _, _, _ => .stuck
section
variable {ρ : Nat → Value} {φ : Nat → List Value → List Value} {cx : Cx} {fx : Fx} {L : LK} {B : BK} {β : Bk} {a : Act} {w : World} {n0 : Nat}
theorem viewOf_is {c : SC} {vi : Nat} {m : Option Nat} (h : viewOf c = some (vi, m)) {x : Value} (hc : c.is ρ φ β x) : isV ρ vi m x := by
  unfold viewOf at h
  split at h
  · simp only [Option.some.injEq, Prod.mk.injEq] at h
    obtain ⟨rfl, rfl⟩ := h
    exact hc
  · simp only [Option.some.injEq, Prod.mk.injEq] at h
    obtain ⟨rfl, rfl⟩ := h
    exact hc
  · exact absurd h (by simp)
theorem loadG_run (F : Fits cx.Γ cx.S ρ φ) (hv : fx.ws.vw = cx.vw) (H : M ρ φ fx L B β a w) {fs : Facts} (hf : fs.hold ρ φ) {t : TypeId} {c : SC} {d : Out} {x : Value} (h : loadG cx B fs n0 t c = .ok d) (hc : c.is ρ φ β x) :
    Reads ρ φ β cx.P w n0 d (Instr.loadAt t x) := by
  unfold loadG at h
  split at h
  · exact loadV_run F hv H hf h hc
  · exact loadX_run H h hc
theorem fieldAddrG_run {s : TypeId} {c : SC} {f : Nat} {d : Out} {x : Value} (h : fieldAddrG cx n0 s c f = .ok d) (hc : c.is ρ φ β x) : Reads ρ φ β cx.P w n0 d (Instr.fieldAt s x f) := by
  unfold fieldAddrG at h
  split at h
  · exact fieldAddrV_run h hc
  · exact fieldAddrX_run h hc
theorem indexAddrG_run (F : Fits cx.Γ cx.S ρ φ) (hv : fx.ws.vw = cx.vw) (H : M ρ φ fx L B β a w) {fs : Facts} (hf : fs.hold ρ φ) {t : TypeId} {c : SC} {i : E} {d : Out} {x : Value} (h : indexAddrG cx fs n0 t c i = .ok d) (hc : c.is ρ φ β x) :
    Reads ρ φ β cx.P w n0 d (Instr.indexAt t x (i.den ρ φ)) := by
  unfold indexAddrG at h
  split at h
  · rename_i vi m hm
    exact indexAddrV_run F hv H hf h (viewOf_is hm hc)
  · exact indexAddrX_run h hc
theorem lenG_run (F : Fits cx.Γ cx.S ρ φ) (hv : fx.ws.vw = cx.vw) (H : M ρ φ fx L B β a w) {t ty : TypeId} {c : SC} {d : Out} {x : Value} (h : lenG cx n0 t c = .ok d) (hc : c.is ρ φ β x) : Reads ρ φ β cx.P w n0 d (Builtin.len_ #[t] ty #[x]) := by
  unfold lenG at h
  split at h
  · split at h
    · rename_i vi m hm
      exact lenV_run hv H h (viewOf_is hm hc)
    · split at h
      · rename_i hu _ _
        have := vE_ok h
        subst this
        obtain ⟨a', c', rfl⟩ := hc
        exact ⟨rfl, rfl, _, by simp [Builtin.len_, run_underlying hu]; rfl, rfl⟩
      · exact absurd h (by simp)
  · exact lenX_run F h hc
theorem sliceG_run (F : Fits cx.Γ cx.S ρ φ) (hv : fx.ws.vw = cx.vw) (H : M ρ φ fx L B β a w) {fs : Facts} (hf : fs.hold ρ φ) {t : TypeId} {c : SC} {lo hi : Option E} {d : Out} {x : Value} (h : sliceG cx fs n0 t c lo hi = .ok d) (hc : c.is ρ φ β x) :
    Reads ρ φ β cx.P w n0 d (Instr.sliceAt t x (lo.map (·.den ρ φ)) (hi.map (·.den ρ φ)) none) := by
  unfold sliceG at h
  split at h
  · rename_i vi m k hh hm
    exact sliceV_run F hv H hf h (viewOf_is hm hc)
  · exact absurd h (by simp)
end
end Go.CX
