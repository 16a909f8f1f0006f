/- CX: slices that came in, looked at by symbol. -/
import Derived.Test.YthakekgdllmbcaaDoorCXd
import Derived.Laws.RangeString
namespace Go.CX
open Go Go.RowKit Go.SX

def asgX (cx : Cx) (fs : Facts) (c : E) (want : Bool) (x : OR) : OR :=
  match dec cx fs c with
  | some b => if b == want then x else .stuck
  | none => match cx.so c with
    | .bool => .split c
    | _ => .stuck
/-- The element's cells. -/
def viewC (v : Vw) (idx : E) (sz o n : Nat) : List SC := (List.range n).map fun j => .e (.el (.var v.g) idx sz (o + j) (v.ss.getD (o + j) .any))
def loadV (cx : Cx) (fs : Facts) (n0 : Nat) (t : TypeId) (i : Nat) (idx : E) (sz o : Nat) : OR :=
  match tyx cx.P t, findVv i cx.vw with
  | some (agg, n), some v =>
    if Nat.beq sz v.ss.length && Nat.ble (o + spanOf agg n) sz then
      asgX cx fs (mkLss idx (.int .i64 0)) false (asgX cx fs (mkLss idx (.var v.l)) true (if agg then vV n0 (.one ⟨true, viewC v idx sz o n⟩) else vE n0 (.el (.var v.g) idx sz o (v.ss.getD o .any))))
    else .stuck
  | _, _ => .stuck
def fieldAddrV (cx : Cx) (n0 : Nat) (s : TypeId) (i : Nat) (idx : E) (sz o f : Nat) : OR :=
  match cx.P.underlying s with
  | some (.struct fs) =>
    match fs[f]? with
    | some fld => match tyx cx.P fld.type with
      | some (_, n) => if Nat.beq n 0 then .stuck else vC n0 (.vad i idx sz (o + fld.offset))
      | none => .stuck
    | none => .stuck
  | _ => .stuck
/-- Less by way of another number. -/
def viaF (cx : Cx) (fs : Facts) (i l : E) : Facts → Bool
  | [] => false
  | (.cmp .lss y m, true) :: r => (m.eqv l && (dec cx fs (.cmp .lss i y) == some true)) || viaF cx fs i l r
  | _ :: r => viaF cx fs i l r
def asgL (cx : Cx) (fs : Facts) (i l : E) (r : OR) : OR := if viaF cx fs i l fs then r else asgX cx fs (mkLss i l) true r
/-- An element's address, of a slice of n (or of all). -/
def indexAddrV (cx : Cx) (fs : Facts) (n0 : Nat) (t : TypeId) (vi : Nat) (m : Option Nat) (i : E) : OR :=
  match cx.P.underlying t, cx.so i with
  | some (.slice e), .int _ =>
    match tyx cx.P e, findVv vi cx.vw with
    | some (_, n), some v => if Nat.beq n v.ss.length then
        asgX cx fs (mkLss i (.int .i64 0)) false (asgL cx fs i (match m with | some m => .int .i64 (Int.ofNat m) | none => .var v.l) (vC n0 (.vad vi i n 0))) else .stuck
    | _, _ => .stuck
  | _, _ => .stuck
def lenV (cx : Cx) (n0 : Nat) (t : TypeId) (vi : Nat) (m : Option Nat) : OR :=
  match cx.P.underlying t, m, findVv vi cx.vw with
  | some (.slice _), some m, _ => vE n0 (.int .i64 (Int.ofNat m))
  | some (.slice _), none, some v => vE n0 (.var v.l)
  | _, _, _ => .stuck
/-- The first h. -/
def sliceV (cx : Cx) (fs : Facts) (n0 : Nat) (t : TypeId) (vi : Nat) (m : Option Nat) (h : Nat) : OR :=
  match cx.P.underlying t with
  | some (.slice e) => match tyx cx.P e, m, findVv vi cx.vw with
    | some _, some m, some _ => if Nat.ble h m then vC n0 (.vsl vi h) else .stuck
    | some _, none, some v => asgX cx fs (mkLss (.var v.l) (.int .i64 (Int.ofNat h))) false (vC n0 (.vsl vi h))
    | _, _, _ => .stuck
  | _ => .stuck

section
variable {ρ : Nat → Value} {φ : Nat → List Value → List Value} {cx : Cx} {fx : Fx} {L : LK} {B : BK} {β : Bk} {a : Act} {w : World} {n0 : Nat}
theorem asgX_ok (F : Fits cx.Γ cx.S ρ φ) {fs : Facts} (hf : fs.hold ρ φ) {c : E} {want : Bool} {x : OR} {d : Out} (h : asgX cx fs c want x = .ok d) : x = .ok d ∧ c.den ρ φ = .bool want := by
  unfold asgX at h
  split at h
  · rename_i b hb
    split at h
    · rename_i e
      have e : b = want := by simpa using e
      subst e
      exact ⟨h, dec_sound F hf hb⟩
    · exact absurd h (by simp)
  · split at h <;> exact absurd h (by simp)
theorem loadV_run (F : Fits cx.Γ cx.S ρ φ) (hv : fx.ws.vw = cx.vw) (H : M ρ φ fx L B β a w) {fs : Facts} (hf : fs.hold ρ φ) {t : TypeId} {i : Nat} {idx : E} {sz o : Nat} {d : Out} {x : Value} (h : loadV cx fs n0 t i idx sz o = .ok d) (hc : (SC.vad i idx sz o).is ρ φ β x) :
    Reads ρ φ β cx.P w n0 d (Instr.loadAt t x) := by
  unfold loadV at h
  split at h
  · rename_i agg n v ht hvw
    have htr := tyx_run ht
    obtain ⟨⟨hmem, rfl⟩, hss⟩ := findVv_mem hvw
    obtain ⟨ad, len, cap, vs, h1, h2, h3, h4, h4', h5, h6, h7, h8⟩ := (H.wld.base.2 v (by rw [hv]; exact hmem)).old hss
    obtain ⟨b, off, n', c', hb, rfl⟩ := hc
    rw [h1] at hb
    simp only [Value.slice.injEq] at hb
    obtain ⟨rfl, rfl, rfl⟩ := hb
    split at h
    · rename_i hcond
      rw [Bool.and_eq_true] at hcond
      have hsz := Nat.eq_of_beq_eq_true hcond.1
      have hon := Nat.le_of_ble_eq_true hcond.2
      subst hsz
      obtain ⟨g1, g2⟩ := asgX_ok F hf h
      obtain ⟨g3, g4⟩ := asgX_ok F hf g1
      rw [mkLss_den] at g2 g4
      simp only [E.den, vint_int, Value.bool.injEq] at g2 g4
      replace g2 := of_decide_eq_false g2
      replace g4 := of_decide_eq_true g4
      rw [h2, vint_int] at g4
      obtain ⟨k, hk⟩ : ∃ k : Nat, vint (idx.den ρ φ) = Int.ofNat k := ⟨(vint (idx.den ρ φ)).toNat, (Int.toNat_of_nonneg (by omega)).symm⟩
      rw [hk] at g4
      have hkl : k < len := Int.ofNat_lt.1 g4
      rcases h8 with ⟨h8, _⟩ | ⟨b', off', h8, hbl, hcell⟩
      · exact absurd h8 (by simp)
      simp only [Option.some.injEq, Addr.mk.injEq, and_true] at h8
      obtain ⟨rfl, rfl⟩ := h8
      have hold : ∀ o, w.cell? ⟨b, o, none⟩ = fx.ws.toWorld.cell? ⟨b, o, none⟩ := fun o => World.cell?_of_block (w := fx.ws.toWorld) (H.wld.base.1 b hbl)
      have hin : ∀ j, j < v.ss.length → k * v.ss.length + j < vs.length := by
        intro j hj
        rw [h4]
        have : (k + 1) * v.ss.length ≤ len * v.ss.length := Nat.mul_le_mul_right _ hkl
        rw [Nat.add_mul, Nat.one_mul] at this
        omega
      have hel : ∀ j, j < v.ss.length → ∃ u, w.cell? ⟨b, off + k * v.ss.length + j, none⟩ = some u ∧ u = (E.el (.var v.g) idx v.ss.length j (v.ss.getD j .any)).den ρ φ := by
        intro j hj
        have hlt := hin j hj
        refine ⟨vs[k * v.ss.length + j], ?_, ?_⟩
        · rw [hold, Nat.add_assoc]
          exact hcell _ _ (List.getElem?_eq_getElem hlt)
        · have hs := h7 (k * v.ss.length + j) _ (List.getElem?_eq_getElem hlt)
          have hmod : (k * v.ss.length + j) % v.ss.length = j := by
            rw [Nat.add_comm, Nat.add_mul_mod_self_right, Nat.mod_eq_of_lt hj]
          rw [hmod] at hs
          simp only [E.den, h3, vtup, hk]
          have hget : vs.getD (k * v.ss.length + j) undef = vs[k * v.ss.length + j] := by
            rw [List.getD_eq_getElem?_getD, List.getElem?_eq_getElem hlt, Option.getD_some]
          rw [show (Int.ofNat k).toNat = k from rfl, hget]
          exact (coe_id hs).symm
      have hk' : (vint (idx.den ρ φ)).toNat = k := by rw [hk]; rfl
      rw [hk']
      cases agg with
      | true =>
        simp only [if_true] at g3
        simp only [spanOf] at hon
        have := vV_ok g3
        subst this
        have hall : ∀ (m s : Nat), s + m ≤ v.ss.length → ∃ us : List Value, us.length = m ∧ (∀ j u, us[j]? = some u → w.cell? ⟨b, off + k * v.ss.length + (s + j), none⟩ = some u) ∧
            All2 (SC.is ρ φ β) ((List.range' s m).map fun j => .e (.el (.var v.g) idx v.ss.length j (v.ss.getD j .any))) us := by
          intro m
          induction m with
          | zero => intro s _; exact ⟨[], rfl, by simp, trivial⟩
          | succ m ih =>
            intro s hs
            obtain ⟨u, hu1, hu2⟩ := hel s (by omega)
            obtain ⟨us, h9, h10, h11⟩ := ih (s + 1) (by omega)
            refine ⟨u :: us, by simp [h9], fun j x hx => ?_, hu2, h11⟩
            cases j with
            | zero => simp at hx; subst hx; simpa using hu1
            | succ j =>
              have := h10 j x (by simpa using hx)
              rwa [show s + 1 + j = s + (j + 1) by omega] at this
        obtain ⟨us, h9, h10, h11⟩ := hall n o hon
        refine ⟨rfl, rfl, .agg us.toArray, ?_, us, rfl, ?_⟩
        · have hl := run_loadCells_list (P := cx.P) w ⟨b, off + k * v.ss.length + o, none⟩ us (fun j u hj => by
            rw [Addr.add_lit]
            have := h10 j u hj
            rwa [← Nat.add_assoc] at this)
          rw [h9] at hl
          simp [Instr.loadAt, Instr.sureAddr, loadVar, htr, hl]
        · have e : viewC v idx v.ss.length o n = ((List.range' o n).map fun j => SC.e (.el (.var v.g) idx v.ss.length j (v.ss.getD j .any))) := by
            unfold viewC
            rw [List.range'_eq_map_range, List.map_map]
            rfl
          rw [e]
          exact h11
      | false =>
        simp only [Bool.false_eq_true, if_false] at g3
        simp only [spanOf] at hon
        have := vE_ok g3
        subst this
        obtain ⟨u, hu1, hu2⟩ := hel o (by omega)
        refine ⟨rfl, rfl, u, ?_, hu2⟩
        simp [Instr.loadAt, Instr.sureAddr, loadVar, htr, hu1]
    · exact absurd h (by simp)
  · exact absurd h (by simp)
theorem fieldAddrV_run {s : TypeId} {i : Nat} {idx : E} {sz o f : Nat} {d : Out} {x : Value} (h : fieldAddrV cx n0 s i idx sz o f = .ok d) (hc : (SC.vad i idx sz o).is ρ φ β x) :
    Reads ρ φ β cx.P w n0 d (Instr.fieldAt s x f) := by
  unfold fieldAddrV at h
  split at h
  · rename_i fs hu
    obtain ⟨b, off, n', c', hb, rfl⟩ := hc
    split at h
    · rename_i fld hfld
      split at h
      · rename_i ag n ht
        split at h
        · exact absurd h (by simp)
        · rename_i hn
          have hn : n ≠ 0 := by
            intro e; subst e; simp at hn
          have := vC_ok h
          subst this
          refine ⟨rfl, rfl, .pointer (some ⟨b, off + (vint (idx.den ρ φ)).toNat * sz + (o + fld.offset), none⟩), ?_, b, off, n', c', hb, rfl⟩
          simp [Instr.fieldAt, run_underlying hu, hfld, Instr.sureAddr, fieldPlace, (tyx_run ht _).2, hn, Addr.add_lit, Nat.add_assoc]
      · exact absurd h (by simp)
    · exact absurd h (by simp)
  · exact absurd h (by simp)
/-- A slice of the first m, or of all, of one that came in. -/
def isV (ρ : Nat → Value) (vi : Nat) (m : Option Nat) (x : Value) : Prop := match m with
  | some m => ∃ a len cap, ρ vi = .slice a len cap ∧ m ≤ len ∧ x = .slice a m cap
  | none => x = ρ vi
theorem viaF_ok (F : Fits cx.Γ cx.S ρ φ) {fs : Facts} (hf : fs.hold ρ φ) {i l : E} : ∀ {r : Facts}, r.hold ρ φ → viaF cx fs i l r = true → (E.cmp .lss i l).den ρ φ = .bool true
  | [], _, h => by simp [viaF] at h
  | (e, b) :: r, hr, h => by
    have hr' : Facts.hold ρ φ r := fun p hp => hr p (List.mem_cons_of_mem _ hp)
    unfold viaF at h
    split at h
    · cases h
    · rename_i y m r' heq
      simp only [List.cons.injEq, Prod.mk.injEq] at heq
      obtain ⟨⟨rfl, rfl⟩, rfl⟩ := heq
      rw [Bool.or_eq_true, Bool.and_eq_true] at h
      rcases h with ⟨h1, h2⟩ | h
      · have g1 := hr _ List.mem_cons_self
        have g2 := dec_sound F hf (eq_of_beq h2)
        rw [E.eqv_eq h1] at g1
        have g1 : Value.bool (decide (vint (y.den ρ φ) < vint (l.den ρ φ))) = .bool true := g1
        have g2 : Value.bool (decide (vint (i.den ρ φ) < vint (y.den ρ φ))) = .bool true := g2
        have g1 := of_decide_eq_true (Value.bool.inj g1)
        have g2 := of_decide_eq_true (Value.bool.inj g2)
        show Value.bool (decide (vint (i.den ρ φ) < vint (l.den ρ φ))) = .bool true
        rw [decide_eq_true (by omega)]
      · exact viaF_ok F hf hr' h
    · rename_i heq
      simp only [List.cons.injEq] at heq
      obtain ⟨_, rfl⟩ := heq
      exact viaF_ok F hf hr' h
theorem asgL_ok (F : Fits cx.Γ cx.S ρ φ) {fs : Facts} (hf : fs.hold ρ φ) {i l : E} {r : OR} {d : Out} (h : asgL cx fs i l r = .ok d) : r = .ok d ∧ (mkLss i l).den ρ φ = .bool true := by
  unfold asgL at h
  split at h
  · rename_i hv
    exact ⟨h, by rw [mkLss_den]; exact viaF_ok F hf hf hv⟩
  · exact asgX_ok F hf h
theorem indexAddrV_run (F : Fits cx.Γ cx.S ρ φ) (hv : fx.ws.vw = cx.vw) (H : M ρ φ fx L B β a w) {fs : Facts} (hf : fs.hold ρ φ) {t : TypeId} {vi : Nat} {m : Option Nat} {i : E} {d : Out} {x : Value} (h : indexAddrV cx fs n0 t vi m i = .ok d) (hc : isV ρ vi m x) :
    Reads ρ φ β cx.P w n0 d (Instr.indexAt t x (i.den ρ φ)) := by
  unfold indexAddrV at h
  split at h
  · rename_i e k hu hi
    have ei := so_int F hi
    split at h
    · rename_i ag n v ht hvw
      obtain ⟨⟨hmem, rfl⟩, hss⟩ := findVv_mem hvw
      obtain ⟨ad, len, cap, vs, h1, h2, h3, h4, h4', h5, h6, h7, h8⟩ := (H.wld.base.2 v (by rw [hv]; exact hmem)).old hss
      split at h
      · obtain ⟨g1, g2⟩ := asgX_ok F hf h
        obtain ⟨g3, g4⟩ := asgL_ok F hf g1
        have := vC_ok g3
        subst this
        rw [mkLss_den] at g2 g4
        simp only [E.den, vint_int, Value.bool.injEq] at g2 g4
        replace g2 := of_decide_eq_false g2
        replace g4 := of_decide_eq_true g4
        obtain ⟨mm, hmm, hx, g5⟩ : ∃ mm, mm ≤ len ∧ x = .slice ad mm cap ∧ vint (i.den ρ φ) < (mm : Int) := by
          cases m with
          | some m =>
            obtain ⟨a', l', c', e1, e2, e3⟩ := hc
            rw [h1] at e1
            simp only [Value.slice.injEq] at e1
            obtain ⟨rfl, rfl, rfl⟩ := e1
            exact ⟨m, e2, e3, by simpa [E.den] using g4⟩
          | none =>
            have hc : x = ρ v.i := hc
            refine ⟨len, Nat.le_refl _, hc.trans h1, ?_⟩
            simp only [E.den, h2, vint_int] at g4
            exact g4
        subst hx
        rcases h8 with ⟨h8, h9, _⟩ | ⟨b', off', h8, _⟩
        · subst h9
          exfalso
          omega
        subst h8
        refine ⟨rfl, rfl, .pointer (some ⟨b', off' + (vint (i.den ρ φ)).toNat * n + 0, none⟩), ?_, b', off', len, cap, h1, rfl⟩
        rw [ei]
        simp [Instr.indexAt, run_underlying hu, asIntOf, (tyx_run ht _).2, Addr.add_lit, g5, show 0 ≤ vint (i.den ρ φ) by omega]
      · exact absurd h (by simp)
    · exact absurd h (by simp)
  · exact absurd h (by simp)
theorem lenV_run (hv : fx.ws.vw = cx.vw) (H : M ρ φ fx L B β a w) {t ty : TypeId} {vi : Nat} {m : Option Nat} {d : Out} {x : Value} (h : lenV cx n0 t vi m = .ok d) (hc : isV ρ vi m x) : Reads ρ φ β cx.P w n0 d (Builtin.len_ #[t] ty #[x]) := by
  unfold lenV at h
  split at h
  · rename_i e m' _ hu
    have := vE_ok h
    subst this
    obtain ⟨a', l', c', e1, e2, rfl⟩ := hc
    exact ⟨rfl, rfl, _, by simp [Builtin.len_, run_underlying hu]; rfl, rfl⟩
  · rename_i e v hu hvw
    have := vE_ok h
    subst this
    obtain ⟨⟨hmem, rfl⟩, hss⟩ := findVv_mem hvw
    obtain ⟨ad, len, cap, vs, h1, h2, _⟩ := (H.wld.base.2 v (by rw [hv]; exact hmem)).old hss
    have hc : x = ρ v.i := hc
    rw [h1] at hc
    subst hc
    exact ⟨rfl, rfl, .int .i64 (Int.ofNat len), by simp [Builtin.len_, run_underlying hu]; rfl, h2.symm⟩
  · exact absurd h (by simp)
theorem sliceV_run (F : Fits cx.Γ cx.S ρ φ) (hv : fx.ws.vw = cx.vw) (H : M ρ φ fx L B β a w) {fs : Facts} (hf : fs.hold ρ φ) {t : TypeId} {vi : Nat} {m : Option Nat} {hh : Nat} {k : IntKind} {d : Out} {x : Value} (h : sliceV cx fs n0 t vi m hh = .ok d) (hc : isV ρ vi m x) :
    Reads ρ φ β cx.P w n0 d (Instr.sliceAt t x none (some (.int k (Int.ofNat hh))) none) := by
  have fin : ∀ (a : Option Addr) (mm cap : Nat) (e : TypeId) (ag : Bool) (n : Nat), cx.P.underlying t = some (.slice e) → tyx cx.P e = some (ag, n) → hh ≤ cap →
      (Instr.sliceAt t (.slice a mm cap) none (some (.int k (Int.ofNat hh))) none).run cx.P w = .ok (.slice a hh cap) w := by
    intro a mm cap e ag n hu ht hle
    have hl : ∀ code, (Instr.sliceBound (.int k (Int.ofNat hh)) cap code).run cx.P w = .ok hh w := fun code => bound_ok code hle
    cases a with
    | none => simp only [Instr.sliceAt, Instr.slice, Sem.run_bind, run_underlying hu, Result.andThen_ok, Instr.sliceBounds, Sem.run_pure, (tyx_run ht _).2]; simp only [hl]; simp
    | some a => simp only [Instr.sliceAt, Instr.slice, Sem.run_bind, run_underlying hu, Result.andThen_ok, Instr.sliceBounds, Sem.run_pure, (tyx_run ht _).2]; simp only [hl]; simp [Addr.add_zero']
  unfold sliceV at h
  split at h
  · rename_i e hu
    split at h
    · rename_i q m' v ht hvw
      obtain ⟨⟨hmem, rfl⟩, hss⟩ := findVv_mem hvw
      obtain ⟨ad, len, cap, vs, h1, h2, h3, h4, h4', _⟩ := (H.wld.base.2 v (by rw [hv]; exact hmem)).old hss
      split at h
      · rename_i hle
        have hle := Nat.le_of_ble_eq_true hle
        have := vC_ok h
        subst this
        obtain ⟨a', l', c', e1, e2, rfl⟩ := hc
        rw [h1] at e1
        simp only [Value.slice.injEq] at e1
        obtain ⟨rfl, rfl, rfl⟩ := e1
        exact ⟨rfl, rfl, _, fin _ _ _ _ q.1 q.2 hu ht (by omega), _, _, _, h1, by omega, rfl⟩
      · exact absurd h (by simp)
    · rename_i q v ht hvw
      obtain ⟨⟨hmem, rfl⟩, hss⟩ := findVv_mem hvw
      obtain ⟨ad, len, cap, vs, h1, h2, h3, h4, h4', _⟩ := (H.wld.base.2 v (by rw [hv]; exact hmem)).old hss
      obtain ⟨g1, g2⟩ := asgX_ok F hf h
      have := vC_ok g1
      subst this
      rw [mkLss_den] at g2
      simp only [E.den, h2, vint_int, Value.bool.injEq] at g2
      replace g2 := of_decide_eq_false g2
      have hc : x = ρ v.i := hc
      rw [h1] at hc
      subst hc
      have : hh ≤ len := by
        have : (Int.ofNat hh) ≤ Int.ofNat len := by omega
        exact Int.ofNat_le.1 this
      exact ⟨rfl, rfl, _, fin _ _ _ _ q.1 q.2 hu ht (by omega), _, _, _, h1, by omega, rfl⟩
    · exact absurd h (by simp)
  · exact absurd h (by simp)
end

/-! ### Any -/
/-- A laid table's number. -/
def tabC (v : Vw) (k : Nat) : E := .int (tabK (v.l % 8)) (Int.ofNat (v.g / 2 ^ (64 * k) % 2 ^ 64))
def loadT (cx : Cx) (n0 : Nat) (t : TypeId) (g off : Nat) : OR := match tyx cx.P t, findT g cx.vw with
  | some (true, n), some v => if Nat.ble (off + n) (v.l / 8) then vV n0 (.one ⟨true, (List.range' off n).map fun k => .e (tabC v k)⟩) else .stuck
  | some (false, _), some v => if Nat.blt off (v.l / 8) then vE n0 (.int (tabK (v.l % 8)) (Int.ofNat (v.g / 2 ^ (64 * off) % 2 ^ 64))) else .stuck
  | _, _ => .stuck
/-- A cell of a block at a number that is not known: what the number picks. -/
def cellsE : List SC → Option (List E)
  | [] => some []
  | .e x :: cs => match cellsE cs with
    | some es => some (x :: es)
    | none => none
  | _ => none
def loadP (cx : Cx) (B : BK) (n0 : Nat) (t : TypeId) (id off n : Nat) (i : E) : OR :=
  match tyx cx.P t with
  | some (false, _) => match rowB B id with
    | some row => match cellsE ((row.drop off).take n) with
      | some es => if Nat.beq es.length n && (cx.so i == .int .i64) then vE n0 (tabT i (fun k => es.getD k (.var k)) n (.int .u64 0)) else .stuck
      | none => .stuck
    | none => .stuck
  | _ => .stuck
def indexAddrP (cx : Cx) (fs : Facts) (n0 : Nat) (t : TypeId) (c : SC) (i : E) : OR :=
  match c, cx.P.underlying t with
  | .ptr id off, some (.array len e) => match tyx cx.P e with
    | some (_, 1) => if (cx.so i == .int .i64) && ((dec cx fs (ixLt i 0) == some false) && (dec cx fs (ixLt i len) == some true)) then vC n0 (.px id off len i) else .stuck
    | _ => .stuck
  | _, _ => .stuck
def loadG (cx : Cx) (B : BK) (fs : Facts) (n0 : Nat) (t : TypeId) (c : SC) : OR := match c with
  | .vad i idx sz o => loadV cx fs n0 t i idx sz o
  | .gad g off => loadT cx n0 t g off
  | .px id off n i => loadP cx B n0 t id off n i
  | c => loadX cx B n0 t c
def fieldAddrG (cx : Cx) (n0 : Nat) (s : TypeId) (c : SC) (f : Nat) : OR := match c with
  | .vad i idx sz o => fieldAddrV cx n0 s i idx sz o f
  | c => fieldAddrX cx n0 s c f
def viewOf : SC → Option (Nat × Option Nat)
  | .vsl i m => some (i, some m)
  | .e (.var i) => some (i, none)
  | _ => none
/-- A number that the facts tell. -/
def seekF (i : E) : Facts → Option Nat
  | [] => none
  | (.cmp .eql x (.int _ (.ofNat n)), true) :: fs => if x.eqv i then some n else seekF i fs
  | _ :: fs => seekF i fs
def litOf (cx : Cx) (fs : Facts) (i : E) : E := match i with
  | .int k n => .int k n
  | i => match seekF i fs with
    | some n => (match cx.so i with
      | .int k => .int k (Int.ofNat n)
      | _ => i)
    | none => i
def indexAddrG (cx : Cx) (fs : Facts) (n0 : Nat) (t : TypeId) (c : SC) (i : E) : OR := match viewOf c with
  | some (vi, m) => indexAddrV cx fs n0 t vi m i
  | none => match indexAddrX cx n0 t c (litOf cx fs i) with
    | .ok d => .ok d
    | _ => indexAddrP cx fs n0 t c i
def lenG (cx : Cx) (n0 : Nat) (t : TypeId) (c : SC) : OR := match lenX cx n0 t c with
  | .stuck => match viewOf c with
    | some (vi, m) => lenV cx n0 t vi m
    | none => match c, cx.P.underlying t with
      | .nul, some (.slice _) => vE n0 (.int .i64 0)
      | _, _ => .stuck
  | r => r
/-- [:h] of a slice that came in. -/
def sliceG (cx : Cx) (fs : Facts) (n0 : Nat) (t : TypeId) (c : SC) (lo hi : Option E) : OR := match viewOf c, lo, hi with
  | some (vi, m), none, some (.int _ (.ofNat h)) => sliceV cx fs n0 t vi m h
  | _, _, _ => .stuck
section
variable {ρ : Nat → Value} {φ : Nat → List Value → List Value} {cx : Cx} {fx : Fx} {L : LK} {B : BK} {β : Bk} {a : Act} {w : World} {n0 : Nat}
theorem viewOf_is {c : SC} {vi : Nat} {m : Option Nat} (h : viewOf c = some (vi, m)) {x : Value} (hc : c.is ρ φ β x) : isV ρ vi m x := by
  unfold viewOf at h
  split at h
  · simp only [Option.some.injEq, Prod.mk.injEq] at h
    obtain ⟨rfl, rfl⟩ := h
    exact hc
  · simp only [Option.some.injEq, Prod.mk.injEq] at h
    obtain ⟨rfl, rfl⟩ := h
    exact hc
  · exact absurd h (by simp)
theorem loadT_run (hv : fx.ws.vw = cx.vw) (H : M ρ φ fx L B β a w) {t : TypeId} {g off : Nat} {d : Out} (h : loadT cx n0 t g off = .ok d) : Reads ρ φ β cx.P w n0 d (Instr.loadAt t (.pointer (some ⟨g, off, none⟩))) := by
  unfold loadT at h
  split at h
  · rename_i n v ht hft
    have htr := tyx_run ht
    obtain ⟨hmem, rfl, hs⟩ := findT_mem hft
    obtain ⟨_, hlt, hcell⟩ := (H.wld.base.2 v (by rw [hv]; exact hmem)).tab hs
    split at h
    · rename_i hk
      have hk := Nat.le_of_ble_eq_true hk
      have := vV_ok h
      subst this
      have hc : ∀ k, k < v.l / 8 → w.cell? ⟨v.i, k, none⟩ = some ((tabC v k).den ρ φ) := fun k hk => by
        rw [World.cell?_of_block (w := fx.ws.toWorld) (H.wld.base.1 v.i hlt)]
        exact hcell k hk
      have hl := run_loadCells_list (P := cx.P) w ⟨v.i, off, none⟩ ((List.range' off n).map fun k => (tabC v k).den ρ φ) (fun j u hj => by
        rw [Addr.add_lit]
        rw [List.getElem?_map, Option.map_eq_some_iff] at hj
        obtain ⟨k, hk', rfl⟩ := hj
        by_cases hj : j < n
        · rw [List.getElem?_range' hj] at hk'
          simp only [Option.some.injEq] at hk'
          subst hk'
          rw [Nat.one_mul]
          exact hc _ (by omega)
        · rw [List.getElem?_eq_none (by simp; omega)] at hk'
          cases hk')
      rw [List.length_map, List.length_range'] at hl
      refine ⟨rfl, rfl, .agg ((List.range' off n).map fun k => (tabC v k).den ρ φ).toArray, ?_, _, rfl, ?_⟩
      · simp [Instr.loadAt, Instr.sureAddr, loadVar, htr, hl]
      · have all : ∀ l : List Nat, All2 (SC.is ρ φ β) (l.map fun k => SC.e (tabC v k)) (l.map fun k => (tabC v k).den ρ φ) := by
          intro l
          induction l with
          | nil => trivial
          | cons a l ih => exact ⟨rfl, ih⟩
        exact all _
    · exact absurd h (by simp)
  · rename_i n v ht hft
    have htr := tyx_run ht
    obtain ⟨hmem, rfl, hs⟩ := findT_mem hft
    obtain ⟨_, hlt, hcell⟩ := (H.wld.base.2 v (by rw [hv]; exact hmem)).tab hs
    split at h
    · rename_i hk
      have hk := blt_lt hk
      have := vE_ok h
      subst this
      have hc : w.cell? ⟨v.i, off, none⟩ = some (.int (tabK (v.l % 8)) (Int.ofNat (v.g / 2 ^ (64 * off) % 2 ^ 64))) := by
        rw [World.cell?_of_block (w := fx.ws.toWorld) (H.wld.base.1 v.i hlt)]
        exact hcell off hk
      refine ⟨rfl, rfl, _, ?_, rfl⟩
      simp [Instr.loadAt, Instr.sureAddr, loadVar, htr, hc, E.den]
    · exact absurd h (by simp)
  · exact absurd h (by simp)
theorem ixLt_den {x : E} {v : Int} (hx : x.den ρ φ = .int .i64 v) (k : Nat) : (ixLt x k).den ρ φ = .bool (decide (v < (k : Int))) := by
  show Value.bool (decide (vint (x.den ρ φ) < Int.ofNat k)) = _
  rw [hx]; rfl
theorem dec_lt (F : Fits cx.Γ cx.S ρ φ) {fs : Facts} (hf : fs.hold ρ φ) {x : E} {v : Int} (hx : x.den ρ φ = .int .i64 v) {k : Nat} {b : Bool} (h : dec cx fs (ixLt x k) = some b) : decide (v < (k : Int)) = b := by
  have := dec_sound F hf h
  rw [ixLt_den hx] at this
  exact Value.bool.inj this
theorem balT_den {x : E} {f : Nat → E} {j : Nat} (hx : x.den ρ φ = .int .i64 (j : Int)) : ∀ (m lo n : Nat), lo ≤ j → j < lo + n → n ≤ 2 ^ m → (balT x f m lo n).den ρ φ = (f j).den ρ φ
  | 0, lo, n, h1, h2, h3 => by
    have : lo = j := by simp at h3; omega
    subst this; rfl
  | m + 1, lo, n, h1, h2, h3 => by
    unfold balT
    split
    · rename_i hn
      have hn := Nat.eq_of_beq_eq_true hn
      have : lo = j := by omega
      subst this; rfl
    · have hp : 2 ^ (m + 1) = 2 * 2 ^ m := by rw [Nat.pow_succ]; omega
      show (if vbool ((ixLt x (lo + n / 2)).den ρ φ) then _ else _) = _
      rw [ixLt_den hx]
      show (if decide ((j : Int) < ((lo + n / 2 : Nat) : Int)) = true then _ else _) = _
      by_cases e : j < lo + n / 2
      · rw [if_pos (decide_eq_true (by omega))]
        exact balT_den hx m lo (n / 2) h1 e (by omega)
      · rw [if_neg (by rw [decide_eq_false (by omega)]; simp)]
        exact balT_den hx m (lo + n / 2) (n - n / 2) (by omega) (by omega) (by omega)
theorem tabT_in {x : E} {f : Nat → E} {j N : Nat} {d : E} (hx : x.den ρ φ = .int .i64 (j : Int)) (hj : j < N) : (tabT x f N d).den ρ φ = (f j).den ρ φ := by
  unfold tabT
  show (if vbool ((ixLt x 0).den ρ φ) then _ else if vbool ((ixLt x N).den ρ φ) then _ else _) = _
  rw [ixLt_den hx, ixLt_den hx]
  show (if decide ((j : Int) < ((0 : Nat) : Int)) = true then _ else if decide ((j : Int) < (N : Int)) = true then _ else _) = _
  rw [if_neg (by rw [decide_eq_false (by omega)]; simp), if_pos (decide_eq_true (by omega))]
  exact balT_den hx N 0 N (by omega) (by omega) (Nat.le_of_lt Nat.lt_two_pow_self)
theorem cellsE_is {β : Bk} : ∀ {cs : List SC} {es : List E} {vs : List Value}, cellsE cs = some es → All2 (SC.is ρ φ β) cs vs → vs = es.map (·.den ρ φ)
  | [], es, vs, h, ha => by
    simp only [cellsE, Option.some.injEq] at h
    subst h
    cases vs with
    | nil => rfl
    | cons _ _ => exact ha.elim
  | .e x :: cs, es, vs, h, ha => by
    simp only [cellsE] at h
    split at h
    · rename_i es' hes
      simp only [Option.some.injEq] at h
      subst h
      cases vs with
      | nil => exact ha.elim
      | cons v vs =>
        rw [cellsE_is hes ha.2, show v = x.den ρ φ from ha.1]
        rfl
    · cases h
  | .any :: _, _, _, h, _ => by simp [cellsE] at h
  | .ptr _ _ :: _, _, _, h, _ => by simp [cellsE] at h
  | .slc _ _ _ _ :: _, _, _, h, _ => by simp [cellsE] at h
  | .sla _ _ _ _ :: _, _, _, h, _ => by simp [cellsE] at h
  | .vad _ _ _ _ :: _, _, _, h, _ => by simp [cellsE] at h
  | .vsl _ _ :: _, _, _, h, _ => by simp [cellsE] at h
  | .nul :: _, _, _, h, _ => by simp [cellsE] at h
  | .itr _ _ :: _, _, _, h, _ => by simp [cellsE] at h
  | .gad _ _ :: _, _, _, h, _ => by simp [cellsE] at h
  | .txt _ :: _, _, _, h, _ => by simp [cellsE] at h
  | .gh _ _ :: _, _, _, h, _ => by simp [cellsE] at h
  | .px _ _ _ _ :: _, _, _, h, _ => by simp [cellsE] at h
  | .fp _ _ _ :: _, _, _, h, _ => by simp [cellsE] at h
theorem so_i64 (F : Fits cx.Γ cx.S ρ φ) {i : E} (h : (cx.so i == .int .i64) = true) : ∃ n, i.den ρ φ = .int .i64 n := by
  have := E.so_has F i
  rw [show i.so cx.Γ cx.S = .int .i64 from eq_of_beq h] at this
  obtain ⟨n, hn, _⟩ := this
  exact ⟨n, hn⟩
theorem loadP_run (F : Fits cx.Γ cx.S ρ φ) (H : M ρ φ fx L B β a w) {t : TypeId} {id off n : Nat} {i : E} {d : Out} {x : Value} (h : loadP cx B n0 t id off n i = .ok d) (hc : (SC.px id off n i).is ρ φ β x) :
    Reads ρ φ β cx.P w n0 d (Instr.loadAt t x) := by
  unfold loadP at h
  split at h
  · rename_i m ht
    split at h
    · rename_i row hr
      split at h
      · rename_i es hes
        split at h
        · rename_i hn
          rw [Bool.and_eq_true] at hn
          have hl := Nat.eq_of_beq_eq_true hn.1
          obtain ⟨j, hj⟩ := so_i64 F hn.2
          have := vE_ok h
          subst this
          obtain ⟨b, n', hb, ⟨h0, h1⟩, rfl⟩ := hc
          rw [hj] at h0 h1 ⊢
          have h0 : 0 ≤ j := h0
          have h1 : j < (n : Int) := h1
          obtain ⟨k, rfl⟩ := Int.eq_ofNat_of_zero_le h0
          have hk : k < n := by omega
          obtain ⟨hr, hI⟩ := rowB_spec hr
          obtain ⟨arr, T, _, h2, h3, h4, h5⟩ := H.wld.rows hr hI hb
          have hv := cellsE_is hes ((h5.drop off).take n)
          have hcell : w.cell? ⟨b, off + k, none⟩ = some ((es.getD k (.var k)).den ρ φ) := by
            have e1 : (((arr.toList.take row.length).drop off).take n)[k]? = (es.map (·.den ρ φ))[k]? := by rw [hv]
            rw [List.getElem?_take_of_lt hk, List.getElem?_drop, List.getElem?_map, List.getElem?_eq_getElem (show k < es.length by omega)] at e1
            rw [List.getD_eq_getElem?_getD, List.getElem?_eq_getElem (show k < es.length by omega)]
            rw [List.getElem?_take] at e1
            split at e1
            · simp only [World.cell?, h2, Option.isSome_none, Bool.false_eq_true, if_false]
              simpa using e1
            · simp at e1
          refine ⟨rfl, rfl, (es.getD k (.var k)).den ρ φ, ?_, ?_⟩
          · have htr := tyx_run ht
            show (Instr.loadAt t (.pointer (some ⟨b, off + (vint (.int .i64 (k : Int))).toNat, none⟩))).run cx.P w = _
            rw [show (vint (.int .i64 (k : Int))).toNat = k from Int.toNat_natCast k]
            simp [Instr.loadAt, Instr.sureAddr, loadVar, htr, hcell]
          · show _ = E.den ρ φ _
            rw [tabT_in hj hk]
        · exact absurd h (by simp)
      · exact absurd h (by simp)
    · exact absurd h (by simp)
  · exact absurd h (by simp)
theorem loadG_run (F : Fits cx.Γ cx.S ρ φ) (hv : fx.ws.vw = cx.vw) (H : M ρ φ fx L B β a w) {fs : Facts} (hf : fs.hold ρ φ) {t : TypeId} {c : SC} {d : Out} {x : Value} (h : loadG cx B fs n0 t c = .ok d) (hc : c.is ρ φ β x) :
    Reads ρ φ β cx.P w n0 d (Instr.loadAt t x) := by
  unfold loadG at h
  split at h
  · exact loadV_run F hv H hf h hc
  · have hc : x = _ := hc
    subst hc
    exact loadT_run hv H h
  · exact loadP_run F H h hc
  · exact loadX_run H h hc
theorem fieldAddrG_run {s : TypeId} {c : SC} {f : Nat} {d : Out} {x : Value} (h : fieldAddrG cx n0 s c f = .ok d) (hc : c.is ρ φ β x) : Reads ρ φ β cx.P w n0 d (Instr.fieldAt s x f) := by
  unfold fieldAddrG at h
  split at h
  · exact fieldAddrV_run h hc
  · exact fieldAddrX_run h hc
theorem seekF_ok {i : E} {n : Nat} : ∀ {fs : Facts}, fs.hold ρ φ → seekF i fs = some n → vint (i.den ρ φ) = Int.ofNat n
  | [], _, h => by simp [seekF] at h
  | (e, b) :: fs, hf, h => by
    have hr : Facts.hold ρ φ fs := fun p hp => hf p (List.mem_cons_of_mem _ hp)
    unfold seekF at h
    split at h
    · cases h
    · rename_i x k m fs' heq
      simp only [List.cons.injEq, Prod.mk.injEq] at heq
      obtain ⟨⟨rfl, rfl⟩, rfl⟩ := heq
      split at h
      · rename_i hx
        simp only [Option.some.injEq] at h
        subst h
        have h := hf _ List.mem_cons_self
        have h : Value.bool (vint (x.den ρ φ) == Int.ofNat m) = .bool true := h
        rw [← E.eqv_eq hx]
        exact eq_of_beq (Value.bool.inj h)
      · exact seekF_ok hr h
    · rename_i heq
      simp only [List.cons.injEq] at heq
      obtain ⟨_, rfl⟩ := heq
      exact seekF_ok hr h
theorem litOf_den (F : Fits cx.Γ cx.S ρ φ) {fs : Facts} (hf : fs.hold ρ φ) (i : E) : (litOf cx fs i).den ρ φ = i.den ρ φ := by
  unfold litOf
  split
  · rfl
  · split
    · rename_i n hn
      split
      · rename_i k hk
        have hh := E.so_has F i
        rw [show i.so cx.Γ cx.S = .int k from hk] at hh
        obtain ⟨m, hm, _⟩ := hh
        have := seekF_ok hf hn
        rw [hm] at this ⊢
        have : m = Int.ofNat n := this
        rw [this]; rfl
      · rfl
    · rfl
theorem indexAddrP_run (F : Fits cx.Γ cx.S ρ φ) {fs : Facts} (hf : fs.hold ρ φ) {t : TypeId} {c : SC} {i : E} {d : Out} {x : Value} (h : indexAddrP cx fs n0 t c i = .ok d) (hc : c.is ρ φ β x) :
    Reads ρ φ β cx.P w n0 d (Instr.indexAt t x (i.den ρ φ)) := by
  unfold indexAddrP at h
  split at h
  · rename_i id off len e hu
    split at h
    · rename_i ag ht
      split at h
      · rename_i hi
        simp only [Bool.and_eq_true] at hi
        obtain ⟨j, hj⟩ := so_i64 F hi.1
        have g0 := of_decide_eq_false (dec_lt F hf hj (eq_of_beq hi.2.1))
        have g1 := of_decide_eq_true (dec_lt F hf hj (eq_of_beq hi.2.2))
        obtain ⟨k, rfl⟩ := Int.eq_ofNat_of_zero_le (show 0 ≤ j by omega)
        have hk : k < len := by omega
        have := vC_ok h
        subst this
        obtain ⟨b, n', hb, rfl⟩ := hc
        refine ⟨rfl, rfl, .pointer (some ⟨b, off + k, none⟩), ?_, b, n', hb, ?_, ?_⟩
        · rw [hj]
          simp only [Instr.indexAt, Sem.run_bind, run_underlying hu, Result.andThen_ok, asIntOf, Sem.run_pure]
          simp [Instr.sureAddr, hk, (tyx_run ht _).2, Addr.add, Sem.run_pure]
        · rw [hj]; exact ⟨by show (0 : Int) ≤ (k : Int); omega, by show (k : Int) < (len : Int); omega⟩
        · rw [hj]; show _ = Value.pointer (some ⟨b, off + ((k : Int)).toNat, none⟩); rw [Int.toNat_natCast]
      · exact absurd h (by simp)
    · exact absurd h (by simp)
  · exact absurd h (by simp)
theorem indexAddrG_run (F : Fits cx.Γ cx.S ρ φ) (hv : fx.ws.vw = cx.vw) (H : M ρ φ fx L B β a w) {fs : Facts} (hf : fs.hold ρ φ) {t : TypeId} {c : SC} {i : E} {d : Out} {x : Value} (h : indexAddrG cx fs n0 t c i = .ok d) (hc : c.is ρ φ β x) :
    Reads ρ φ β cx.P w n0 d (Instr.indexAt t x (i.den ρ φ)) := by
  unfold indexAddrG at h
  split at h
  · rename_i vi m hm
    exact indexAddrV_run F hv H hf h (viewOf_is hm hc)
  · split at h
    · rename_i d0 h0
      simp only [OR.ok.injEq] at h
      subst h
      rw [← litOf_den F hf i]
      exact indexAddrX_run h0 hc
    · exact indexAddrP_run F hf h hc
theorem lenG_run (F : Fits cx.Γ cx.S ρ φ) (hv : fx.ws.vw = cx.vw) (H : M ρ φ fx L B β a w) {t ty : TypeId} {c : SC} {d : Out} {x : Value} (h : lenG cx n0 t c = .ok d) (hc : c.is ρ φ β x) : Reads ρ φ β cx.P w n0 d (Builtin.len_ #[t] ty #[x]) := by
  unfold lenG at h
  split at h
  · split at h
    · rename_i vi m hm
      exact lenV_run hv H h (viewOf_is hm hc)
    · split at h
      · rename_i hu _ _
        have := vE_ok h
        subst this
        obtain ⟨a', c', rfl⟩ := hc
        exact ⟨rfl, rfl, _, by simp [Builtin.len_, run_underlying hu]; rfl, rfl⟩
      · exact absurd h (by simp)
  · exact lenX_run F h hc
theorem sliceG_run (F : Fits cx.Γ cx.S ρ φ) (hv : fx.ws.vw = cx.vw) (H : M ρ φ fx L B β a w) {fs : Facts} (hf : fs.hold ρ φ) {t : TypeId} {c : SC} {lo hi : Option E} {d : Out} {x : Value} (h : sliceG cx fs n0 t c lo hi = .ok d) (hc : c.is ρ φ β x) :
    Reads ρ φ β cx.P w n0 d (Instr.sliceAt t x (lo.map (·.den ρ φ)) (hi.map (·.den ρ φ)) none) := by
  unfold sliceG at h
  split at h
  · rename_i vi m k hh hm
    exact sliceV_run F hv H hf h (viewOf_is hm hc)
  · exact absurd h (by simp)
end
end Go.CX

/- A range over a literal text: the iterator is a block that the walk knows. -/
namespace Go.CX
open Go.SX Go.RowKit

def rangeX (cx : Cx) (n0 : Nat) (t : TypeId) (c : SC) : OR :=
  match cx.P.underlying t, c with
  | some .string, .e (.val (.string s)) => .ok ⟨.one ⟨false, [.ptr n0 0]⟩, [(n0, some [.itr s 0])], n0 + 1⟩
  | _, _ => .stuck
def nextX (B : BK) (n0 : Nat) (c : SC) : OR :=
  match c with
  | .ptr id 0 => match B id with
    | some [.itr s pos] =>
      if Nat.blt pos s.size then
        (match Utf8.decode s pos with
        | (c, width) => .ok ⟨.tup [⟨false, [.e (.bool true)]⟩, ⟨false, [.e (.int .i64 pos)]⟩, ⟨false, [.e (.int .i32 c)]⟩], [(id, some [.itr s (pos + width)])], n0⟩)
      else .ok ⟨.tup [⟨false, [.e (.bool false)]⟩], [], n0⟩
    | _ => .stuck
  | _ => .stuck

section
variable {ρ : Nat → Value} {φ : Nat → List Value → List Value} {cx : Cx} {fx : Fx} {L : LK} {B : BK} {β : Bk} {a : Act} {w : World} {n0 nid : Nat} {P : Program} {o : Oper}
theorem world_newO {row : List SC} {ob : Obj} {n : Nat} {w1 : World} (H : W ρ φ fx B β w1) (hn : β nid = none)
    (hr : RowO ρ φ (updB β nid w1.heap.size n) row n (some ob)) (hany : ∀ c ∈ row, c ≠ .any) :
    W ρ φ fx (dlB [(nid, some row)] B) (updB β nid w1.heap.size n) (w1.alloc ob) := by
  have hE := updB_ext (b := w1.heap.size) (n := n) hn
  have hBn : B nid = none := by
    cases hq : B nid with
    | none => rfl
    | some r => obtain ⟨b, n, hb, _⟩ := H.box nid r hq; rw [hn] at hb; simp at hb
  have hI : ∀ id b n', updB β nid w1.heap.size n id = some (b, n') → b < (w1.alloc ob).heap.size := by
    intro id b n' hb
    rcases updB_old hb with hb | ⟨_, hb⟩
    · have := H.inh _ _ _ hb; simp; omega
    · simp only [Prod.mk.injEq] at hb; simp; omega
  have hH : ∀ id b n', updB β nid w1.heap.size n id = some (b, n') → fx.ws.heap.size ≤ b := by
    intro id b n' hb
    rcases updB_old hb with hb | ⟨_, hb⟩
    · exact H.hi _ _ _ hb
    · simp only [Prod.mk.injEq] at hb
      have := H.len
      omega
  have H1 : W ρ φ fx B (updB β nid w1.heap.size n) (w1.alloc ob) := by
    refine H.old_block (by simp) (fun k hk => Below.heap_alloc _ _ _ hk) rfl rfl rfl hE (fun id p hp hB => ?_) hI hH
    rcases updB_old hp with hp | ⟨hp, _⟩
    · exact hp
    · subst hp; exact absurd hBn hB
  have hnew : (w1.alloc ob).heap[w1.heap.size]? = some ob := by
    show (w1.heap.push _)[w1.heap.size]? = _
    simp
  have key : ∀ id r, dlB [(nid, some row)] B id = some r → (id = nid ∧ r = row) ∨ (id ≠ nid ∧ B id = some r) := by
    intro id r hr
    rw [dlB_one] at hr
    split at hr
    · rename_i e; simp only [Option.some.injEq] at hr; exact Or.inl ⟨e, hr.symm⟩
    · rename_i e; exact Or.inr ⟨e, hr⟩
  refine ⟨H1.low, fun id r hr' => ?_, fun id r k hr' hk' => ?_, fun id id' r r' b n1 n' h1 h2 h3 h4 => ?_, H1.inh, H1.hi, H1.len, H1.base⟩
  · rcases key id r hr' with ⟨rfl, rfl⟩ | ⟨_, hB⟩
    · exact ⟨w1.heap.size, n, updB_self _ _ _ _, Or.inl H.low.size, by rw [hnew]; exact hr⟩
    · exact H1.box id r hB
  · rcases key id r hr' with ⟨rfl, rfl⟩ | ⟨_, hB⟩
    · exact absurd rfl (hany _ (List.mem_of_getElem? hk'))
    · exact H1.msk id r k hB hk'
  · rcases key id r h1 with ⟨rfl, rfl⟩ | ⟨e1, hB⟩
    · rcases key id' r' h2 with ⟨rfl, rfl⟩ | ⟨e2, hB'⟩
      · rfl
      · rw [updB_self] at h3
        simp only [Option.some.injEq, Prod.mk.injEq] at h3
        rcases updB_old h4 with h4 | ⟨h4, _⟩
        · have := H.inh _ _ _ h4; omega
        · exact absurd h4 e2
    · rcases key id' r' h2 with ⟨rfl, rfl⟩ | ⟨e2, hB'⟩
      · rw [updB_self] at h4
        simp only [Option.some.injEq, Prod.mk.injEq] at h4
        rcases updB_old h3 with h3 | ⟨h3, _⟩
        · have := H.inh _ _ _ h3; omega
        · exact absurd h3 e1
      · exact H1.inj id id' r r' b n1 n' hB hB' h3 h4
theorem world_itr {b n id : Nat} {s : ByteArray} {p p' : Nat} (H : W ρ φ fx B β w) (hB : B id = some [.itr s p]) (hb : β id = some (b, n)) (hh : w.heap[b]? = some (.stringIter s p)) :
    W ρ φ fx (dlB [(id, some [.itr s p'])] B) β { w with heap := w.heap.setIfInBounds b (.stringIter s p') } := by
  obtain ⟨b', n', hb', h1, _⟩ := H.box id _ hB
  rw [hb] at hb'
  simp only [Option.some.injEq, Prod.mk.injEq] at hb'
  obtain ⟨rfl, rfl⟩ := hb'
  have hlt := H.inh _ _ _ hb
  have hself : (w.heap.setIfInBounds b (.stringIter s p'))[b]? = some (.stringIter s p') := by simp [hlt]
  have hoth : ∀ k, k ≠ b → (w.heap.setIfInBounds b (.stringIter s p'))[k]? = w.heap[k]? := fun k hk => by
    rw [Array.getElem?_setIfInBounds, if_neg (fun e => hk e.symm)]
  have key : ∀ id' r, dlB [(id, some [.itr s p'])] B id' = some r → (id' = id ∧ r = [.itr s p']) ∨ (id' ≠ id ∧ B id' = some r) := by
    intro id' r hr
    rw [dlB_one] at hr
    split at hr
    · rename_i e; simp only [Option.some.injEq] at hr; exact Or.inl ⟨e, hr.symm⟩
    · rename_i e; exact Or.inr ⟨e, hr⟩
  have live : ∀ id' r, dlB [(id, some [.itr s p'])] B id' = some r → ∃ r', B id' = some r' := by
    intro id' r hr
    rcases key id' r hr with ⟨rfl, _⟩ | ⟨_, h⟩
    · exact ⟨_, hB⟩
    · exact ⟨_, h⟩
  refine ⟨⟨H.low.os, H.low.tape, H.low.output, by simpa using H.low.size, fun k hk' hX => ?_⟩, fun id' r hr => ?_, fun id' r k hr hk' => ?_, fun id1 id2 r1 r2 b1 n1 n2 g1 g2 g3 g4 => ?_, fun id' b1 n1 hb1 => by have := H.inh _ _ _ hb1; simpa using this, H.hi, by simpa using H.len, ⟨fun k hk => by
    show (w.heap.setIfInBounds b (.stringIter s p'))[k]? = _
    rw [hoth k (by have := H.hi _ _ _ hb; omega)]; exact H.base.1 k hk, H.base.2⟩⟩
  · show (w.heap.setIfInBounds b (.stringIter s p'))[k]? = _
    rw [hoth k ?_]
    · exact H.low.block k hk' hX
    · intro e
      subst e
      rcases h1 with h1 | h1
      · omega
      · exact hX h1
  · rcases key id' r hr with ⟨rfl, rfl⟩ | ⟨hne, hB'⟩
    · exact ⟨b, n, hb, h1, Or.inl ⟨s, p', Or.inl rfl, hself⟩⟩
    · obtain ⟨b1, n1, hb1, g1, g2⟩ := H.box id' r hB'
      refine ⟨b1, n1, hb1, g1, ?_⟩
      show RowO ρ φ β r n1 (w.heap.setIfInBounds b (.stringIter s p'))[b1]?
      rw [hoth b1 ?_]
      · exact g2
      · intro e
        subst e
        exact hne (H.inj id' id r _ b1 n1 n hB' hB hb1 hb)
  · rcases key id' r hr with ⟨rfl, rfl⟩ | ⟨hne, hB'⟩
    · have := List.mem_of_getElem? hk'
      simp at this
    · obtain ⟨g1, g2⟩ := H.msk id' r k hB' hk'
      refine ⟨g1, fun b1 n1 hb1 => ?_⟩
      refine (SameC.of_heap (w' := { w with heap := w.heap.setIfInBounds b (.stringIter s p') }) (hoth b1 ?_)).trans (g2 b1 n1 hb1)
      intro e
      subst e
      exact hne (H.inj id' id r _ b1 n1 n hB' hB hb1 hb)
  · obtain ⟨r1', l1⟩ := live _ _ g1
    obtain ⟨r2', l2⟩ := live _ _ g2
    exact H.inj id1 id2 r1' r2' b1 n1 n2 l1 l2 g3 g4
theorem rangeX_does (H : M ρ φ fx L B β a w) {t : TypeId} {c : SC} {v : Value} {d : Out} (hn : ∀ id, n0 ≤ id → id < d.next → β id = none) (h : rangeX cx n0 t c = .ok d) (hc : c.is ρ φ β v)
    (ho : execOp a.eval o = (do pure (.value (← Instr.range t v)))) : Does ρ φ cx.P fx B o a w β n0 d := by
  unfold rangeX at h
  split at h
  · rename_i s hu
    simp only [OR.ok.injEq] at h
    subst h
    have hc : v = _ := hc
    subst hc
    intro K Q hk
    have hrun : (execOp a.eval o).run cx.P w = .ok (.value (.pointer (some ⟨w.heap.size, 0, none⟩))) (w.iter s 0) := by
      rw [ho]
      simp [E.den, run_range_string w t s hu]
    simp only [Oper.wp, hrun, Oper.upon]
    exact hk (updB β n0 w.heap.size 0) _ _ (updB_ext (hn n0 (Nat.le_refl _) (Nat.lt_succ_self _))) (updB_newer _ _ _ _)
      (world_newO H.wld (hn n0 (Nat.le_refl _) (Nat.lt_succ_self _)) (Or.inl ⟨s, 0, Or.inl rfl, rfl⟩) (fun c hc => by simp at hc; subst hc; simp)) ⟨_, _, updB_self _ _ _ _, rfl⟩
  · exact absurd h (by simp)
theorem nextX_does (H : M ρ φ fx L B β a w) {ty : TypeId} {c : SC} {v : Value} {d : Out} (h : nextX B n0 c = .ok d) (hc : c.is ρ φ β v)
    (ho : execOp a.eval o = (do pure (.value (← Instr.next v true ty)))) : Does ρ φ cx.P fx B o a w β n0 d := by
  unfold nextX at h
  split at h
  · rename_i id
    obtain ⟨b, n, hb, rfl⟩ := hc
    split at h
    · rename_i s pos hB
      have hheap : w.heap[b]? = some (.stringIter s pos) := by
        obtain ⟨b', n', hb', _, hR⟩ := H.wld.box id _ hB
        rw [hb] at hb'
        simp only [Option.some.injEq, Prod.mk.injEq] at hb'
        obtain ⟨rfl, rfl⟩ := hb'
        rcases hR with ⟨s', p', hrow, ho'⟩ | ⟨arr, T, _, _, _, h5⟩
        · rcases hrow with e | e
          · simp only [List.cons.injEq, SC.itr.injEq, and_true] at e
            obtain ⟨rfl, rfl⟩ := e
            exact ho'
          · simp at e
        · obtain ⟨u, _, hu⟩ := h5 0 _ rfl
          exact hu.elim
      split at h
      · rename_i hlt
        have hlt : pos < s.size := by unfold Nat.blt at hlt; exact Nat.le_of_ble_eq_true hlt
        simp only [OR.ok.injEq] at h
        subst h
        intro K Q hk
        have hrun : (execOp a.eval o).run cx.P w = .ok (.value (.tuple #[.bool true, goInt pos, .int .i32 (Utf8.decode s pos).1])) { w with heap := w.heap.setIfInBounds b (.stringIter s (pos + (Utf8.decode s pos).2)) } := by
          rw [ho]
          simp [Instr.next, getObj, setObj, Sem.run_bind, Sem.run, hheap, Result.andThen, hlt]
        simp only [Oper.wp, hrun, Oper.upon]
        exact hk β _ _ (Ext.refl _) (Newer.refl _ _ _) (world_itr H.wld hB hb hheap) ⟨[.bool true, goInt pos, .int .i32 (Utf8.decode s pos).1], rfl, rfl, rfl, rfl, trivial⟩
      · rename_i hlt
        have hlt : ¬ pos < s.size := fun g => hlt (by unfold Nat.blt; exact Nat.ble_eq_true_of_le g)
        simp only [OR.ok.injEq] at h
        subst h
        refine does_val (x := .tuple #[.bool false]) H.wld ?_ ⟨[.bool false], rfl, rfl, trivial⟩
        rw [ho]
        simp [Instr.next, getObj, Sem.run, hheap, hlt]
    · exact absurd h (by simp)
  · exact absurd h (by simp)
end
end Go.CX

/- CX: every operation, calls among them. -/
namespace Go.CX
open Go Go.RowKit Go.SX

abbrev CallT := FuncId → List SV → BK → Nat → Facts → OR

/-- Two texts, one behind the other. -/
def catX (op : BinOp) (a b : E) : Option ByteArray := match op, a, b with
  | .add, .val (.string x), .val (.string y) => if Nat.ble (x.size + y.size) 1000000 then some ⟨(x.data.toList ++ y.data.toList).toArray⟩ else none
  | _, _, _ => none
theorem catX_run {op : BinOp} {t : TypeId} {a b : E} {s : ByteArray} {ρ : Nat → Value} {φ : Nat → List Value → List Value} (h : catX op a b = some s) (P : Program) (w : World) (X Y : Operand) :
    (do eqGuard op t X Y (a.den ρ φ) (b.den ρ φ); binOp op t (a.den ρ φ) (b.den ρ φ) : Sem Value).run P w = .ok (.string s) w := by
  unfold catX at h
  split at h
  · rename_i x y
    split at h
    · rename_i hle
      have hle := Nat.le_of_ble_eq_true hle
      simp only [Option.some.injEq] at h
      subst h
      simp only [E.den, eqGuard_at_string]
      have e : x ++ y = ⟨(x.data.toList ++ y.data.toList).toArray⟩ := by
        apply ByteArray.ext
        rw [ByteArray.data_append]
        apply Array.ext'
        simp
      simp [binOp, Op.stringOp, e]
      omega
    · exact absurd h (by simp)
  · exact absurd h (by simp)
def binOpX (cx : Cx) (L : LK) (n0 : Nat) (fs : Facts) (op : BinOp) (t : TypeId) (x y : Operand) : OR :=
  match opd L x, opd L y with
  | some s, some u =>
    match s.ex, u.ex with
    | some a, some b => match ofX n0 (SX.binX cx fs op t a b) with
      | .stuck => match catX op a b with
        | some s => vE n0 (.val (.string s))
        | none => nilOpX cx n0 t op (.e a) (.e b)
      | r => r
    | _, _ => match s.sc, u.sc with
      | some c, some d => nilOpX cx n0 t op c d
      | _, _ => match s, u with
        | .one p, .one q => match partX p, partX q with
          | some p, some q => ofX n0 (SX.eqlX cx op t p q)
          | _, _ => .stuck
        | _, _ => .stuck
  | _, _ => .stuck
/-- A text in parts. -/
def txtX (cx : Cx) : SC → Option (List E)
  | .e x => match cx.so x with
    | .str => some [x]
    | _ => none
  | .txt ps => some ps
  | _ => none
def binOpT (cx : Cx) (L : LK) (n0 : Nat) (fs : Facts) (op : BinOp) (t : TypeId) (x y : Operand) : OR :=
  match binOpX cx L n0 fs op t x y with
  | .stuck => match op, (opd L x).bind SV.sc, (opd L y).bind SV.sc with
    | .add, some c, some d => match txtX cx c, txtX cx d with
      | some p, some q => if Nat.ble (p.length + q.length) 1000 then vC n0 (.txt (p ++ q)) else .stuck
      | _, _ => .stuck
    | _, _, _ => .stuck
  | r => r
def pickX (cx : Cx) (L : LK) (n0 : Nat) (fs : Facts) (c x y : Operand) : OR :=
  match (opd L c).bind SV.ex with
  | some c =>
    match dec cx fs c with
    | some true => match opd L x with
      | some s => vV n0 s
      | none => .stuck
    | some false => match opd L y with
      | some s => vV n0 s
      | none => .stuck
    | none => match cx.so c with
      | .bool =>
        match (opd L x).bind SV.ex, (opd L y).bind SV.ex with
        | some x, some y => vE n0 (.ite c x y)
        | _, _ => .split c
      | _ => .stuck
  | none => .stuck
def optE (L : LK) : Option Operand → Option (Option E)
  | none => some none
  | some x => ((opd L x).bind SV.ex).map some
/-- How far a slice may grow in place. -/
def capX (cx : Cx) (n0 : Nat) (t : TypeId) (s : SC) : OR :=
  match s, cx.P.underlying t with
  | .e (.val (.slice none 0 0)), some (.slice _) => vE n0 (.int .i64 0)
  | .slc _ _ _ cap, some (.slice _) => vE n0 (.int .i64 (Int.ofNat cap))
  | _, _ => .stuck
theorem capX_run {ρ : Nat → Value} {φ : Nat → List Value → List Value} {cx : Cx} {β : Bk} {w : World} {n0 : Nat} {t ty : TypeId} {c : SC} {d : Out} {v : Value} (h : capX cx n0 t c = .ok d) (hc : c.is ρ φ β v) : Reads ρ φ β cx.P w n0 d (Builtin.cap_ #[t] ty #[v]) := by
  unfold capX at h
  split at h
  · rename_i e hu
    have := vE_ok h
    subst this
    have hc : v = _ := hc
    subst hc
    exact ⟨rfl, rfl, _, by simp [Builtin.cap_, run_underlying hu, E.den]; rfl, rfl⟩
  · rename_i id off len cap e hu
    have := vE_ok h
    subst this
    obtain ⟨b, n', hb, rfl⟩ := hc
    exact ⟨rfl, rfl, _, by simp [Builtin.cap_, run_underlying hu]; rfl, rfl⟩
  · exact absurd h (by simp)
/-- Nothing is appended. -/
def nilAppX (cx : Cx) (n0 : Nat) (t : TypeId) (s x : SC) : OR :=
  match x with
  | .e (.val (.slice none 0 0)) => match cx.P.underlying t with
    | some (.slice e) => match cx.P.info? e with
      | some _ => match s with
        | .slc id off len cap => if Nat.ble len cap then vC n0 (.slc id off len cap) else .stuck
        | .sla id off len sz => vC n0 (.sla id off len sz)
        | .e (.val (.slice none 0 0)) => vC n0 (.e (.val (.slice none 0 0)))
        | _ => .stuck
      | none => .stuck
    | _ => .stuck
  | _ => .stuck
theorem nilAppX_run {ρ : Nat → Value} {φ : Nat → List Value → List Value} {cx : Cx} {β : Bk} {w : World} {n0 : Nat} {t ty : TypeId} {s x : SC} {d : Out} {u v : Value} (h : nilAppX cx n0 t s x = .ok d) (hs : s.is ρ φ β u) (hx : x.is ρ φ β v) :
    Reads ρ φ β cx.P w n0 d (Builtin.append_ #[t, t] ty #[u, v]) := by
  unfold nilAppX at h
  split at h
  · have hx : v = .slice none 0 0 := hx
    subst hx
    split at h
    · rename_i e hu
      split at h
      · rename_i i hi
        split at h
        · rename_i id off len cap
          split at h
          · rename_i hle
            have hle := Nat.le_of_ble_eq_true hle
            have := vC_ok h
            subst this
            obtain ⟨b, n', hb, rfl⟩ := hs
            exact ⟨rfl, rfl, .slice (some ⟨b, off, none⟩) len cap, by simp [Builtin.append_, run_underlying hu, sizeOf, typeInfo, hi, Builtin.lenOf, hle, Builtin.firstCells, storeCells], ⟨b, n', hb, rfl⟩⟩
          · exact absurd h (by simp)
        · rename_i id off len sz
          have := vC_ok h
          subst this
          obtain ⟨b, n', cap, hb, rfl, h1, h2⟩ := hs
          exact ⟨rfl, rfl, .slice (some ⟨b, off, none⟩) len cap, by simp [Builtin.append_, run_underlying hu, sizeOf, typeInfo, hi, Builtin.lenOf, h1, Builtin.firstCells, storeCells], ⟨b, n', cap, hb, rfl, h1, h2⟩⟩
        · have := vC_ok h
          subst this
          have hs : u = .slice none 0 0 := hs
          subst hs
          exact ⟨rfl, rfl, .slice none 0 0, by simp [Builtin.append_, run_underlying hu, sizeOf, typeInfo, hi, Builtin.lenOf, Builtin.firstCells], rfl⟩
        · exact absurd h (by simp)
      · exact absurd h (by simp)
    · exact absurd h (by simp)
  · exact absurd h (by simp)
def builtinX (cx : Cx) (L : LK) (B : BK) (n0 : Nat) (b : Builtin) (c : Call) : OR :=
  match b, c.argTypes.toList, c.args.toList with
  | .len, [t], [x] => match (opd L x).bind SV.sc with
    | some s => lenG cx n0 t s
    | none => .stuck
  | .min, _, [x, y] => match (opd L x).bind SV.ex, (opd L y).bind SV.ex with
    | some x, some y => ofX n0 (SX.minX cx x y)
    | _, _ => .stuck
  | .max, _, [x, y] => match (opd L x).bind SV.ex, (opd L y).bind SV.ex with
    | some x, some y => ofX n0 (SX.maxX cx x y)
    | _, _ => .stuck
  | .append, [t, u], [s, x] => if Nat.beq t u then (match (opd L s).bind SV.sc, (opd L x).bind SV.sc with
    | some s, some x => match nilAppX cx n0 t s x with
      | .stuck => appendX cx B n0 t s x
      | r => r
    | _, _ => .stuck) else .stuck
  | .cap, [t], [x] => match (opd L x).bind SV.sc with
    | some s => capX cx n0 t s
    | none => .stuck
  | .copy, [t, _], [s, x] => match (opd L s).bind SV.sc, (opd L x).bind SV.sc with
    | some s, some x => copyX cx B n0 t s x
    | _, _ => .stuck
  | _, _, _ => .stuck
def opdAll (L : LK) : List Operand → Option (List SV)
  | [] => some []
  | x :: xs => match opd L x, opdAll L xs with
    | some s, some r => some (s :: r)
    | _, _ => none
def partAll : List SV → Option (List Part)
  | [] => some []
  | .one p :: xs => (partAll xs).map (p :: ·)
  | _ => none
def callX (call : CallT) (L : LK) (B : BK) (n0 : Nat) (fs : Facts) (c : Call) : OR :=
  match c.callee with
  | .value fo => match opd L fo, opdAll L c.args.toList with
    | some (.fn f fi ca), some args => call f (fi.map .one ++ args ++ ca.map .one) B n0 fs
    | some (.one ⟨false, [.fp f id off]⟩), some args => call f (.one ⟨false, [.ptr id off]⟩ :: args) B n0 fs
    | some (.one ⟨false, [.e (.val (.func (.func f) fi ca))]⟩), some args => if Nat.beq fi.size 0 && Nat.beq ca.size 0 then call f args B n0 fs else .stuck
    | _, _ => .stuck
  | _ => .stuck
def opG (cx : Cx) (call : CallT) (L : LK) (B : BK) (fs : Facts) (n0 : Nat) (o : Op) : OR :=
  match o with
  | .move x => match opd L x with
    | some s => vV n0 s
    | none => .stuck
  | .assign x => match opd L x with
    | some s => vV n0 s
    | none => .stuck
  | .pick c x y => pickX cx L n0 fs c x y
  | .alloc t => allocX cx n0 t
  | .box _ x => match opd L x with
    | some s => boxX cx n0 s
    | none => .stuck
  | .build t ps => buildX cx L n0 t ps.toList
  | .buildSlice t n ps => buildSliceX cx L n0 t n ps.toList
  | .makeSlice t x y => match (opd L x).bind SV.ex, (opd L y).bind SV.ex with
    | some x, some y => makeSliceX cx n0 t x y
    | _, _ => .stuck
  | .load t x => match (opd L x).bind SV.sc with
    | some c => loadG cx B fs n0 t c
    | none => .stuck
  | .store t x v => match (opd L x).bind SV.sc, opd L v with
    | some c, some s => storeX cx B n0 t c s
    | _, _ => .stuck
  | .nilCheck x => match opd L x with
    | some (.one ⟨false, [.ptr id off]⟩) => vC n0 (.ptr id off)
    | some (.one ⟨false, [.vad i idx sz o]⟩) => vC n0 (.vad i idx sz o)
    | some (.fn f fi ca) => vV n0 (.fn f fi ca)
    | some (.one ⟨false, [.fp f id off]⟩) => vC n0 (.fp f id off)
    | _ => .stuck
  | .binOp op t x y _ => binOpT cx L n0 fs op t x y
  | .unOp op _ x => match (opd L x).bind SV.ex with
    | some x => ofX n0 (SX.unX cx op x)
    | none => .stuck
  | .convert s d x => match (opd L x).bind SV.ex with
    | some x => ofX n0 (SX.convX cx s d x)
    | none => match (opd L x).bind SV.sc with
      | some c => toStrX cx B n0 s d c
      | none => .stuck
  | .slice t x lo hi mx => match (opd L x).bind SV.sc, optE L lo, optE L hi, optE L mx with
    | some (.e x), some lo, some hi, some none => match ofX n0 (SX.sliceStrX cx fs t x lo hi) with
      | .stuck => match nilCutX cx n0 t x lo hi with
        | .stuck => sliceG cx fs n0 t (.e x) lo hi
        | r => r
      | r => r
    | some (.vsl i m), some lo, some hi, some none => sliceG cx fs n0 t (.vsl i m) lo hi
    | some c, some lo, some hi, some mx => sliceX cx n0 t c lo hi mx
    | _, _, _, _ => .stuck
  | .index t x i => match (opd L x).bind SV.ex, (opd L i).bind SV.ex with
    | some x, some i => ofX n0 (SX.indexX cx fs t x i)
    | none, some i => match opd L x with
      | some v => indexAggX cx n0 t v i
      | none => .stuck
    | _, _ => .stuck
  | .fieldAddr s x f => match (opd L x).bind SV.sc with
    | some c => fieldAddrG cx n0 s c f
    | none => .stuck
  | .field s x f => match opd L x with
    | some v => fieldX cx n0 s v f
    | none => .stuck
  | .indexAddr t x i => match (opd L x).bind SV.sc, (opd L i).bind SV.ex with
    | some c, some i => indexAddrG cx fs n0 t c i
    | _, _ => .stuck
  | .extract x i => match opd L x with
    | some v => extractX n0 v i
    | none => .stuck
  | .range t x => match (opd L x).bind SV.sc with
    | some c => rangeX cx n0 t c
    | none => .stuck
  | .next x true => match (opd L x).bind SV.sc with
    | some c => nextX B n0 c
    | none => .stuck
  | .makeFunc (.func f) fi ca => match (opdAll L fi.toList).bind partAll, (opdAll L ca.toList).bind partAll with
    | some fi, some ca => vV n0 (.fn f fi ca)
    | _, _ => .stuck
  | .call c => match c.callee with
    | .builtin b => builtinX cx L B n0 b c
    | _ => callX call L B n0 fs c
  | _ => .stuck

/-- The blocks that are known. -/
def Xof (B : BK) (β : Bk) : Nat → Prop := fun b => ∃ id row n, B id = some row ∧ β id = some (b, n)
/-- A call does what it says. -/
def CallOk (ws : Base) (cx : Cx) (φ : Nat → List Value → List Value) (call : CallT) : Prop := ws.vw = cx.vw ∧ ∀ (f : FuncId) (svs : List SV) (B : BK) (n : Nat) (fs : Facts) (d : Out), call f svs B n fs = .ok d →
  ∀ (ρ : Nat → Value) (β : Bk) (w : World) (xs : List Value) (N : Nat), Fits cx.Γ cx.S ρ φ → fs.hold ρ φ → W ρ φ ⟨N, Xof B β, B, w, ws⟩ B β w → (∀ id, n ≤ id → id < d.next → β id = none) → All2 (SV.is ρ φ β) svs xs →
    (callFunc f xs.toArray).run cx.P w = .ok (.enter f xs.toArray) w ∧ Calls cx.P f xs.toArray w fun e w' => ∃ x β', e = .returned x ∧ Ext β β' ∧ Newer β β' n d.next ∧ W ρ φ ⟨N, Xof B β, B, w, ws⟩ (dlB d.dl B) β' w' ∧ d.v.is ρ φ β' x

section
variable {ρ : Nat → Value} {φ : Nat → List Value → List Value} {cx : Cx} {fx : Fx} {L : LK} {B : BK} {β : Bk} {a : Act} {w : World} {n0 : Nat}

theorem W.local (H : W ρ φ fx B β w) (N : Nat) : W ρ φ ⟨N, Xof B β, B, w, fx.ws⟩ B β w := by
  refine ⟨LowP.refl _ _, fun id row h => ?_, fun id row k h hk => ⟨⟨row, h, hk⟩, fun _ _ _ => SameC.refl _ _ _⟩, H.inj, H.inh, H.hi, H.len, H.base⟩
  obtain ⟨b, n, hb, h1, h2⟩ := H.box id row h
  exact ⟨b, n, hb, Or.inr ⟨id, row, n, h, hb⟩, h2⟩
theorem W.compose {B' : BK} {β' : Bk} {w' : World} {N : Nat} (H : W ρ φ fx B β w) (hE : Ext β β') (H' : W ρ φ ⟨N, Xof B β, B, w, fx.ws⟩ B' β' w') : W ρ φ fx B' β' w' := by
  have hX : ∀ b, Xof B β b → fx.w0.heap.size ≤ b ∨ fx.X b := by
    rintro b ⟨id, row, n, h, hb⟩
    obtain ⟨b', n', hb', h1, _⟩ := H.box id row h
    rw [hb] at hb'
    simp only [Option.some.injEq, Prod.mk.injEq] at hb'
    obtain ⟨rfl, rfl⟩ := hb'
    exact h1
  refine ⟨⟨H'.low.os.trans H.low.os, H'.low.tape.trans H.low.tape, H'.low.output.trans H.low.output, Nat.le_trans H.low.size H'.low.size, fun k hk hnX => ?_⟩, fun id row h => ?_, fun id row k h hk => ?_, H'.inj, H'.inh, H'.hi, H'.len, H'.base⟩
  · rw [← H.low.block k hk hnX]
    refine H'.low.block k (Nat.lt_of_lt_of_le hk H.low.size) fun hx => ?_
    rcases hX k hx with h | h
    · omega
    · exact hnX h
  · obtain ⟨b, n, hb, h1, h2⟩ := H'.box id row h
    refine ⟨b, n, hb, ?_, h2⟩
    rcases h1 with h1 | h1
    · exact Or.inl (Nat.le_trans H.low.size h1)
    · exact hX b h1
  · obtain ⟨⟨row0, h1, h2⟩, h3⟩ := H'.msk id row k h hk
    obtain ⟨h4, h5⟩ := H.msk id row0 k h1 h2
    refine ⟨h4, fun b n hb => ?_⟩
    obtain ⟨b0, n0, hb0, _⟩ := H.box id row0 h1
    have hb' := hE _ _ hb0
    rw [hb] at hb'
    simp only [Option.some.injEq, Prod.mk.injEq] at hb'
    obtain ⟨rfl, rfl⟩ := hb'
    exact (h3 b n hb).trans (h5 b n hb0)

theorem optE_is (H : M ρ φ fx L B β a w) {x : Option Operand} {e : Option E} (h : optE L x = some e) : x.map a.eval = e.map (·.den ρ φ) := by
  cases x with
  | none => simp only [optE, Option.some.injEq] at h; subst h; rfl
  | some x =>
    simp only [optE, Option.map_eq_some_iff] at h
    obtain ⟨e', he, rfl⟩ := h
    simp [exIs H he]
theorem opdAll_is (H : M ρ φ fx L B β a w) : ∀ {xs : List Operand} {ss : List SV}, opdAll L xs = some ss → All2 (SV.is ρ φ β) ss (xs.map a.eval)
  | [], ss, h => by simp only [opdAll, Option.some.injEq] at h; subst h; trivial
  | x :: xs, ss, h => by
    simp only [opdAll] at h
    split at h
    · rename_i s r hs hr
      simp only [Option.some.injEq] at h
      subst h
      exact ⟨opd_is H hs, opdAll_is H hr⟩
    · exact absurd h (by simp)
theorem partAll_is : ∀ {ss : List SV} {ps : List Part} {xs : List Value}, partAll ss = some ps → All2 (SV.is ρ φ β) ss xs → All2 (Part.is ρ φ β) ps xs
  | [], ps, xs, h, ha => by simp only [partAll, Option.some.injEq] at h; subst h; cases xs with | nil => trivial | cons _ _ => exact ha.elim
  | .one p :: ss, ps, xs, h, ha => by
    simp only [partAll, Option.map_eq_some_iff] at h
    obtain ⟨ps', hp, rfl⟩ := h
    cases xs with
    | nil => exact ha.elim
    | cons x xs => exact ⟨ha.1, partAll_is hp ha.2⟩
  | .tup _ :: _, _, _, h, _ => by simp [partAll] at h
  | .fn _ _ _ :: _, _, _, h, _ => by simp [partAll] at h
theorem one_all : ∀ {ps : List Part} {xs : List Value}, All2 (Part.is ρ φ β) ps xs → All2 (SV.is ρ φ β) (ps.map .one) xs
  | [], [], _ => trivial
  | _ :: _, _ :: _, h => ⟨h.1, one_all h.2⟩
  | [], _ :: _, h => h.elim
  | _ :: _, [], h => h.elim

theorem pickX_run (F : Fits cx.Γ cx.S ρ φ) (H : M ρ φ fx L B β a w) {fs : Facts} (hf : fs.hold ρ φ) {c x y : Operand} {d : Out} (h : pickX cx L n0 fs c x y = .ok d) :
    Reads ρ φ β cx.P w n0 d (do pure (if ← asBool (a.eval c) then a.eval x else a.eval y)) := by
  unfold pickX at h
  split at h
  · rename_i c' hc
    have hc' := exIs H hc
    split at h
    · rename_i hd
      have hd := dec_sound F hf hd
      split at h
      · rename_i s hs
        have := vV_ok h
        subst this
        refine ⟨rfl, rfl, a.eval x, ?_, opd_is H hs⟩
        simp [hc', hd, asBool]
      · exact absurd h (by simp)
    · rename_i hd
      have hd := dec_sound F hf hd
      split at h
      · rename_i s hs
        have := vV_ok h
        subst this
        refine ⟨rfl, rfl, a.eval y, ?_, opd_is H hs⟩
        simp [hc', hd, asBool]
      · exact absurd h (by simp)
    · split at h
      · rename_i hb
        have hb := so_bool F hb
        split at h
        · rename_i x' y' hx hy
          have := vE_ok h
          subst this
          refine ⟨rfl, rfl, _, ?_, rfl⟩
          rw [exIs H hx, exIs H hy, hc', hb]
          simp only [asBool, E.den, Sem.run_bind, Sem.run_pure, Result.andThen_ok]
        · exact absurd h (by simp)
      · exact absurd h (by simp)
  · exact absurd h (by simp)

theorem binOpX_run (F : Fits cx.Γ cx.S ρ φ) (H : M ρ φ fx L B β a w) {fs : Facts} (hf : fs.hold ρ φ) {op : BinOp} {t : TypeId} {x y : Operand} {d : Out} (h : binOpX cx L n0 fs op t x y = .ok d) :
    Reads ρ φ β cx.P w n0 d (do eqGuard op t x y (a.eval x) (a.eval y); binOp op t (a.eval x) (a.eval y)) := by
  unfold binOpX at h
  split at h
  · rename_i s u hs hu
    split at h
    · rename_i x' y' hx hy
      split at h
      · split at h
        · rename_i s' hcat
          have := vE_ok h
          subst this
          refine ⟨rfl, rfl, .string s', ?_, rfl⟩
          rw [SV.ex_is hx (opd_is H hs), SV.ex_is hy (opd_is H hu)]
          exact catX_run hcat _ _ _ _
        · exact nilOpX_run h (SV.ex_is hx (opd_is H hs)) (SV.ex_is hy (opd_is H hu)) x y
      · refine ofX_reads h fun d0 h0 => ?_
        obtain ⟨z, rfl, hz⟩ := binX_run F hf h0 x y w
        rw [← SV.ex_is hx (opd_is H hs), ← SV.ex_is hy (opd_is H hu)] at hz
        exact ⟨_, hz, rfl⟩
    · split at h
      · rename_i c d' hc hd
        exact nilOpX_run h (SV.sc_is hc (opd_is H hs)) (SV.sc_is hd (opd_is H hu)) x y
      · split at h
        · rename_i p q
          split at h
          · rename_i p' q' hp hq
            refine ofX_reads h fun d0 h0 => ?_
            obtain ⟨_, _, v, hv, hi⟩ := SX.eqlX_run F h0 (partX_is hp (opd_is H hs)) (partX_is hq (opd_is H hu)) x y
            exact ⟨v, hv, hi⟩
          · exact absurd h (by simp)
        · exact absurd h (by simp)
  · exact absurd h (by simp)

theorem builtinX_does (F : Fits cx.Γ cx.S ρ φ) (hv : fx.ws.vw = cx.vw) (H : M ρ φ fx L B β a w) {b : Builtin} {c : Call} {d : Out} (hn : ∀ id, n0 ≤ id → id < d.next → β id = none) {o : Oper} (h : builtinX cx L B n0 b c = .ok d) (ho : o.op = .call c) (hcb : c.callee = .builtin b) :
    Does ρ φ cx.P fx B o a w β n0 d := by
  unfold builtinX at h
  split at h
  · rename_i t x ht hx
    have ht := array_of ht
    have hx := array_of hx
    split at h
    · rename_i s hs
      refine does_reads H (lenG_run F hv H (ty := o.type) h (scIs H hs)) ?_
      simp only [execOp, ho, resolve, hcb, ht, hx, pure_bind, invoke]
      simp [builtin]
    · exact absurd h (by simp)
  · rename_i x y hx
    have hx := array_of hx
    split at h
    · rename_i x' y' h1 h2
      have hr : Reads ρ φ β cx.P w n0 d (Builtin.min2 (x'.den ρ φ) (y'.den ρ φ)) := ofX_reads h fun d0 h0 => by
        obtain ⟨_, _, v, hv, hi⟩ := SX.minX_run (β := fun _ => none) (w := w) F h0
        exact ⟨v, hv, hi⟩
      rw [← exIs H h1, ← exIs H h2] at hr
      refine does_reads H hr ?_
      simp only [execOp, ho, resolve, hcb, hx, pure_bind, invoke]
      simp [builtin, Builtin.min_]
    · exact absurd h (by simp)
  · rename_i x y hx
    have hx := array_of hx
    split at h
    · rename_i x' y' h1 h2
      have hr : Reads ρ φ β cx.P w n0 d (Builtin.max2 (x'.den ρ φ) (y'.den ρ φ)) := ofX_reads h fun d0 h0 => by
        obtain ⟨_, _, v, hv, hi⟩ := SX.maxX_run (β := fun _ => none) (w := w) F h0
        exact ⟨v, hv, hi⟩
      rw [← exIs H h1, ← exIs H h2] at hr
      refine does_reads H hr ?_
      simp only [execOp, ho, resolve, hcb, hx, pure_bind, invoke]
      simp [builtin, Builtin.max_]
    · exact absurd h (by simp)
  · rename_i t u s x ht hx
    have ht := array_of ht
    have hx := array_of hx
    split at h
    · rename_i he
      have he := Nat.eq_of_beq_eq_true he
      subst he
      split at h
      · rename_i s' x' h1 h2
        split at h
        · refine appendX_does F H hn h (scIs H h1) (scIs H h2) ?_
          simp only [execOp, ho, resolve, hcb, ht, hx, pure_bind, invoke]
          simp [builtin]
        · refine does_reads H (nilAppX_run (ty := o.type) h (scIs H h1) (scIs H h2)) ?_
          simp only [execOp, ho, resolve, hcb, ht, hx, pure_bind, invoke]
          simp [builtin]
      · exact absurd h (by simp)
    · exact absurd h (by simp)
  · rename_i t x ht hx
    have ht := array_of ht
    have hx := array_of hx
    split at h
    · rename_i s hs
      refine does_reads H (capX_run (ty := o.type) h (scIs H hs)) ?_
      simp only [execOp, ho, resolve, hcb, ht, hx, pure_bind, invoke]
      simp [builtin]
    · exact absurd h (by simp)
  · rename_i t u s x ht hx
    have ht := array_of ht
    have hx := array_of hx
    split at h
    · rename_i s' x' h1 h2
      refine copyX_does (t' := u) F H h (scIs H h1) (scIs H h2) ?_
      simp only [execOp, ho, resolve, hcb, ht, hx, pure_bind, invoke]
      simp [builtin]
    · exact absurd h (by simp)
  · exact absurd h (by simp)

theorem callX_does (F : Fits cx.Γ cx.S ρ φ) {call : CallT} (C : CallOk fx.ws cx φ call) (H : M ρ φ fx L B β a w) {fs : Facts} (hf : fs.hold ρ φ) {c : Call} {d : Out} (hn : ∀ id, n0 ≤ id → id < d.next → β id = none) {o : Oper} (h : callX call L B n0 fs c = .ok d) (ho : o.op = .call c) :
    Does ρ φ cx.P fx B o a w β n0 d := by
  have fin : ∀ (f : FuncId) (svs : List SV) (xs : List Value), call f svs B n0 fs = .ok d → All2 (SV.is ρ φ β) svs xs → (execOp a.eval o).run cx.P w = (callFunc f xs.toArray).run cx.P w → Does ρ φ cx.P fx B o a w β n0 d := by
    intro f svs xs hc ha hrun
    obtain ⟨g1, g2⟩ := C.2 f svs B n0 fs d hc ρ β w xs 0 F hf (H.wld.local 0) hn ha
    intro K Q hk
    simp only [Oper.wp, hrun, g1, Oper.upon]
    refine g2.mono ?_
    rintro e w' ⟨x, β', rfl, hE, hN, hW, hx⟩
    exact hk β' x w' hE hN (H.wld.compose hE hW) hx
  unfold callX at h
  split at h
  · rename_i fo hfo
    split at h
    · rename_i f fi ca args hfv hargs
      obtain ⟨us, vs, hv, h1, h2⟩ := opd_is H hfv
      refine fin f _ (us ++ c.args.toList.map a.eval ++ vs) h (All2.append (All2.append (one_all h1) (opdAll_is H hargs)) (one_all h2)) ?_
      simp only [execOp, ho, resolve, hfo, hv, Deferred.ofValue, pure_bind, invoke]
      congr 2
      apply Array.ext'; simp
    · rename_i f id off args hfv hargs
      obtain ⟨b, n, hb, hv⟩ := opd_is H hfv
      refine fin f _ (.pointer (some ⟨b, off, none⟩) :: c.args.toList.map a.eval) h ⟨⟨b, n, hb, rfl⟩, opdAll_is H hargs⟩ ?_
      simp only [execOp, ho, resolve, hfo, hv, Deferred.ofValue, pure_bind, invoke]
      congr 2
      apply Array.ext'; simp
    · rename_i f fi ca args hfv hargs
      split at h
      · rename_i hz
        rw [Bool.and_eq_true] at hz
        have hfi : fi = #[] := Array.eq_empty_of_size_eq_zero (Nat.eq_of_beq_eq_true hz.1)
        have hca : ca = #[] := Array.eq_empty_of_size_eq_zero (Nat.eq_of_beq_eq_true hz.2)
        subst hfi hca
        have hv : a.eval fo = _ := opd_is H hfv
        refine fin f _ (c.args.toList.map a.eval) h (opdAll_is H hargs) ?_
        simp only [execOp, ho, resolve, hfo, hv, E.den, Deferred.ofValue, pure_bind, invoke]
        congr 2
        apply Array.ext'; simp
      · exact absurd h (by simp)
    · exact absurd h (by simp)
  · exact absurd h (by simp)

theorem txtX_is (F : Fits cx.Γ cx.S ρ φ) {c : SC} {ps : List E} {v : Value} (h : txtX cx c = some ps) (hc : c.is ρ φ β v) : (SC.txt ps).is ρ φ β v := by
  unfold txtX at h
  split at h
  · rename_i x
    split at h
    · rename_i hs
      simp only [Option.some.injEq] at h
      subst h
      have hc : v = _ := hc
      subst hc
      have := E.so_has F x
      rw [show x.so cx.Γ cx.S = .str from hs] at this
      obtain ⟨s, h1, h2⟩ := this
      exact ⟨s, h1, by simp [h1, ByteArray.toList_eq], by simpa using h2⟩
    · cases h
  · simp only [Option.some.injEq] at h
    subst h
    exact hc
  · cases h
theorem binOpT_run (F : Fits cx.Γ cx.S ρ φ) (H : M ρ φ fx L B β a w) {fs : Facts} (hf : fs.hold ρ φ) {op : BinOp} {t : TypeId} {x y : Operand} {d : Out} (h : binOpT cx L n0 fs op t x y = .ok d) :
    Reads ρ φ β cx.P w n0 d (do eqGuard op t x y (a.eval x) (a.eval y); binOp op t (a.eval x) (a.eval y)) := by
  unfold binOpT at h
  split at h
  · split at h
    · rename_i c e hc he _
      split at h
      · rename_i p q hp hq
        split at h
        · rename_i hle
          have hle := Nat.le_of_ble_eq_true hle
          have := vC_ok h
          subst this
          obtain ⟨s, h1, h2, h3⟩ := txtX_is F hp (scIs H hc)
          obtain ⟨u, h4, h5, h6⟩ := txtX_is F hq (scIs H he)
          rw [h1, h4]
          have hs : s.size + u.size ≤ 9223372036854775807 := by
            have a1 : p.length * 140737488355328 + q.length * 140737488355328 ≤ 1000 * 140737488355328 := by rw [← Nat.add_mul]; exact Nat.mul_le_mul_right _ hle
            omega
          refine ⟨rfl, rfl, .string (s ++ u), ?_, s ++ u, rfl, ?_, ?_⟩
          · simp only [eqGuard_at_string]
            simp [binOp, Op.stringOp]
            omega
          · rw [ByteArray.data_append, Array.toList_append, h2, h5, List.flatMap_append]
          · rw [ByteArray.size_append, List.length_append, Nat.add_mul]; omega
        · exact absurd h (by simp)
      · exact absurd h (by simp)
    · exact absurd h (by simp)
  · exact binOpX_run F H hf h
theorem opG_does (F : Fits cx.Γ cx.S ρ φ) {call : CallT} (C : CallOk fx.ws cx φ call) (H : M ρ φ fx L B β a w) {fs : Facts} (hf : fs.hold ρ φ) {o : Oper} {d : Out} (hn : ∀ id, n0 ≤ id → id < d.next → β id = none) (h : opG cx call L B fs n0 o.op = .ok d) :
    Does ρ φ cx.P fx B o a w β n0 d := by
  unfold opG at h
  split at h
  · rename_i x ho
    split at h
    · rename_i s hs
      have := vV_ok h
      subst this
      exact does_val H.wld (by simp [execOp, ho]) (opd_is H hs)
    · exact absurd h (by simp)
  · rename_i x ho
    split at h
    · rename_i s hs
      have := vV_ok h
      subst this
      exact does_val H.wld (by simp [execOp, ho]) (opd_is H hs)
    · exact absurd h (by simp)
  · rename_i c x y ho
    exact does_reads H (pickX_run F H hf h) (by simp [execOp, ho])
  · rename_i t ho
    exact allocX_does H hn h (by simp [execOp, ho])
  · rename_i t x ho
    split at h
    · rename_i s hs
      exact boxX_does F H hn h (opd_is H hs) (by simp only [execOp, ho]; rfl)
    · exact absurd h (by simp)
  · rename_i t ps ho
    exact does_reads H (buildX_run F H h) (by simp [execOp, ho])
  · rename_i t n ps ho
    exact buildSliceX_does F H hn h (by simp [execOp, ho])
  · rename_i t x y ho
    split at h
    · rename_i x' y' h1 h2
      exact makeSliceX_does H hn (exIs H h1) (exIs H h2) h (by simp [execOp, ho])
    · exact absurd h (by simp)
  · rename_i t x ho
    split at h
    · rename_i c hc
      exact does_reads H (loadG_run F C.1 H hf h (scIs H hc)) (by simp [execOp, ho])
    · exact absurd h (by simp)
  · rename_i t x v ho
    split at h
    · rename_i c s hc hs
      exact storeX_does F H h (scIs H hc) (opd_is H hs) (by simp [execOp, ho])
    · exact absurd h (by simp)
  · rename_i x ho
    split at h
    · rename_i id off hs
      have := vC_ok h
      subst this
      have hi := opd_is H hs
      obtain ⟨b, n, hb, hv⟩ := hi
      exact does_val (x := a.eval x) H.wld (by simp [execOp, ho, hv]) ⟨b, n, hb, hv⟩
    · rename_i i idx sz o' hs
      have := vC_ok h
      subst this
      have hi := opd_is H hs
      obtain ⟨b, off, n, c, hb, hv⟩ := hi
      exact does_val (x := a.eval x) H.wld (by simp [execOp, ho, hv]) ⟨b, off, n, c, hb, hv⟩
    · rename_i f fi ca hs
      have := vV_ok h
      subst this
      have hi := opd_is H hs
      obtain ⟨us, vs, hv, h1, h2⟩ := hi
      exact does_val (x := a.eval x) H.wld (by simp [execOp, ho, hv]) ⟨us, vs, hv, h1, h2⟩
    · rename_i f id off hs
      have := vC_ok h
      subst this
      obtain ⟨b, n, hb, hv⟩ := opd_is H hs
      exact does_val (x := a.eval x) H.wld (by simp [execOp, ho, hv]) ⟨b, n, hb, hv⟩
    · exact absurd h (by simp)
  · rename_i op t x y t' ho
    exact does_reads H (binOpT_run F H hf h) (by simp [execOp, ho])
  · rename_i op t x ho
    split at h
    · rename_i x' hx
      refine does_reads H (s := Op.unary op (x'.den ρ φ)) (ofX_reads h fun d0 h0 => ?_) (by simp [execOp, ho, exIs H hx])
      obtain ⟨z, rfl, hz⟩ := unX_run F h0 w
      exact ⟨_, hz, rfl⟩
    · exact absurd h (by simp)
  · rename_i s t x ho
    split at h
    · rename_i x' hx
      refine does_reads H (s := convert s t (x'.den ρ φ)) (ofX_reads h fun d0 h0 => ?_) (by simp [execOp, ho, exIs H hx])
      obtain ⟨z, rfl, hz⟩ := convX_run F h0 w
      exact ⟨_, hz, rfl⟩
    · split at h
      · rename_i c hc
        exact does_reads H (toStrX_run H.wld h (scIs H hc)) (by simp [execOp, ho])
      · exact absurd h (by simp)
  · rename_i t x lo hi mx ho
    split at h
    · rename_i x' lo' hi' h1 h2 h3 h4
      refine does_reads H (s := Instr.sliceAt t (x'.den ρ φ) (lo'.map (·.den ρ φ)) (hi'.map (·.den ρ φ)) none) ?_ ?_
      · split at h
        · split at h
          · have hx : (SC.e x').is ρ φ β (x'.den ρ φ) := rfl
            exact sliceG_run F C.1 H hf h hx
          · exact nilCutX_run h
        · exact ofX_reads h fun d0 h0 => by
            obtain ⟨_, _, v, hv, hi⟩ := SX.sliceStrX_run (β := fun _ => none) (w := w) F hf h0
            exact ⟨v, hv, hi⟩
      · have e4 := optE_is H h4
        have hx : a.eval x = _ := scIs H h1
        simp [execOp, ho, hx, optE_is H h2, optE_is H h3, e4]
    · rename_i i' m' lo' hi' h1 h2 h3 h4
      have e4 := optE_is H h4
      exact does_reads H (sliceG_run F C.1 H hf h (scIs H h1)) (by simp [execOp, ho, optE_is H h2, optE_is H h3, e4])
    · rename_i c lo' hi' mx' _ _ h1 h2 h3 h4
      exact does_reads H (sliceX_run h (scIs H h1)) (by simp [execOp, ho, optE_is H h2, optE_is H h3, optE_is H h4])
    · exact absurd h (by simp)
  · rename_i t x i ho
    split at h
    · rename_i x' i' h1 h2
      refine does_reads H (s := Instr.index t (x'.den ρ φ) (i'.den ρ φ)) (ofX_reads h fun d0 h0 => ?_) (by simp [execOp, ho, exIs H h1, exIs H h2])
      obtain ⟨_, _, v, hv, hi⟩ := SX.indexX_run (β := fun _ => none) (w := w) F hf h0
      exact ⟨v, hv, hi⟩
    · rename_i i' h1 h2
      split at h
      · rename_i v hv
        exact does_reads H (indexAggX_run h (opd_is H hv)) (by simp [execOp, ho, exIs H h2])
      · exact absurd h (by simp)
    · exact absurd h (by simp)
  · rename_i s x f ho
    split at h
    · rename_i c hc
      exact does_reads H (fieldAddrG_run h (scIs H hc)) (by simp [execOp, ho])
    · exact absurd h (by simp)
  · rename_i s x f ho
    split at h
    · rename_i v hv
      exact does_reads H (fieldX_run h (opd_is H hv)) (by simp [execOp, ho])
    · exact absurd h (by simp)
  · rename_i t x i ho
    split at h
    · rename_i c i' hc hi
      exact does_reads H (indexAddrG_run F C.1 H hf h (scIs H hc)) (by simp [execOp, ho, exIs H hi])
    · exact absurd h (by simp)
  · rename_i x i ho
    split at h
    · rename_i v hv
      exact does_reads H (extractX_run h (opd_is H hv)) (by simp [execOp, ho])
    · exact absurd h (by simp)
  · rename_i t x ho
    split at h
    · rename_i c hc
      exact rangeX_does H hn h (scIs H hc) (by simp only [execOp, ho])
    · exact absurd h (by simp)
  · rename_i x ho
    split at h
    · rename_i c hc
      exact nextX_does (ty := o.type) H h (scIs H hc) (by simp only [execOp, ho])
    · exact absurd h (by simp)
  · rename_i f fi ca ho
    split at h
    · rename_i fi' ca' h1 h2
      have := vV_ok h
      subst this
      simp only [Option.bind_eq_some_iff] at h1 h2
      obtain ⟨s1, g1, g2⟩ := h1
      obtain ⟨s2, g3, g4⟩ := h2
      refine does_val (x := .func (.func f) (fi.map a.eval) (ca.map a.eval)) H.wld (by simp [execOp, ho, Instr.makeFunc]) ⟨fi.toList.map a.eval, ca.toList.map a.eval, ?_, partAll_is g2 (opdAll_is H g1), partAll_is g4 (opdAll_is H g3)⟩
      congr 1 <;> (apply Array.ext'; simp)
    · exact absurd h (by simp)
  · rename_i c ho
    split at h
    · rename_i b hb
      exact builtinX_does F C.1 H hn h ho hb
    · exact callX_does F C H hf hn h ho
  · exact absurd h (by simp)
end
end Go.CX
