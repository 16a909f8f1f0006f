/- SX: operations on cells, more: an element's address, a slice of a slice, new blocks, stores. -/
import Derived.Test.YtfcddhicklhefaaGreatDoorSXe
namespace Go.SX
open Go Go.RowKit

/-- Filling a row, symbol by symbol. -/
def sfill (place : Nat → Option (Nat × Nat)) (cells : List SC) : List (Nat × List SC) → Option (List SC)
  | [] => some cells
  | (i, v) :: rest =>
    match place i with
    | none => none
    | some (off, size) =>
      if Nat.beq v.length size && Nat.ble (off + v.length) cells.length then sfill place (spl cells off v) rest else none

section
variable {ρ : Nat → Value} {φ : Nat → List Value → List Value} {cx : Cx} {fx : Fx} {L : LK} {B : BK} {β : Nat → Option Nat} {a : Act} {w : World}

theorem zip_fold : ∀ (us : List Value) (k off : Nat) (cs : List Value), off + k + us.length ≤ cs.length →
    (us.zipIdx k).foldl (fun (cs : Array Value) (p : Value × Nat) => cs.setIfInBounds (off + p.2) p.1) cs.toArray = (spl cs (off + k) us).toArray
  | [], k, off, cs, _ => by simp [spl]
  | u :: us, k, off, cs, h => by
    simp only [List.zipIdx_cons, List.foldl_cons]
    have h1 : cs.toArray.setIfInBounds (off + k) u = (cs.set (off + k) u).toArray := by simp
    rw [h1, zip_fold us (k + 1) off (cs.set (off + k) u) (by simp at h ⊢; omega)]
    congr 1
    unfold spl
    simp only [List.length_cons] at h
    have hlt : off + k < cs.length := by omega
    have e1 : (cs.set (off + k) u).take (off + (k + 1)) = cs.take (off + k) ++ [u] := by
      rw [show off + (k + 1) = off + k + 1 by omega, List.take_succ_eq_append_getElem (by simpa using hlt)]
      simp [List.take_set_of_le]
    have e2 : (cs.set (off + k) u).drop (off + (k + 1) + us.length) = cs.drop (off + k + (us.length + 1)) := by
      rw [List.drop_set_of_lt (by omega)]
      congr 1
      omega
    rw [e1, e2]
    simp

theorem sfill_run {place : Nat → Option (Nat × Nat)} : ∀ {parts : List (Nat × List SC)} {vparts : List (Nat × Value)} {cells : List SC} {vs : List Value} {out : List SC},
    sfill place cells parts = some out → All2 (SC.is ρ φ β) cells vs →
    All2 (fun (p : Nat × List SC) (q : Nat × Value) => p.1 = q.1 ∧ ∃ us : List Value, q.2.cells = us.toArray ∧ All2 (SC.is ρ φ β) p.2 us) parts vparts →
    ∃ ws : List Value, Instr.fill place vs.toArray vparts = some ws.toArray ∧ All2 (SC.is ρ φ β) out ws
  | [], [], cells, vs, out, h, ha, _ => by
    simp only [sfill, Option.some.injEq] at h
    subst h
    exact ⟨vs, rfl, ha⟩
  | (i, v) :: parts, (j, q) :: vparts, cells, vs, out, h, ha, hp => by
    obtain ⟨⟨hij, us, hus, hav⟩, hrest⟩ := hp
    simp only at hij hus hav
    subst hij
    simp only [sfill] at h
    split at h
    · exact absurd h (by simp)
    · rename_i off size hpl
      split at h
      · rename_i hc
        rw [Bool.and_eq_true] at hc
        have h1 := Nat.eq_of_beq_eq_true hc.1
        have h2 := Nat.le_of_ble_eq_true hc.2
        rw [hav.length] at h1 h2
        rw [ha.length] at h2
        obtain ⟨ws, hws, haw⟩ := sfill_run h (ha.spl off hav) hrest
        refine ⟨ws, ?_, haw⟩
        have hz := zip_fold us 0 off vs (by omega)
        simp only [Nat.add_zero] at hz
        have hcond : ¬ (us.length ≠ size ∨ off + us.length > vs.length) := by omega
        simp only [Instr.fill, hpl, hus]
        rw [if_neg (by simp; omega)]
        rw [← hws]
        congr 1
        rw [← hz]
        simp
      · exact absurd h (by simp)
  | [], _ :: _, _, _, _, _, _, hp => hp.elim
  | _ :: _, [], _, _, _, _, _, hp => hp.elim

theorem indexAddrX_run (V : Views cx ρ fx) (F : Fits cx.Γ cx.S ρ φ) {fs : Facts} (hf : fs.hold ρ φ) {t : TypeId} {c : SC} {i : E} {δ : Dl} {v : Value} (h : indexAddrX cx fs t c i = .ok δ) (hc : c.is ρ φ β v) :
    Reads ρ φ β cx.P w δ (Instr.indexAt t v (i.den ρ φ)) := by
  unfold indexAddrX at h
  split at h
  · rename_i id off len cap e k hu hi
    obtain ⟨b, hb, rfl⟩ := hc
    have ei := so_int F hi
    split at h
    · rename_i ag n ht
      have gen : ∀ m : Int, 0 ≤ m → m < len → (Instr.indexAt t (.slice (some ⟨b, off, none⟩) len cap) (.int k m)).run cx.P w = .ok (.pointer (some ⟨b, off + m.toNat * n, none⟩)) w := by
        intro m h0 h1
        simp [Instr.indexAt, run_underlying hu, asIntOf, (tyx_run ht _).2, Addr.add_lit, h0, h1]
      split at h
      · rename_i k' j
        split at h
        · rename_i hj
          have hj : j < len := by unfold Nat.blt at hj; exact Nat.lt_of_succ_le (Nat.le_of_ble_eq_true hj)
          have := vC_ok h
          subst this
          refine ⟨rfl, rfl, .pointer (some ⟨b, off + j * n, none⟩), ?_, b, hb, rfl⟩
          rw [ei]
          have := gen (Int.ofNat j) (Int.natCast_nonneg j) (Int.ofNat_lt.2 hj)
          simpa [E.den] using this
        · exact absurd h (by simp)
      · split at h
        · rename_i hn
          have hn := Nat.eq_of_beq_eq_true hn
          subst hn
          obtain ⟨h1, h2⟩ := asg_ok F hf h
          obtain ⟨h3, h4⟩ := asg_ok F hf h1
          have := vC_ok h3
          subst this
          rw [mkLss_den] at h2 h4
          simp only [E.den, vint_int, Value.bool.injEq] at h2 h4
          replace h2 := of_decide_eq_false h2
          replace h4 := of_decide_eq_true h4
          refine ⟨rfl, rfl, _, ?_, b, hb, rfl⟩
          rw [ei]
          have := gen (vint (i.den ρ φ)) (by omega) h4
          simpa using this
        · exact absurd h (by simp)
    · exact absurd h (by simp)
  · rename_i id off len e k hu hi
    obtain ⟨b, hb, rfl⟩ := hc
    have ei := so_int F hi
    split at h
    · rename_i ag n ht
      have gen : ∀ m : Int, 0 ≤ m → m < len → (Instr.indexAt t (.pointer (some ⟨b, off, none⟩)) (.int k m)).run cx.P w = .ok (.pointer (some ⟨b, off + m.toNat * n, none⟩)) w := by
        intro m h0 h1
        simp [Instr.indexAt, run_underlying hu, asIntOf, (tyx_run ht _).2, Addr.add_lit, h0, h1, Instr.sureAddr]
      split at h
      · rename_i k' j
        split at h
        · rename_i hj
          have hj : j < len := by unfold Nat.blt at hj; exact Nat.lt_of_succ_le (Nat.le_of_ble_eq_true hj)
          have := vC_ok h
          subst this
          refine ⟨rfl, rfl, .pointer (some ⟨b, off + j * n, none⟩), ?_, b, hb, rfl⟩
          rw [ei]
          have := gen (Int.ofNat j) (Int.natCast_nonneg j) (Int.ofNat_lt.2 hj)
          simpa [E.den] using this
        · exact absurd h (by simp)
      · split at h
        · rename_i hn
          have hn := Nat.eq_of_beq_eq_true hn
          subst hn
          obtain ⟨h1, h2⟩ := asg_ok F hf h
          obtain ⟨h3, h4⟩ := asg_ok F hf h1
          have := vC_ok h3
          subst this
          rw [mkLss_den] at h2 h4
          simp only [E.den, vint_int, Value.bool.injEq] at h2 h4
          replace h2 := of_decide_eq_false h2
          replace h4 := of_decide_eq_true h4
          refine ⟨rfl, rfl, _, ?_, b, hb, rfl⟩
          rw [ei]
          have := gen (vint (i.den ρ φ)) (by omega) h4
          simpa using this
        · exact absurd h (by simp)
    · exact absurd h (by simp)
  · rename_i vi e k hu hi
    have ei := so_int F hi
    split at h
    · rename_i ag n v ht hv
      obtain ⟨hmem, rfl⟩ := findVw_mem hv
      obtain ⟨ad, len, cap, vs, h1, h2, h3, h4, h4', h5, h6, h7, h8⟩ := V v hmem
      have hc : _ = E.den ρ φ (.var v.i) := hc
      simp only [E.den] at hc
      rw [h1] at hc
      subst hc
      split at h
      · obtain ⟨g1, g2⟩ := asg_ok F hf h
        obtain ⟨g3, g4⟩ := asg_ok F hf g1
        have := vC_ok g3
        subst this
        rw [mkLss_den] at g2 g4
        simp only [E.den, vint_int, Value.bool.injEq] at g2 g4
        replace g2 := of_decide_eq_false g2
        replace g4 := of_decide_eq_true g4
        rw [h2, vint_int] at g4
        have g4' : vint (i.den ρ φ) < (len : Int) := g4
        rcases h8 with ⟨h8, h9, _⟩ | ⟨b', off', h8, _⟩
        · subst h9
          exfalso
          omega
        subst h8
        refine ⟨rfl, rfl, .pointer (some ⟨b', off' + (vint (i.den ρ φ)).toNat * n + 0, none⟩), ?_, b', off', len, cap, h1, rfl⟩
        rw [ei]
        simp [Instr.indexAt, run_underlying hu, asIntOf, (tyx_run ht _).2, Addr.add_lit, g4', show 0 ≤ vint (i.den ρ φ) by omega]
      · exact absurd h (by simp)
    · exact absurd h (by simp)
  · exact absurd h (by simp)

/-! ### Slices of slices, by numbers -/
def sliceX (cx : Cx) (t : TypeId) (c : SC) (lo hi : Option E) : OR :=
  match c, cx.P.underlying t with
  | .slc id off len cap, some (.slice e) =>
    match tyx cx.P e with
    | some (_, n) =>
      match lo, hi with
      | none, none => vC (.slc id off len cap)
      | some (.int _ (.ofNat l)), none => if Nat.ble l len then vC (.slc id (if Nat.beq cap l then off else off + l * n) (len - l) (cap - l)) else .stuck
      | none, some (.int _ (.ofNat h)) => if Nat.ble h cap then vC (.slc id off h cap) else .stuck
      | some (.int _ (.ofNat l)), some (.int _ (.ofNat h)) => if Nat.ble h cap && Nat.ble l h then vC (.slc id (if Nat.beq cap l then off else off + l * n) (h - l) (cap - l)) else .stuck
      | _, _ => .stuck
    | none => .stuck
  | .ptr id off, some (.array m e) =>
    match tyx cx.P e with
    | some (_, _) =>
      match lo, hi with
      | none, none => vC (.slc id off m m)
      | _, _ => .stuck
    | none => .stuck
  | _, _ => .stuck

theorem bound_ok {k : IntKind} {n y : Nat} (code : BoundsCode) (h : n ≤ y) : (Instr.sliceBound (.int k (Int.ofNat n)) y code).run cx.P w = .ok n w := by
  have h1 : (0 : Int) ≤ Int.ofNat n := Int.natCast_nonneg n
  have h2 : Int.ofNat n ≤ (y : Int) := Int.ofNat_le.2 h
  simp only [Instr.sliceBound, asIntOf, Sem.run_bind, Sem.run_pure, Result.andThen_ok]
  rw [if_pos ⟨h1, h2⟩]
  simp

theorem sliceX_run {t : TypeId} {c : SC} {lo hi : Option E} {δ : Dl} {v : Value} (h : sliceX cx t c lo hi = .ok δ) (hc : c.is ρ φ β v) :
    Reads ρ φ β cx.P w δ (Instr.sliceAt t v (lo.map (·.den ρ φ)) (hi.map (·.den ρ φ)) none) := by
  unfold sliceX at h
  split at h
  · rename_i id off len cap e hu
    obtain ⟨b, hb, rfl⟩ := hc
    split at h
    · rename_i ag n ht
      split at h
      · have := vC_ok h
        subst this
        refine ⟨rfl, rfl, _, ?_, b, hb, rfl⟩
        simp [Instr.sliceAt, Instr.slice, run_underlying hu, Instr.sliceBounds, (tyx_run ht _).2, Addr.add_zero']
      · rename_i k l
        split at h
        · rename_i hl
          have hl := Nat.le_of_ble_eq_true hl
          have := vC_ok h
          subst this
          refine ⟨rfl, rfl, _, ?_, b, hb, rfl⟩
          simp only [Option.map_some, Option.map_none, E.den]
          simp only [Instr.sliceAt, Instr.slice, Sem.run_bind, run_underlying hu, Result.andThen_ok, Instr.sliceBounds, Sem.run_pure, bound_ok _ hl, (tyx_run ht _).2]
          congr 2
          by_cases e : cap = l
          · subst e; simp
          · have e' : Nat.beq cap l = false := by
              cases hq : Nat.beq cap l with
              | false => rfl
              | true => exact absurd (Nat.eq_of_beq_eq_true hq) e
            simp [e, e', Addr.add_lit]
        · exact absurd h (by simp)
      · rename_i k l
        split at h
        · rename_i hl
          have hl := Nat.le_of_ble_eq_true hl
          have := vC_ok h
          subst this
          refine ⟨rfl, rfl, _, ?_, b, hb, rfl⟩
          simp only [Option.map_some, Option.map_none, E.den]
          simp only [Instr.sliceAt, Instr.slice, Sem.run_bind, run_underlying hu, Result.andThen_ok, Instr.sliceBounds, Sem.run_pure, bound_ok _ hl, (tyx_run ht _).2]
          simp [Addr.add_lit]
        · exact absurd h (by simp)
      · rename_i k l k' m
        split at h
        · rename_i hl
          rw [Bool.and_eq_true] at hl
          have h1 := Nat.le_of_ble_eq_true hl.1
          have h2 := Nat.le_of_ble_eq_true hl.2
          have := vC_ok h
          subst this
          refine ⟨rfl, rfl, _, ?_, b, hb, rfl⟩
          simp only [Option.map_some, E.den]
          simp only [Instr.sliceAt, Instr.slice, Sem.run_bind, run_underlying hu, Result.andThen_ok, Instr.sliceBounds, Sem.run_pure, bound_ok _ h1, bound_ok _ h2, (tyx_run ht _).2]
          congr 2
          by_cases e : cap = l
          · subst e; simp
          · have e' : Nat.beq cap l = false := by
              cases hq : Nat.beq cap l with
              | false => rfl
              | true => exact absurd (Nat.eq_of_beq_eq_true hq) e
            simp [e, e', Addr.add_lit]
        · exact absurd h (by simp)
      · exact absurd h (by simp)
    · exact absurd h (by simp)
  · rename_i id off m e hu
    obtain ⟨b, hb, rfl⟩ := hc
    split at h
    · rename_i ag n ht
      split at h
      · have := vC_ok h
        subst this
        refine ⟨rfl, rfl, _, ?_, b, hb, rfl⟩
        simp [Instr.sliceAt, run_underlying hu, Instr.sliceBounds, (tyx_run ht _).2, Instr.sureAddr, Addr.add_zero']
      · exact absurd h (by simp)
    · exact absurd h (by simp)
  · exact absurd h (by simp)

/-! ### Strings -/
def mkLen : E → E
  | .val (.string s) => .int .i64 (Int.ofNat s.size)
  | a => .len a
def mkByte : E → E → E
  | .val (.string s), .int _ (.ofNat n) => .int .u8 (Int.ofNat (s.data.toList.getD n 0).toNat)
  | s, i => .byte s i
def mkCut : E → E → E → E
  | .val (.string s), .int _ (.ofNat l), .int _ (.ofNat h) => .val (.string (s.extract l h))
  | s, l, h => .cut s l h
theorem toList_data (s : ByteArray) : s.toList = s.data.toList := ByteArray.toList_eq s
theorem mkLen_den {x : E} {s : ByteArray} (h : x.den ρ φ = .string s) (hs : s.size ≤ 140737488355328) : (mkLen x).den ρ φ = .int .i64 (Int.ofNat s.size) := by
  unfold mkLen
  split
  · simp only [E.den] at h ⊢
    simp only [Value.string.injEq] at h
    subst h
    rfl
  · simp only [E.den, h, vlen]
    rw [if_pos (by omega)]
    rfl
theorem mkByte_den {x i : E} : (mkByte x i).den ρ φ = .int .u8 ((vstr (x.den ρ φ)).getD (vint (i.den ρ φ)).toNat 0).toNat := by
  unfold mkByte
  split
  · simp only [E.den, vstr_string, vint_int, toList_data]
    rfl
  · rfl
theorem mkCut_den {x l h : E} : (mkCut x l h).den ρ φ = vcut (x.den ρ φ) (vint (l.den ρ φ)).toNat (vint (h.den ρ φ)).toNat := by
  unfold mkCut
  split
  · simp only [E.den, vint_int, vcut]
    rfl
  · rfl

/-- One byte of a string. -/
def indexX (cx : Cx) (fs : Facts) (t : TypeId) (x i : E) : OR :=
  match cx.P.underlying t, cx.so x, cx.so i with
  | some .string, .str, .int _ => asg cx fs (mkLss i (.int .i64 0)) false (asg cx fs (mkLss i (mkLen x)) true (vE (mkByte x i)))
  | _, _, _ => .stuck
theorem indexX_run (F : Fits cx.Γ cx.S ρ φ) {fs : Facts} (hf : fs.hold ρ φ) {t : TypeId} {x i : E} {δ : Dl} (h : indexX cx fs t x i = .ok δ) :
    Reads ρ φ β cx.P w δ (Instr.index t (x.den ρ φ) (i.den ρ φ)) := by
  unfold indexX at h
  split at h
  · rename_i k hu hx hi
    obtain ⟨s, hs, hb⟩ := so_strB F hx
    have ei := so_int F hi
    obtain ⟨g1, g2⟩ := asg_ok F hf h
    obtain ⟨g3, g4⟩ := asg_ok F hf g1
    have := vE_ok g3
    subst this
    rw [mkLss_den] at g2 g4
    rw [mkLen_den hs hb] at g4
    simp only [E.den, vint_int, Value.bool.injEq] at g2 g4
    replace g2 := of_decide_eq_false g2
    replace g4 := of_decide_eq_true g4
    generalize vint (i.den ρ φ) = m at ei g2 g4
    obtain ⟨n, rfl⟩ : ∃ n : Nat, m = Int.ofNat n := ⟨m.toNat, (Int.toNat_of_nonneg (by omega)).symm⟩
    have hn : n < s.size := Int.ofNat_lt.1 g4
    refine ⟨rfl, rfl, _, ?_, rfl⟩
    rw [mkByte_den, hs, ei]
    simp only [Instr.index, asIntOf, Sem.run_bind, Sem.run_pure, Result.andThen_ok, run_underlying hu, vstr_string, vint_int]
    have h0 : (0 : Int) ≤ Int.ofNat n := Int.natCast_nonneg n
    rw [if_pos h0]
    have e1 : (Int.ofNat n).toNat = n := rfl
    rw [e1]
    have e2 : s[n]? = some s[n] := getElem?_pos s n hn
    rw [e2]
    simp only [Sem.run_pure, toList_data]
    congr 2
    have : s.data.toList.getD n 0 = s[n] := by
      rw [List.getD_eq_getElem?_getD]
      have hn' : n < s.data.toList.length := by rw [Array.length_toList]; exact hn
      rw [List.getElem?_eq_getElem hn']
      simp
      rfl
    rw [this]
  · exact absurd h (by simp)

def sliceStrX (cx : Cx) (fs : Facts) (t : TypeId) (x : E) (lo hi : Option E) : OR :=
  match cx.P.underlying t, cx.so x with
  | some .string, .str =>
    let h := hi.getD (mkLen x)
    let l := lo.getD (.int .i64 0)
    match cx.so h, cx.so l with
    | .int _, .int _ => asg cx fs (mkLss h (.int .i64 0)) false (asg cx fs (mkLss (mkLen x) h) false (asg cx fs (mkLss l (.int .i64 0)) false (asg cx fs (mkLss h l) false (vE (mkCut x l h)))))
    | _, _ => .stuck
  | _, _ => .stuck
theorem sliceStrX_run (F : Fits cx.Γ cx.S ρ φ) {fs : Facts} (hf : fs.hold ρ φ) {t : TypeId} {x : E} {lo hi : Option E} {δ : Dl} (h : sliceStrX cx fs t x lo hi = .ok δ) :
    Reads ρ φ β cx.P w δ (Instr.sliceAt t (x.den ρ φ) (lo.map (·.den ρ φ)) (hi.map (·.den ρ φ)) none) := by
  unfold sliceStrX at h
  split at h
  · rename_i hu hx
    obtain ⟨s, hs, hb⟩ := so_strB F hx
    have hlen := mkLen_den hs hb
    simp only at h
    split at h
    · rename_i k1 k2 hh hl
      have eh := so_int F hh
      have el := so_int F hl
      obtain ⟨h1, g1⟩ := asg_ok F hf h
      obtain ⟨h2, g2⟩ := asg_ok F hf h1
      obtain ⟨h3, g3⟩ := asg_ok F hf h2
      obtain ⟨h4, g4⟩ := asg_ok F hf h3
      have := vE_ok h4
      subst this
      rw [mkLss_den] at g1 g2 g3 g4
      rw [hlen] at g2
      simp only [E.den, vint_int, Value.bool.injEq] at g1 g2 g3 g4
      replace g1 := of_decide_eq_false g1
      replace g2 := of_decide_eq_false g2
      replace g3 := of_decide_eq_false g3
      replace g4 := of_decide_eq_false g4
      refine ⟨rfl, rfl, _, ?_, rfl⟩
      rw [mkCut_den, hs]
      generalize hmh : vint ((hi.getD (mkLen x)).den ρ φ) = mh at eh g1 g2 g4
      generalize hml : vint ((lo.getD (.int .i64 0)).den ρ φ) = ml at el g3 g4
      obtain ⟨a, rfl⟩ : ∃ n : Nat, mh = Int.ofNat n := ⟨mh.toNat, (Int.toNat_of_nonneg (by omega)).symm⟩
      obtain ⟨b, rfl⟩ : ∃ n : Nat, ml = Int.ofNat n := ⟨ml.toNat, (Int.toNat_of_nonneg (by omega)).symm⟩
      have ha : a ≤ s.size := by
        have : ¬ (s.size : Int) < (a : Int) := g2
        omega
      have hba : b ≤ a := by
        have : ¬ (a : Int) < (b : Int) := g4
        omega
      have hhi : ∀ c, (match hi.map (·.den ρ φ) with | some v => Instr.sliceBound v s.size c | none => pure s.size : Sem Nat).run cx.P w = .ok a w := by
        intro c
        cases hi with
        | none =>
          simp only [Option.getD_none] at eh
          rw [hlen] at eh
          simp only [Value.int.injEq] at eh
          have : s.size = a := Int.ofNat.inj eh.2
          simp [this]
        | some e =>
          simp only [Option.getD_some] at eh
          simp only [Option.map_some, eh]
          exact bound_ok c ha
      have hlo : ∀ c, (match lo.map (·.den ρ φ) with | some v => Instr.sliceBound v a c | none => pure 0 : Sem Nat).run cx.P w = .ok b w := by
        intro c
        cases lo with
        | none =>
          simp only [Option.getD_none, E.den, Value.int.injEq] at el
          have : b = 0 := by
            have := el.2
            have : (0 : Int) = (b : Int) := this
            omega
          simp [this]
        | some e =>
          simp only [Option.getD_some] at el
          simp only [Option.map_some, el]
          exact bound_ok c hba
      have hall : (Instr.sliceBounds false s.size s.size (lo.map (·.den ρ φ)) (hi.map (·.den ρ φ)) none).run cx.P w = .ok (b, a, s.size) w := by
        have h1 := hhi .sliceAlen
        have h2 := hlo .sliceB
        cases hi <;> cases lo <;> simp only [Option.map_some, Option.map_none] at h1 h2 ⊢ <;> unfold Instr.sliceBounds <;> simp_all
      simp only [vcut]
      simp [Instr.sliceAt, Instr.slice, run_underlying hu, hall]
    · exact absurd h (by simp)
  · exact absurd h (by simp)

/-! ### New blocks, stores -/
theorem storeX_does (F : Fits cx.Γ cx.S ρ φ) (H : M ρ φ fx L B β a w) {t : TypeId} {c : SC} {v : SV} {δ : Dl} {x y : Value} {nid : Nat} {o : Oper} (h : storeX cx B t c v = .ok δ) (hc : c.is ρ φ β x)
    (hv : v.is ρ φ β y) (ho : execOp a.eval o = (do Instr.storeAt t x y; pure .skip)) : Does ρ φ cx.P fx.w0.heap.size fx.X o a w β nid δ := by
  unfold storeX at h
  split at h
  · rename_i id off ag n cs ht hcs
    split at h
    · rename_i row hr
      split at h
      · rename_i hcond
        simp only [Bool.and_eq_true] at hcond
        obtain ⟨⟨h1, h2⟩, h3⟩ := hcond
        have h1 := Nat.eq_of_beq_eq_true h1
        have h2 := Nat.le_of_ble_eq_true h2
        simp only [OR.ok.injEq] at h
        subst h
        obtain ⟨b, hb, rfl⟩ := hc
        obtain ⟨b', vs, T, hb', hlo, hh, ha⟩ := H.box id row hr
        rw [hb] at hb'
        simp only [Option.some.injEq] at hb'
        subst hb'
        obtain ⟨us, hus, hau, hone⟩ := SV.cells_is F hcs h3 hv
        have hul := hau.length
        have hlen : off + 0 + us.length ≤ vs.toArray.size := by
          have := ha.length
          simp only [List.size_toArray]
          omega
        have hrun := run_storeCells_at cx.P b off T us 0 vs.toArray w hh hlen hone
        intro K Q hk
        have hx : (execOp a.eval o).run cx.P w = .ok .skip (w.setRow b (spl vs off us).toArray) := by
          rw [ho]
          have hsz : us.length = n := by omega
          simp only [Instr.storeAt, Instr.sureAddr, Sem.run_bind, Sem.run_pure, Result.andThen_ok, storeVar, (tyx_run ht _).2, hus]
          rw [if_neg (by simp [hsz])]
          rw [hrun]
          simp [spl]
        simp only [Oper.wp, hx, Oper.upon]
        refine hk β undef _ ⟨Ext.refl _, fun _ _ h => Or.inl h, ⟨rfl, rfl, rfl, by simp, fun k hk => by omega⟩, fun id b h => by have := H.inh _ _ h; simpa using this, fun k hk hne => ?_, fun i o c hw => ?_, by simp, fun i o c hw b1 vs1 T1 hb1 hh1 => ?_⟩ rfl
        · exact setRow_other w b k _ (fun e => hne id off cs rfl (by rw [e]; exact hb))
        · simp only [Option.some.injEq, Prod.mk.injEq] at hw
          obtain ⟨rfl, rfl, rfl⟩ := hw
          exact ⟨b, hb, hlo⟩
        · simp only [Option.some.injEq, Prod.mk.injEq] at hw
          obtain ⟨rfl, rfl, rfl⟩ := hw
          rw [hb] at hb1
          simp only [Option.some.injEq] at hb1
          subst hb1
          rw [hh] at hh1
          simp only [Option.some.injEq, Obj.cells.injEq, and_true] at hh1
          obtain ⟨hvv, rfl⟩ := hh1
          have hvv : vs = vs1 := by simpa using hvv
          subst hvv
          exact ⟨us, hau, setRow_heap w b _ _ _ _ hh⟩
      · exact absurd h (by simp)
    · exact absurd h (by simp)
  · exact absurd h (by simp)
end
end Go.SX
