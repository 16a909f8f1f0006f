/- Layer 9 (memory): what a write leaves as it was; a slice of calls. -/
import Derived.Test.YtlbkmdmnijmieaaNi
namespace Go.Proofs.Ytlbkmdmnijmieaa
open Go Go.RowKit Rp Go.Maps
open Cq (U64 I64 isW nb mask)

def Lens (L : List Ar) : Prop := ∀ a ∈ L, a.bs.length = a.n
theorem lens_cons {a : Ar} {L : List Ar} : Lens (a :: L) ↔ a.bs.length = a.n ∧ Lens L := by unfold Lens; simp
theorem lens_setB {L : List Ar} (h : Lens L) (x b : Int) : Lens (setB L x b) := by
  induction L with
  | nil => exact h
  | cons a L ih =>
    rw [lens_cons] at h
    simp only [setB]
    split
    · rw [lens_cons]
      exact ⟨by show (a.bs.set _ b).length = a.n; rw [List.length_set]; exact h.1, h.2⟩
    · rw [lens_cons]; exact ⟨h.1, ih h.2⟩
theorem put_av {a c : Ar} (h : a.av = c.av) (x b : Int) : (a.put x b).av = (c.put x b).av := by
  simp only [Ar.av, Av.mk.injEq] at h
  obtain ⟨h1, h2, h3, h4⟩ := h
  simp only [Ar.av, Ar.put, Av.mk.injEq]
  refine ⟨h1, h2, h3, ?_⟩
  rw [h1, h4]
theorem setB_av {L M : List Ar} (h : L.map Ar.av = M.map Ar.av) (hL : Lens L) (hM : Lens M) (x b : Int) : (setB L x b).map Ar.av = (setB M x b).map Ar.av := by
  induction L generalizing M with
  | nil =>
    cases M with
    | nil => rfl
    | cons c M => simp at h
  | cons a L ih =>
    cases M with
    | nil => simp at h
    | cons c M =>
      simp only [List.map_cons, List.cons.injEq] at h
      rw [lens_cons] at hL hM
      have hh := has_av h.1 hL.1 hM.1 x
      simp only [setB]
      rw [hh]
      split
      · simp only [List.map_cons]; rw [put_av h.1, h.2]
      · simp only [List.map_cons]; rw [h.1, ih h.2 hL.2 hM.2]
theorem lens_wrF {L : List Ar} (h : Lens L) (x v : Int) (k : Nat) : Lens (wrF L x v k) := by
  induction k with
  | zero => exact h
  | succ k ih => exact lens_setB ih _ _
theorem wrF_av {L M : List Ar} (h : L.map Ar.av = M.map Ar.av) (hL : Lens L) (hM : Lens M) (x v : Int) (k : Nat) : (wrF L x v k).map Ar.av = (wrF M x v k).map Ar.av := by
  induction k with
  | zero => exact h
  | succ k ih => exact setB_av ih (lens_wrF hL x v k) (lens_wrF hM x v k) _ _
/-- what may is told by -/
def Ar.geo (a : Ar) : Int × Nat × Bool × Bool × Int := (a.lo, a.n, a.wr, a.pv, a.ow)
theorem wrF_geo (L : List Ar) (x v : Int) (k : Nat) : (wrF L x v k).map Ar.geo = L.map Ar.geo := by
  induction k with
  | zero => rfl
  | succ k ih => rw [wrF, setB_map Ar.geo (fun _ _ _ => rfl), ih]
theorem openB_geo {L M : List Ar} (h : L.map Ar.geo = M.map Ar.geo) (t x : Int) (w : Bool) : openB L t x w = openB M t x w := by
  induction L generalizing M with
  | nil =>
    cases M with
    | nil => rfl
    | cons c M => simp at h
  | cons a L ih =>
    cases M with
    | nil => simp at h
    | cons c M =>
      simp only [List.map_cons, List.cons.injEq, Ar.geo, Prod.mk.injEq] at h
      obtain ⟨⟨h1, h2, h3, h4, h5⟩, h6⟩ := h
      have hh : a.has x = c.has x := by unfold Ar.has; rw [h1, h2]
      have ih' := ih (M := M) h6
      unfold openB findA at ih' ⊢
      rw [List.find?_cons, List.find?_cons, ← hh]
      cases a.has x
      · exact ih'
      · simp only [Ar.opn, h3, h4, h5]
theorem mayB_geo {L M : List Ar} (h : L.map Ar.geo = M.map Ar.geo) (t x w : Int) (wt : Bool) : mayB L t x w wt = mayB M t x w wt := by
  have e : opnAll L t x wt w.toNat = opnAll M t x wt w.toNat := by
    unfold opnAll
    congr 1
    funext k
    exact openB_geo h t _ wt
  unfold mayB
  rw [e]
theorem geo_of_av {L M : List Ar} (h : L.map Ar.av = M.map Ar.av) (hL : Lens L) (hM : Lens M) (oL : ∀ a ∈ L, a.ow = -1) (oM : ∀ a ∈ M, a.ow = -1) : L.map Ar.geo = M.map Ar.geo := by
  induction L generalizing M with
  | nil =>
    cases M with
    | nil => rfl
    | cons c M => simp at h
  | cons a L ih =>
    cases M with
    | nil => simp at h
    | cons c M =>
      simp only [List.map_cons, List.cons.injEq] at h
      rw [lens_cons] at hL hM
      have h1 := h.1
      simp only [Ar.av, Av.mk.injEq] at h1
      obtain ⟨e1, e2, e3, e4⟩ := h1
      simp only [List.map_cons, List.cons.injEq]
      refine ⟨?_, ih h.2 hL.2 hM.2 (fun b hb => oL b (List.mem_cons_of_mem _ hb)) (fun b hb => oM b (List.mem_cons_of_mem _ hb))⟩
      unfold Ar.geo
      rw [oL a (List.mem_cons_self ..), oM c (List.mem_cons_self ..), ← hL.1, ← hM.1, e1, e2, e3, e4]
/-- a call -/
structure Opq where
  kd : Int
  T : Int
  nr : Bool
  ix : Int
  q : Sto
  hx : I64 ix
def Opq.row (o : Opq) : List Value := [.int .i64 o.kd, .int .i64 o.T, .bool o.nr, .int .i64 o.ix, .int .u64 o.q.a, .int .i64 o.q.w, .int .u64 o.q.v]
/-- calls, as an argument -/
def OpsIn (W : World) (A : Option Addr) (n : Nat) : Prop :=
  0 < n → ∃ gb off, A = some ⟨gb, off, none⟩ ∧ gb < W.heap.size ∧ ∀ i, i < n → ∃ o : Opq, ∀ k, k < 7 → W.cell? ⟨gb, off + i * 7 + k, none⟩ = o.row[k]?
theorem OpsIn.kp {W W' : World} {A : Option Addr} {n : Nat} (h : OpsIn W A n) (k : Kp W W') : OpsIn W' A n := fun hp => by
  obtain ⟨gb, off, e, hg, hc⟩ := h hp
  exact ⟨gb, off, e, Nat.lt_of_lt_of_le hg k.size, fun i hi => by
    obtain ⟨o, ho⟩ := hc i hi
    exact ⟨o, fun j hj => (k.cell (p := ⟨gb, off + i * 7 + j, none⟩) hg).trans (ho j hj)⟩⟩
def dids (D : List Opq) : List Value := D.flatMap Opq.row
theorem dids_snoc (D : List Opq) (o : Opq) : dids (D ++ [o]) = dids D ++ o.row := by simp [dids]
theorem dids_get (D : List Opq) (i : Nat) (o : Opq) (h : D[i]? = some o) (k : Nat) (hk : k < 7) : (dids D)[i * 7 + k]? = o.row[k]? := by
  induction D generalizing i with
  | nil => simp at h
  | cons b D ih =>
    have hb : b.row.length = 7 := rfl
    simp only [dids, List.flatMap_cons]
    cases i with
    | zero =>
      simp only [List.getElem?_cons_zero, Option.some.injEq] at h
      subst h
      rw [Nat.zero_mul, Nat.zero_add, List.getElem?_append_left (by omega)]
    | succ i =>
      rw [List.getElem?_append_right (by omega), hb, show (i + 1) * 7 + k - 7 = i * 7 + k by omega]
      exact ih i (by simpa using h)
theorem infoOp : (Try.prog.info? 32).map (fun i => (i.zero, i.size, i.bytes)) = some (some (.agg #[.int .i64 0, .int .i64 0, .bool false, .int .i64 0, .int .u64 0, .int .i64 0, .int .u64 0]), 7, 56) := by kernel_rfl
end Go.Proofs.Ytlbkmdmnijmieaa
