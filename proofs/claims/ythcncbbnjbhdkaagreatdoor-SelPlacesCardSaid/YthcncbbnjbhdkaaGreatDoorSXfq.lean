/- SX: an argument of plain cells, read by its type. -/
import Derived.Test.YthcncbbnjbhdkaaGreatDoorSXp
import Derived.Lib.SmallJoins
namespace Go.SX
open Go Go.RowKit Go.Joins

def fieldsSo (P : Program) (g : TypeId → Option (List So)) : Nat → List Field → Option (List So)
  | _, [] => some []
  | o, f :: fs => match g f.type with
    | some s => if Nat.beq f.offset o && Nat.beq (P.cellsOf f.type) s.length then (fieldsSo P g (o + s.length) fs).map (s ++ ·) else none
    | none => none
/-- The cells of a plain type. -/
def flatSo (P : Program) : Nat → TypeId → Option (List So)
  | 0, _ => none
  | d + 1, t => match P.underlying t with
    | some .bool => some [.bool]
    | some (.int k) => some [.int k]
    | some (.struct fs) => match fieldsSo P (flatSo P d) 0 fs.toList with
      | some ss => if Nat.beq (P.cellsOf t) ss.length then some ss else none
      | none => none
    | some (.array n e) => match flatSo P d e with
      | some s => if Nat.beq (P.cellsOf e) s.length && Nat.beq (P.cellsOf t) (n * s.length) then some (List.replicate n s).flatten else none
      | none => none
    | _ => none

theorem wf_int {k : IntKind} {n : Int} (h : (Lit.int k n).wf = true) : So.has (.int k) (.int k n) := by
  simp only [Lit.wf, Bool.and_eq_true, decide_eq_true_eq] at h
  have h1 : lowOf k = k.min := by cases k <;> rfl
  have h2 : highOf k = k.max := by cases k <;> rfl
  exact ⟨n, rfl, by rw [h1]; exact h.1, by rw [h2]; exact h.2⟩
section
variable {H : Type} {enc : TypeId × Value → H} {P : Program} {w : World} {base : Nat} {spare : Nat → Bool} {held : Bool}
theorem fields_has {g : TypeId → Option (List So)} {n : Nat} {cs : List Value} (hg : ∀ t ss cs y, g t = some ss → DataW.trod enc P w base spare held n t cs = some y → All2 So.has ss cs) :
    ∀ (fs : List Field) (o : Nat) (ss : List So) (xs : List (DataW H × List MemPlace)), fieldsSo P g o fs = some ss → o + ss.length ≤ cs.length →
    (fs.mapM fun f => DataW.trod enc P w base spare held n f.type ((cs.drop f.offset).take (P.cellsOf f.type))) = some xs → All2 So.has ss ((cs.drop o).take ss.length)
  | [], o, ss, xs, h, _, _ => by
    simp only [fieldsSo, Option.some.injEq] at h
    subst h
    simp only [List.length_nil, List.take_zero]
    exact trivial
  | f :: fs, o, ss, xs, h, hl, hm => by
    simp only [fieldsSo] at h
    split at h
    · rename_i s hs
      split at h
      · rename_i hc
        rw [Bool.and_eq_true] at hc
        have h1 := Nat.eq_of_beq_eq_true hc.1
        have h2 := Nat.eq_of_beq_eq_true hc.2
        simp only [Option.map_eq_some_iff] at h
        obtain ⟨ss', hss, rfl⟩ := h
        rw [List.mapM_cons] at hm
        simp only [Option.bind_eq_bind, Option.bind_eq_some_iff] at hm
        obtain ⟨y, hy, ys, hys, _⟩ := hm
        rw [List.length_append] at hl
        have g1 := hg _ _ _ _ hs hy
        have g2 := fields_has hg fs (o + s.length) ss' ys hss (by omega) hys
        rw [h1, h2] at g1
        rw [List.length_append, List.take_add, List.drop_drop]
        exact All2.append g1 g2
      · exact absurd h (by simp)
    · exact absurd h (by simp)
theorem elems_has {n : Nat} {cs : List Value} {e : TypeId} {s : List So} (hg : ∀ cs y, DataW.trod enc P w base spare held n e cs = some y → All2 So.has s cs) (hc : P.cellsOf e = s.length) : ∀ (m o : Nat) (xs : List (DataW H × List MemPlace)),
    ((List.range' o m).mapM fun i => DataW.trod enc P w base spare held n e ((cs.drop (i * P.cellsOf e)).take (P.cellsOf e))) = some xs → All2 So.has (List.replicate m s).flatten ((cs.drop (o * s.length)).take (m * s.length))
  | 0, o, xs, _ => by simp only [List.replicate_zero, List.flatten_nil, Nat.zero_mul, List.take_zero]; exact trivial
  | m + 1, o, xs, hm => by
    rw [List.range'_succ, List.mapM_cons] at hm
    simp only [Option.bind_eq_bind, Option.bind_eq_some_iff] at hm
    obtain ⟨y, hy, ys, hys, _⟩ := hm
    have g1 := hg _ _ hy
    have g2 := elems_has hg hc m (o + 1) ys hys
    rw [hc] at g1
    rw [List.replicate_succ, List.flatten_cons, show (m + 1) * s.length = s.length + m * s.length by rw [Nat.add_mul, Nat.one_mul, Nat.add_comm], List.take_add, List.drop_drop, show o * s.length + s.length = (o + 1) * s.length by rw [Nat.add_mul, Nat.one_mul]]
    exact All2.append g1 g2
theorem flat_has : ∀ (d n : Nat) (t : TypeId) (ss : List So) (cs : List Value) (y : DataW H × List MemPlace), flatSo P d t = some ss → DataW.trod enc P w base spare held n t cs = some y → All2 So.has ss cs
  | 0, _, _, _, _, _, h, _ => by simp [flatSo] at h
  | d + 1, 0, _, _, _, _, _, h => by simp [DataW.trod] at h
  | d + 1, n + 1, t, ss, cs, y, h, ht => by
    simp only [flatSo] at h
    simp only [DataW.trod] at ht
    split at h
    · rename_i hu
      rw [hu] at ht
      simp only [Option.some.injEq] at h
      subst h
      split at ht <;> rename_i hu2 <;> first | (simp at hu2; done) | skip
      · exact ⟨⟨_, rfl⟩, trivial⟩
      all_goals exact absurd ht (by simp)
    · rename_i k hu
      rw [hu] at ht
      simp only [Option.some.injEq] at h
      subst h
      split at ht <;> rename_i hu2 <;> first | (simp at hu2; done) | skip
      · rename_i k0 k' m _
        simp only [Option.some.injEq, TypeDesc.int.injEq] at hu2
        split at ht
        · rename_i hw
          obtain ⟨rfl, hw⟩ := hw
          subst hu2
          exact ⟨wf_int hw, trivial⟩
        · exact absurd ht (by simp)
      all_goals exact absurd ht (by simp)
    · rename_i fs hu
      rw [hu] at ht
      split at h
      · rename_i s2 hs2
        split at h
        · rename_i hc
          have hc := Nat.eq_of_beq_eq_true hc
          simp only [Option.some.injEq] at h
          subst h
          simp only at ht
          split at ht
          · rename_i hl
            simp only [Option.map_eq_some_iff] at ht
            obtain ⟨xs, hxs, _⟩ := ht
            have := fields_has (fun t ss cs y => flat_has d n t ss cs y) fs.toList 0 s2 xs hs2 (by omega) hxs
            rw [List.drop_zero, ← hc, ← hl, List.take_length] at this
            exact this
          · exact absurd ht (by simp)
        · exact absurd h (by simp)
      · exact absurd h (by simp)
    · rename_i m e hu
      rw [hu] at ht
      split at h
      · rename_i s2 hs2
        split at h
        · rename_i hc
          rw [Bool.and_eq_true] at hc
          have hc1 := Nat.eq_of_beq_eq_true hc.1
          have hc2 := Nat.eq_of_beq_eq_true hc.2
          simp only [Option.some.injEq] at h
          subst h
          simp only at ht
          split at ht
          · rename_i hl
            simp only [Option.map_eq_some_iff] at ht
            obtain ⟨xs, hxs, _⟩ := ht
            rw [List.range_eq_range'] at hxs
            have := elems_has (fun cs y => flat_has d n e s2 cs y hs2) hc1 m 0 xs hxs
            rw [Nat.zero_mul, List.drop_zero, ← hc2, ← hl, List.take_length] at this
            exact this
          · exact absurd ht (by simp)
        · exact absurd h (by simp)
      · exact absurd h (by simp)
    · exact absurd h (by simp)
end
end Go.SX
