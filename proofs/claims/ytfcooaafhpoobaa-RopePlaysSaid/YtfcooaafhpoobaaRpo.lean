/- A slice of calls, opened: its cells. -/
import Derived.Test.YtfcooaafhpoobaaRpn
import Derived.Test.YtfcooaafhpoobaaRops
import Derived.Test.YtfcooaafhpoobaaRopu
import Derived.Deep.Fields
namespace Go.Proofs.Ytfcooaafhpoobaa
open Go.RowKit Rp Go.ChangeShapes Go.WideShapes Go.Deep
open Cq (U64 I64 isW)

/-- the cells of a call -/
structure OpAt (W : World) (p : Addr) (i : Nat) (k w n m : Int) (L B : Value) (S : ByteArray) : Prop where
  c0 : W.cell? (p.add (i * 7)) = some (.int .i64 k)
  c1 : W.cell? (p.add (i * 7 + 1)) = some (.int .i64 w)
  c2 : W.cell? (p.add (i * 7 + 2)) = some (.int .i64 n)
  c3 : W.cell? (p.add (i * 7 + 3)) = some (.int .i64 m)
  c4 : W.cell? (p.add (i * 7 + 4)) = some L
  c5 : W.cell? (p.add (i * 7 + 5)) = some B
  c6 : W.cell? (p.add (i * 7 + 6)) = some (.string S)
def Ops (W : World) (a : Option Addr) (len : Nat) : Prop :=
  ∀ i, i < len → ∃ (p : Addr) (k w n m : Int) (AL : Option Addr) (lL cL : Nat) (z : List Int) (AB : Option Addr) (lB cB : Nat) (ys : List Int) (S : ByteArray), a = some p ∧ p.block < W.heap.size ∧
    OpAt W p i k w n m (.slice AL lL cL) (.slice AB lB cB) S ∧ OpOk W AL lL cL z AB lB cB ys S
theorem row_words {W : World} {x : Addr} {z : List Int} {cap : Nat} (hz : z.length = cap) (hcell : ∀ i, i < z.length → W.cell? (x.add i) = some (.int .u64 (z.getD i 0))) (m : Nat) (hm : m ≤ cap) : WordsIn W (some x) m (z.take m) := by
  intro hp
  obtain ⟨b, off, spot⟩ := x
  have h0 := hcell 0 (by omega)
  have hspot : spot = none := by simpa [Addr.add] using World.cell?_spot h0
  subst hspot
  refine ⟨b, off, rfl, ?_, fun i hi => ?_⟩
  · have := block_lt_of_cell h0
    simpa [Addr.add] using this
  · have h := hcell i (by omega)
    have e : (z.take m).getD i 0 = z.getD i 0 := by rw [List.getD_eq_getElem?_getD, List.getD_eq_getElem?_getD, List.getElem?_take_of_lt (by omega)]
    rw [e]
    by_cases g : i = 0
    · subst g; simpa [Addr.add] using h
    · simpa [Addr.add, g] using h
theorem opUnder : ∃ f0 f1 f2 f3 f4 f5 f6, Try.prog.underlying 28 = some (.struct #[f0, f1, f2, f3, f4, f5, f6]) ∧ f0.type = 3 ∧ f1.type = 3 ∧ f2.type = 3 ∧ f3.type = 3 ∧ f4.type = 26 ∧ f5.type = 22 ∧ f6.type = 9 ∧
    oneCellFields Try.prog #[f0, f1, f2, f3, f4, f5, f6] = true :=
  ⟨_, _, _, _, _, _, _, Try.underlying28, rfl, rfl, rfl, rfl, rfl, rfl, rfl, by kernel_rfl⟩
set_option maxRecDepth 100000 in
theorem open_ops {H : Type} {enc : TypeId × Value → H} {W : World} {base fuel : Nat} {cs : List Value} {x : DataW H × List MemPlace}
    (h : DataW.trod enc Try.prog W base (fun _ => true) true fuel 23 cs = some x) :
    ∃ a len cap, cs = [.slice a len cap] ∧ len ≤ cap ∧ cap ≤ maxLen ∧ (a = none → len = 0 ∧ cap = 0) ∧ Ops W a len := by
  obtain ⟨f0, f1, f2, f3, f4, f5, f6, hu, t0, t1, t2, t3, t4, t5, t6, hone⟩ := opUnder
  have hc7 : Try.prog.cellsOf 28 = 7 := by kernel_rfl
  have hcu : Try.prog.cellsOf 46 = 1 := by kernel_rfl
  have hcb : Try.prog.cellsOf 5 = 1 := by kernel_rfl
  rcases open_slice Try.underlying23 h with ⟨rfl, _⟩ | ⟨a, len, cap, m, n, D, Pl, rfl, hb, hl, hm, hmm, _, hi⟩
  · exact ⟨none, 0, 0, rfl, Nat.le_refl _, Nat.zero_le _, fun _ => ⟨rfl, rfl⟩, fun i hi => absurd hi (by omega)⟩
  · refine ⟨some a, len, cap, rfl, hl, hm, (fun h => by cases h), fun i him => ?_⟩
    obtain ⟨cs', h1, h2⟩ := hi i (by rw [hmm]; simp only [if_true]; omega)
    rw [hc7] at h1
    obtain ⟨_, hlen, hcell⟩ := World.cells?_some h1
    obtain ⟨xs, n', _, _, _, hxl, hf⟩ := DataW.trod_struct hu h2
    match cs', hlen with
    | [v0, v1, v2, v3, v4, v5, v6], _ =>
      have fld : ∀ (j : Nat) (f : Field) (v : Value), (#[f0, f1, f2, f3, f4, f5, f6] : Array Field)[j]? = some f → ([v0, v1, v2, v3, v4, v5, v6] : List Value)[j]? = some v → j < 7 → ∃ y, DataW.trod enc Try.prog W base (fun _ => true) true n' f.type [v] = some y := by
        intro j f v hj hv hj7
        obtain ⟨ho, hk⟩ := hone_of hone j f hj
        have h3 := hf j f hj
        rw [ho, hk] at h3
        have h4 : (([v0, v1, v2, v3, v4, v5, v6] : List Value).drop j).take 1 = [v] := by
          have hd : j < ([v0, v1, v2, v3, v4, v5, v6] : List Value).length := (List.getElem?_eq_some_iff.1 hv).1
          rw [List.drop_eq_getElem_cons hd]
          have := (List.getElem?_eq_some_iff.1 hv).2
          rw [this]; rfl
        rw [h4] at h3
        have hx7 : j < xs.length := by rw [hxl]; exact hj7
        exact ⟨xs[j], by rw [h3, List.getElem?_eq_getElem hx7]⟩
      obtain ⟨y0, r0⟩ := fld 0 f0 v0 rfl rfl (by omega)
      obtain ⟨y1, r1⟩ := fld 1 f1 v1 rfl rfl (by omega)
      obtain ⟨y2, r2⟩ := fld 2 f2 v2 rfl rfl (by omega)
      obtain ⟨y3, r3⟩ := fld 3 f3 v3 rfl rfl (by omega)
      obtain ⟨y4, r4⟩ := fld 4 f4 v4 rfl rfl (by omega)
      obtain ⟨y5, r5⟩ := fld 5 f5 v5 rfl rfl (by omega)
      obtain ⟨y6, r6⟩ := fld 6 f6 v6 rfl rfl (by omega)
      rw [t0] at r0
      rw [t1] at r1
      rw [t2] at r2
      rw [t3] at r3
      rw [t4] at r4
      rw [t5] at r5
      rw [t6] at r6
      obtain ⟨k, e0, _, _⟩ := DataW.trod_int Try.underlying3 r0
      obtain ⟨w, e1, _, _⟩ := DataW.trod_int Try.underlying3 r1
      obtain ⟨nn, e2, _, _⟩ := DataW.trod_int Try.underlying3 r2
      obtain ⟨mm, e3, _, _⟩ := DataW.trod_int Try.underlying3 r3
      obtain ⟨S, e6, _, hS⟩ := DataW.trod_string Try.underlying9 r6
      simp only [List.cons.injEq, and_true] at e0 e1 e2 e3 e6
      subst e0 e1 e2 e3 e6
      have g0 := hcell 0 (by omega)
      have g1 := hcell 1 (by omega)
      have g2 := hcell 2 (by omega)
      have g3 := hcell 3 (by omega)
      have g4 := hcell 4 (by omega)
      have g5 := hcell 5 (by omega)
      have g6 := hcell 6 (by omega)
      rw [Go.Deep.add_add] at g0 g1 g2 g3 g4 g5 g6
      have hbk := cell_blk g0
      have eb : (a.add (i * 7 + 0)).block = a.block := by unfold Addr.add; split <;> rfl
      rw [eb] at hbk
      obtain ⟨AL, lL, cL, z, e4, hL1, hL2, hzl, hzu, hws⟩ : ∃ AL lL cL z, v4 = .slice AL lL cL ∧ lL ≤ cL ∧ cL ≤ maxLen ∧ List.length z = lL ∧ (∀ x ∈ z, U64 x) ∧ WordsIn W AL lL z := by
        rcases open_ints Try.underlying26 Try.underlying46 hcu r4 with ⟨hcs, _⟩ | ⟨x, l, c, zs, hcs, _, hl4, hm4, hz4, _, hcell4, hwz4⟩
        · simp only [List.cons.injEq, and_true] at hcs
          exact ⟨none, 0, 0, [], hcs, Nat.le_refl _, Nat.zero_le _, rfl, (fun x hx => by simp at hx), (fun hp => absurd hp (by omega))⟩
        · simp only [List.cons.injEq, and_true] at hcs
          have hzc : zs.length = c := by simpa using hz4
          exact ⟨some x, l, c, zs.take l, hcs, hl4, hm4, by rw [List.length_take]; omega, (fun y hy => Cq.u64_of_wf (hwz4 y (List.mem_of_mem_take hy))), row_words hzc hcell4 l (by omega)⟩
      obtain ⟨AB, lB, cB, ys, e5, hB1, hB2, hyl, hyb, hrd, hnil⟩ : ∃ AB lB cB ys, v5 = .slice AB lB cB ∧ lB ≤ cB ∧ cB ≤ maxLen ∧ List.length ys = lB ∧ Bytes8 ys ∧ Reads W AB ys ∧ (AB = none → lB = 0 ∧ cB = 0) := by
        rcases open_ints Try.underlying22 Try.underlying5 hcb r5 with ⟨hcs, _⟩ | ⟨x, l, c, zs, hcs, _, hl4, hm4, hz4, _, hcell4, hwz4⟩
        · simp only [List.cons.injEq, and_true] at hcs
          exact ⟨none, 0, 0, [], hcs, Nat.le_refl _, Nat.zero_le _, rfl, (fun x hx => by simp at hx), (fun hp => absurd hp (by simp)), fun _ => ⟨rfl, rfl⟩⟩
        · simp only [List.cons.injEq, and_true] at hcs
          have hzc : zs.length = c := by simpa using hz4
          exact ⟨some x, l, c, zs.take l, hcs, hl4, hm4, by rw [List.length_take]; omega, row_bytes hwz4 l, row_reads hzc hcell4 l (by omega), fun h => by cases h⟩
      subst e4 e5
      exact ⟨a, k, w, nn, mm, AL, lL, cL, z, AB, lB, cB, ys, S, rfl, hbk, ⟨g0, g1, g2, g3, g4, g5, g6⟩, ⟨hL1, hL2, hzl, hzu, hws, hB1, hB2, hyl, hyb, hrd, hnil, hS⟩⟩
theorem OpAt.below {W W' : World} {p : Addr} {i : Nat} {k w n m : Int} {L B : Value} {S : ByteArray} (h : OpAt W p i k w n m L B S) (b : Below W.heap.size W W') (hp : p.block < W.heap.size) : OpAt W' p i k w n m L B S := by
  have hk : ∀ j, W'.cell? (p.add j) = W.cell? (p.add j) := fun j => World.cell?_of_block (by
    have e : (p.add j).block = p.block := by unfold Addr.add; split <;> rfl
    rw [e]; exact b.block _ hp)
  exact ⟨(hk _).trans h.c0, (hk _).trans h.c1, (hk _).trans h.c2, (hk _).trans h.c3, (hk _).trans h.c4, (hk _).trans h.c5, (hk _).trans h.c6⟩
end Go.Proofs.Ytfcooaafhpoobaa
