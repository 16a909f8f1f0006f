import Derived.Test.YtdfddpfbjaknoaaGreatSbb
namespace Go.Proofs.YtdfddpfbjaknoaaGreat
open Go Go.Proofs Go.RowKit
/-! The law's words -/
def cut4 (f : Nat → Nat → Int) (i j : Nat) : Int := if j = 2 then (f i 2).tmod 2097152 else if j = 3 then bits .and .i64 (f i 3) 15 else f i j
theorem and15 (x : Int) : 0 ≤ bits .and .i64 x 15 ∧ bits .and .i64 x 15 ≤ 15 := by
  have h : (BitVec.ofInt 64 x &&& BitVec.ofInt 64 15).toNat ≤ 15 := by
    rw [BitVec.toNat_and]
    exact Nat.le_trans Nat.and_le_right (by decide)
  show 0 ≤ IntKind.i64.wrap ((BitVec.ofInt 64 x &&& BitVec.ofInt 64 15).toNat : Int) ∧ IntKind.i64.wrap ((BitVec.ofInt 64 x &&& BitVec.ofInt 64 15).toNat : Int) ≤ 15
  generalize (BitVec.ofInt 64 x &&& BitVec.ofInt 64 15).toNat = m at h
  have e : IntKind.i64.wrap (m : Int) = m := by
    simp only [IntKind.wrap, IntKind.signed, IntKind.bits]
    simp
    omega
  rw [e]
  omega
theorem mild_cut (f : Nat → Nat → Int) (n : Nat) : Mild (cut4 f) n := by
  intro i _
  have h := and15 (f i 3)
  have h1 : -2097152 < (f i 2).tmod 2097152 := Int.lt_tmod_of_pos _ (by decide)
  have h2 : (f i 2).tmod 2097152 < 2097152 := Int.tmod_lt_of_pos _ (by decide)
  refine ⟨?_, ?_, ?_, ?_⟩ <;> simp only [cut4] <;> simp <;> omega
def rowsOf (g : Nat → Nat → Int) : Nat → List Value
  | 0 => []
  | k + 1 => rowsOf g k ++ [.int .i64 (g k 0), .int .i64 (g k 1), .int .i64 (g k 2), .int .i64 (g k 3)]
def lowA (g : Nat → Nat → Int) : Nat → Int
  | 0 => 0
  | k + 1 => if k = 0 ∨ g k 2 < lowA g k then g k 2 else lowA g k
def highA (g : Nat → Nat → Int) : Nat → Int
  | 0 => 0
  | k + 1 => if k = 0 ∨ highA g k < g k 2 + g k 3 then g k 2 + g k 3 else highA g k
theorem rowsOf_len (g : Nat → Nat → Int) (n : Nat) : (rowsOf g n).length = n * 4 := by
  induction n with
  | zero => rfl
  | succ n ih => simp [rowsOf, ih]; omega
theorem rowsOf_at (g : Nat → Nat → Int) {n i j : Nat} (hi : i < n) (hj : j < 4) : (rowsOf g n)[i * 4 + j]? = some (.int .i64 (g i j)) := by
  induction n with
  | zero => omega
  | succ n ih =>
    unfold rowsOf
    by_cases h : i < n
    · rw [List.getElem?_append_left (by rw [rowsOf_len]; omega)]
      exact ih h
    · obtain rfl : i = n := by omega
      rw [List.getElem?_append_right (by rw [rowsOf_len]; omega), rowsOf_len, show i * 4 + j - i * 4 = j by omega]
      match j, hj with
      | 0, _ => rfl
      | 1, _ => rfl
      | 2, _ => rfl
      | 3, _ => rfl
theorem low_same (g : Nat → Nat → Int) {k : Nat} (hk : 0 < k) : lowA g k = lowO g k := by
  induction k with
  | zero => omega
  | succ k ih =>
    unfold lowA lowO
    by_cases h : k = 0
    · subst h
      simp [lowO]
    · rw [ih (by omega)]
      by_cases h2 : g k 2 < lowO g k
      · rw [if_pos (Or.inr h2)]; omega
      · rw [if_neg (by rintro (h3 | h3); exact h h3; exact h2 h3)]; omega
theorem high_same (g : Nat → Nat → Int) {k : Nat} (hk : 0 < k) : highA g k = highO g k := by
  induction k with
  | zero => omega
  | succ k ih =>
    unfold highA highO
    by_cases h : k = 0
    · subst h
      simp [highO]
    · rw [ih (by omega)]
      by_cases h2 : highO g k < g k 2 + g k 3
      · rw [if_pos (Or.inr h2)]; omega
      · rw [if_neg (by rintro (h3 | h3); exact h h3; exact h2 h3)]; omega
theorem low_mild {g : Nat → Nat → Int} {n : Nat} (h : Mild g n) : ∀ k, k ≤ n → -2097152 ≤ lowA g k ∧ lowA g k ≤ 2097152 ∧ lowA g k ≤ highA g k ∧ highA g k ≤ 2097167 := by
  intro k
  induction k with
  | zero => intro _; simp [lowA, highA]
  | succ k ih =>
    intro hk
    have h1 := ih (by omega)
    have h2 := h k (by omega)
    unfold lowA highA
    by_cases hz : k = 0
    · rw [if_pos (Or.inl hz), if_pos (Or.inl hz)]; omega
    · split <;> split <;> omega
theorem In4.own {W : World} {B n : Nat} {o : Value} {g : Nat → Nat → Int} (ho : W.ownsRow B 25 4 o n (rowsOf g n)) : ∃ A c, o = .slice A n c ∧ n ≤ c ∧ In4 W A n g := by
  rcases ho.2 with ⟨rfl, h0⟩ | ⟨b, cap, cur, rfl, _, hg, hc, _, hs, ht⟩
  · have : n = 0 := by
      have := rowsOf_len g n
      simp_all
    exact ⟨none, 0, by rw [this], by omega, ⟨.inl ⟨rfl, this⟩⟩⟩
  · refine ⟨_, cap, rfl, hc, ⟨.inr ⟨b, 0, rfl, (Array.getElem?_eq_some_iff.1 hg).1, fun i hi j hj => ?_⟩⟩⟩
    rw [Nat.zero_add, cell_of_row W b (i * 4 + j) cur 25 (0, 0) hg]
    have := rowsOf_at g hi hj
    rw [← ht, List.getElem?_take] at this
    split at this
    · simpa using this
    · simp at this
theorem over_any (A : Option Addr) (n c : Nat) (f : Nat → Nat → Int) (W : World) (h : In4 W A n f) (hm : Mild f n) (hn2 : n ≤ 20) (hc : n ≤ c) : Calls Tryz.prog 4 #[.slice A n c] W fun e W' => e = .returned (.tuple #[.agg #[.int .i64 (lowA f n), .int .i64 (highA f n)], .bool (decide (0 < n))]) ∧ Below W.heap.size W W' := by
  by_cases h0 : n = 0
  · subst h0
    exact over_none A c W
  · rw [low_same f (by omega), high_same f (by omega), decide_eq_true (show 0 < n by omega)]
    exact over_some A n c f W h hm (by omega) hn2 hc
theorem own_low {W W' : World} {B e size n : Nat} {v : Value} {xs : List Value} (h : W.ownsRow B e size v n xs) (k : Below W.heap.size W W') : W'.ownsRow B e size v n xs := by
  refine ⟨h.1, ?_⟩
  rcases h.2 with hv | ⟨g, cap, cur, hv, hB, hg, hrest⟩
  · exact .inl hv
  · exact .inr ⟨g, cap, cur, hv, hB, by rw [k.block g (Array.getElem?_eq_some_iff.1 hg).1, hg], hrest⟩
theorem low_grown {B : Nat} {w0 w w' : World} {row : Option Nat} (h : Below B w0 w) (g : w.grownBy w' row) (hB : B ≤ w.heap.size) (hr : ∀ k, row = some k → B ≤ k) : Below B w0 w' :=
  ⟨g.os.trans h.os, g.tape.trans h.tape, g.output.trans h.output, Nat.le_trans h.size g.size, fun k hk => by
    rw [g.block k (Nat.lt_of_lt_of_le hk hB) (fun e => by have := hr k e.symm; omega)]
    exact h.block k hk⟩
theorem row_low {W : World} {B e size n : Nat} {v : Value} {xs : List Value} (h : W.ownsRow B e size v n xs) {k : Nat} (hk : v.ownBlock = some k) : B ≤ k := by
  rcases h.2 with ⟨rfl, _⟩ | ⟨g, cap, cur, rfl, hB, hg, _⟩
  · simp [Value.ownBlock] at hk
  · simp [Value.ownBlock] at hk
    subst hk
    exact hB
theorem own_shape {W : World} {B e size n : Nat} {v : Value} {xs : List Value} (h : W.ownsRow B e size v n xs) : ∃ A c, v = .slice A n c := by
  rcases h.2 with ⟨rfl, rfl⟩ | ⟨k, cap, cur, rfl, _⟩
  · exact ⟨none, 0, rfl⟩
  · exact ⟨_, cap, rfl⟩
theorem info25 : (Tryz.prog.info? 25).map (fun i => (i.zero, i.size, i.bytes)) = some (some (.agg #[.int .i64 0, .int .i64 0, .int .i64 0, .int .i64 0]), 4, 32) := by kernel_rfl
theorem parts25 : ∃ i z, Tryz.prog.info? 25 = some i ∧ i.zero = some z ∧ i.size = 4 ∧ i.bytes = 32 ∧ z.cells.size = 4 := by
  have h := info25
  cases hq : Tryz.prog.info? 25 with
  | none => rw [hq] at h; simp at h
  | some i =>
    rw [hq] at h
    simp only [Option.map_some, Option.some.injEq, Prod.mk.injEq] at h
    exact ⟨i, _, rfl, h.1, h.2.1, h.2.2, rfl⟩
end Go.Proofs.YtdfddpfbjaknoaaGreat
