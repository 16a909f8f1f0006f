/- Plain mathematics of layer 19: periods, ones and edges of words. -/
import Derived.Test.YtlhinabodofjeaaLl
namespace Lg
open Go
open Cq

/-- how many of the first k hold -/
def cf (f : Nat → Bool) : Nat → Nat
  | 0 => 0
  | k + 1 => cf f k + if f k then 1 else 0
theorem cf_congr {f g : Nat → Bool} {k : Nat} (h : ∀ i, i < k → f i = g i) : cf f k = cf g k := by
  induction k with
  | zero => rfl
  | succ k ih => rw [cf, cf, ih (fun i hi => h i (by omega)), h k (by omega)]
theorem cf_front (f : Nat → Bool) (k : Nat) : cf f (k + 1) = (if f 0 then 1 else 0) + cf (fun i => f (i + 1)) k := by
  induction k with
  | zero => simp [cf]
  | succ k ih => rw [cf, ih, cf]; omega
/-- round and round: from any place on, a whole turn counts the same -/
theorem cf_turn {f : Nat → Bool} {n : Nat} (hp : ∀ i, f (i + n) = f i) (t : Nat) : cf (fun i => f (i + t)) n = cf f n := by
  induction t with
  | zero => rfl
  | succ t ih =>
    have a := cf_front (fun i => f (i + t)) n
    have b : cf (fun i => f (i + t)) (n + 1) = cf (fun i => f (i + t)) n + if f (n + t) then 1 else 0 := rfl
    have c : f (n + t) = f (0 + t) := by rw [Nat.add_comm n t, hp, Nat.zero_add]
    rw [c] at b
    have d : (fun i => f (i + 1 + t)) = fun i => f (i + (t + 1)) := by funext i; congr 1; omega
    rw [d] at a
    omega
theorem cf_lt (o n : Nat) (h : o ≤ n) : cf (fun i => decide (i < o)) n = o := by
  induction n with
  | zero => simp [cf]; omega
  | succ n ih =>
    rw [cf]
    by_cases e : o = n + 1
    · subst e
      have : cf (fun i => decide (i < n + 1)) n = cf (fun i => decide (i < n)) n := cf_congr fun i hi => by
        rw [decide_eq_true (show i < n + 1 by omega), decide_eq_true hi]
      rw [this, decide_eq_true (show n < n + 1 by omega), if_pos rfl]
      have : ∀ k m, k ≤ m → cf (fun i => decide (i < m)) k = k := by
        intro k
        induction k with
        | zero => intro m _; rfl
        | succ k ih => intro m hm; rw [cf, ih m (by omega), decide_eq_true (by omega), if_pos rfl]
      rw [this n n (Nat.le_refl _)]
    · rw [ih (by omega), decide_eq_false (by omega)]; rfl
theorem cf_eq (e n : Nat) : cf (fun i => decide (i = e)) n = if e < n then 1 else 0 := by
  induction n with
  | zero => rfl
  | succ n ih =>
    rw [cf, ih]
    by_cases h : n = e
    · subst h; rw [decide_eq_true rfl, if_pos rfl, if_neg (by omega), if_pos (by omega)]
    · rw [decide_eq_false h]; show (if e < n then 1 else 0) + 0 = _; rw [Nat.add_zero]
      by_cases g : e < n
      · rw [if_pos g, if_pos (by omega)]
      · rw [if_neg g, if_neg (by omega)]
theorem cf_or {f g : Nat → Bool} (n : Nat) (h : ∀ i, i < n → ¬ (f i = true ∧ g i = true)) : cf (fun i => f i || g i) n = cf f n + cf g n := by
  induction n with
  | zero => rfl
  | succ n ih =>
    rw [cf, cf, cf, ih (fun i hi => h i (by omega))]
    have := h n (by omega)
    cases hf : f n <;> cases hg : g n <;> simp_all <;> omega
theorem cf_zero {f : Nat → Bool} {k : Nat} (h : cf f k = 0) : ∀ i, i < k → f i = false := by
  induction k with
  | zero => intro i hi; omega
  | succ k ih =>
    rw [cf] at h
    intro i hi
    by_cases e : i = k
    · subst e; cases g : f i
      · rfl
      · rw [g] at h; simp at h
    · exact ih (by omega) i (by omega)
theorem cf_one {f : Nat → Bool} {k : Nat} (h : cf f k = 1) : ∃ e, e < k ∧ f e = true ∧ ∀ i, i < k → f i = true → i = e := by
  induction k with
  | zero => simp [cf] at h
  | succ k ih =>
    rw [cf] at h
    cases g : f k
    · rw [g] at h
      obtain ⟨e, h1, h2, h3⟩ := ih (by simpa using h)
      refine ⟨e, by omega, h2, fun i hi hf => ?_⟩
      by_cases x : i = k
      · subst x; rw [g] at hf; cases hf
      · exact h3 i (by omega) hf
    · rw [g] at h
      have z := cf_zero (f := f) (k := k) (by simpa using h)
      refine ⟨k, by omega, g, fun i hi hf => ?_⟩
      by_cases x : i = k
      · exact x
      · rw [z i (by omega)] at hf; cases hf
theorem cf_two {f : Nat → Bool} {k : Nat} (h : cf f k = 2) : ∃ a b, a < b ∧ b < k ∧ f a = true ∧ f b = true ∧ ∀ i, i < k → f i = true → i = a ∨ i = b := by
  induction k with
  | zero => simp [cf] at h
  | succ k ih =>
    rw [cf] at h
    cases g : f k
    · rw [g] at h
      obtain ⟨a, b, h0, h1, h2, h2', h3⟩ := ih (by simpa using h)
      refine ⟨a, b, h0, by omega, h2, h2', fun i hi hf => ?_⟩
      by_cases x : i = k
      · subst x; rw [g] at hf; cases hf
      · exact h3 i (by omega) hf
    · rw [g] at h
      obtain ⟨e, h1, h2, h3⟩ := cf_one (f := f) (k := k) (by simpa using h)
      refine ⟨e, k, h1, by omega, h2, g, fun i hi hf => ?_⟩
      by_cases x : i = k
      · exact Or.inr x
      · exact Or.inl (h3 i (by omega) hf)

theorem popTo_cf (v k : Nat) : popTo v k = cf v.testBit k := by
  induction k with
  | zero => rfl
  | succ k ih =>
    rw [popTo, cf, ih, Nat.testBit_eq_decide_div_mod_eq]
    have : v / 2 ^ k % 2 < 2 := Nat.mod_lt _ (by omega)
    by_cases h : v / 2 ^ k % 2 = 1
    · rw [h]; rfl
    · have h0 : v / 2 ^ k % 2 = 0 := by omega
      rw [h0]; rfl
theorem edg_cf (v n k : Nat) (h : k ≤ n) : edg v n k = cf (fun i => v.testBit i != v.testBit ((i + 1) % 64)) k := by
  induction k with
  | zero => rfl
  | succ k ih =>
    rw [edg, cf, ih (by omega)]
    by_cases e : v.testBit k = v.testBit ((k + 1) % 64)
    · rw [if_neg (fun g => g.2 e), e, bne_self_eq_false]; rfl
    · rw [if_pos ⟨by omega, e⟩]
      have : (v.testBit k != v.testBit ((k + 1) % 64)) = true := by rw [bne_iff_ne]; exact e
      rw [this]; rfl
theorem edg_past (v n j : Nat) : edg v n (n + j) = edg v n n := by
  induction j with
  | zero => rfl
  | succ j ih => rw [← Nat.add_assoc, edg, if_neg (fun g => by omega), ih]; rfl

/-- all bits stand again n further -/
def Per (v n : Nat) : Prop := ∀ i, i < 64 → v.testBit i = v.testBit (i % n)
theorem sz_dvd {n : Nat} (h : isSz (n : Int) = true) : n ∣ 64 ∧ 2 ≤ n ∧ n ≤ 64 := by
  have : ∀ n : Nat, n < 65 → isSz (n : Int) = true → n ∣ 64 ∧ 2 ≤ n ∧ n ≤ 64 := by decide +kernel
  exact this n (by have := isSz_cases h; omega) h
theorem sz_dvd2 {m n : Nat} (hm : isSz (m : Int) = true) (hn : isSz (n : Int) = true) (h : m ≤ n) : m ∣ n := by
  have : ∀ m : Nat, m < 65 → isSz (m : Int) = true → ∀ n : Nat, n < 65 → isSz (n : Int) = true → m ≤ n → m ∣ n := by decide +kernel
  exact this m (by have := isSz_cases hm; omega) hm n (by have := isSz_cases hn; omega) hn h
theorem same_per {v n : Nat} (hn : n ∣ 64) (h1 : 1 ≤ n) : sameTo v n 64 ↔ Per v n := by
  constructor
  · intro h i
    induction i using Nat.strongRecOn with
    | _ i ih =>
      intro hi
      by_cases g : i < n
      · rw [Nat.mod_eq_of_lt g]
      · have a := h (i - n) (by omega)
        rw [Nat.sub_add_cancel (by omega), Nat.mod_eq_of_lt hi] at a
        rw [← a, ih (i - n) (by omega) (by omega), Nat.mod_eq_sub_mod (a := i) (by omega)]
  · intro h i hi
    rw [h i hi, h ((i + n) % 64) (Nat.mod_lt _ (by omega)), Nat.mod_mod_of_dvd _ hn, Nat.add_mod_right]
theorem Per.up {v m n : Nat} (h : Per v m) (hd : m ∣ n) : Per v n := by
  intro i hi
  have hl : i % n < 64 := Nat.lt_of_le_of_lt (Nat.mod_le _ _) hi
  rw [h i hi, h (i % n) hl, Nat.mod_mod_of_dvd _ hd]
theorem Per.half {v h : Nat} (hp : Per v (2 * h)) (hq : per v h = true) (h64 : 2 * h ≤ 64) (h1 : 1 ≤ h) : Per v h := by
  intro i hi
  rw [hp i hi]
  have hl : i % (2 * h) < 2 * h := Nat.mod_lt _ (by omega)
  have e : i % (2 * h) % h = i % h := Nat.mod_mod_of_dvd _ (Nat.dvd_mul_left _ _)
  by_cases g : i % (2 * h) < h
  · rw [← e, Nat.mod_eq_of_lt g]
  · have := per_is.1 hq (i % (2 * h) - h) (by omega)
    rw [Nat.sub_add_cancel (by omega)] at this
    rw [← this]
    congr 1
    generalize i % (2 * h) = r at *
    rw [← e, Nat.mod_eq_sub_mod (show r ≥ h by omega), Nat.mod_eq_of_lt (by omega)]
theorem Per.top (v : Nat) : Per v 64 := fun i hi => by rw [Nat.mod_eq_of_lt hi]
theorem Per.per {v n h : Nat} (hp : Per v n) (hd : n ∣ h) (h64 : 2 * h ≤ 64) : per v h = true := by
  rw [per_is]; intro k hk
  rw [hp k (by omega), hp (k + h) (by omega)]
  obtain ⟨c, rfl⟩ := hd
  rw [Nat.add_mul_mod_self_left]
/-- the least size of which a word is made: it stands again so, and not sooner -/
theorem szO_spec (v : Nat) : isSz (szO v : Int) = true ∧ Per v (szO v) ∧ (∀ n : Nat, isSz (n : Int) = true → n < szO v → ¬ Per v n) := by
  have low : ∀ h : Nat, isSz (h : Int) = true → 2 * h ≤ 64 → per v h = false → ∀ n : Nat, isSz (n : Int) = true → n < 2 * h → ¬ Per v n := by
    intro h hh h64 hf n hn hlt hp
    have : n ≤ h := by
      have a := isSz_cases hn; have b := isSz_cases hh; omega
    rw [hp.per (sz_dvd2 hn hh this) h64] at hf; cases hf
  unfold szO
  cases h32 : per v 32
  · exact ⟨rfl, Per.top v, low 32 rfl (by decide) h32⟩
  have p32 := (Per.top v).half (h := 32) h32 (by decide) (by decide)
  cases h16 : per v 16
  · exact ⟨rfl, p32, low 16 rfl (by decide) h16⟩
  have p16 := p32.half (h := 16) h16 (by decide) (by decide)
  cases h8 : per v 8
  · exact ⟨rfl, p16, low 8 rfl (by decide) h8⟩
  have p8 := p16.half (h := 8) h8 (by decide) (by decide)
  cases h4 : per v 4
  · exact ⟨rfl, p8, low 4 rfl (by decide) h4⟩
  have p4 := p8.half (h := 4) h4 (by decide) (by decide)
  cases h2 : per v 2
  · exact ⟨rfl, p4, low 2 rfl (by decide) h2⟩
  have p2 := p4.half (h := 2) h2 (by decide) (by decide)
  exact ⟨rfl, p2, fun n hn hlt => absurd hlt (by have := isSz_cases hn; show ¬ n < 2; omega)⟩
theorem szO_of {v n : Nat} (hn : isSz (n : Int) = true) (hp : Per v n) (hm : ∀ m : Nat, isSz (m : Int) = true → m < n → ¬ Per v m) : szO v = n := by
  have ⟨a, b, c⟩ := szO_spec v
  by_cases h1 : szO v < n
  · exact absurd b (hm _ a h1)
  · by_cases h2 : n < szO v
    · exact absurd hp (c n hn h2)
    · omega
end Lg
