/- Layer 9 (memory): memory with all threads' stores; what a call makes of it. -/
import Derived.Test.YtlbkmdmnijmieaaOb
namespace Go.Proofs.Ytlbkmdmnijmieaa
open Go Go.RowKit Rp Go.Maps
open Cq (U64 I64 isW nb mask)

/-- where a memory begins, and blocks that are another's -/
structure Bs where
  b : Nat
  f : Nat → Prop
/-- memory, its areas and each thread's stores -/
structure MB (N : Nat) (B : Bs) (W : World) (g : Nat) (v : Value) (bv : List Value) (L : List Ar) (Qs : Nat → List Sto) : Prop where
  ms : MS B.b W g v bv L
  n8 : bv.length = 8
  q : ∀ t, t < 8 → ∃ b, bv[t]? = some b ∧ QC B.b W b (Qs t) ∧ (∀ p ∈ Qs t, p.ok) ∧ (Qs t).length ≤ N
  ap : ∀ (t u : Nat) (b b' : Value) (k : Nat), t ≠ u → bv[t]? = some b → bv[u]? = some b' → bblk b = some k → bblk b' ≠ some k
  far : ∀ k, B.f k → k < W.heap.size ∧ ¬ MBlk g v L k ∧ ∀ (t : Nat) (b : Value), bv[t]? = some b → bblk b ≠ some k
theorem MB.kp {N : Nat} {B : Bs} {W W' : World} {g : Nat} {v : Value} {bv : List Value} {L : List Ar} {Qs : Nat → List Sto} (h : MB N B W g v bv L Qs) (k : Kp W W') : MB N B W' g v bv L Qs :=
  ⟨h.ms.kp k, h.n8, fun t ht => by
    obtain ⟨b, h1, h2, h3⟩ := h.q t ht
    exact ⟨b, h1, h2.kp k, h3⟩, h.ap, fun j hj => ⟨Nat.lt_of_lt_of_le (h.far j hj).1 k.size, (h.far j hj).2⟩⟩
theorem MB.more {N N' : Nat} {B : Bs} {W : World} {g : Nat} {v : Value} {bv : List Value} {L : List Ar} {Qs : Nat → List Sto} (h : MB N B W g v bv L Qs) (hn : N ≤ N') : MB N' B W g v bv L Qs :=
  ⟨h.ms, h.n8, fun t ht => by
    obtain ⟨b, h1, h2, h3, h4⟩ := h.q t ht
    exact ⟨b, h1, h2, h3, Nat.le_trans h4 hn⟩, h.ap, h.far⟩
theorem noRows_get {t : Nat} (ht : t < 8) : noRows[t]? = some (.slice none 0 0) := by
  match t, ht with
  | 0, _ => rfl
  | 1, _ => rfl
  | 2, _ => rfl
  | 3, _ => rfl
  | 4, _ => rfl
  | 5, _ => rfl
  | 6, _ => rfl
  | 7, _ => rfl
theorem MB.new {B : Nat} {F : Nat → Prop} {W : World} {g : Nat} {v : Value} {L : List Ar} (h : MS B W g v noRows L) (hF : ∀ k, F k → k < W.heap.size ∧ ¬ MBlk g v L k) : MB 0 ⟨B, F⟩ W g v noRows L (fun _ => []) :=
  ⟨h, rfl, fun t ht => ⟨_, noRows_get ht, QC.nil _ _, by simp, Nat.le_refl _⟩, fun t u b b' k _ h1 _ hk => by
    have ht : t < 8 := by have := (List.getElem?_eq_some_iff.1 h1).1; simpa using this
    rw [noRows_get ht] at h1
    obtain rfl := Option.some.inj h1
    simp [bblk] at hk, fun k hk => ⟨(hF k hk).1, (hF k hk).2, fun t b h1 => by
    have ht : t < 8 := by have := (List.getElem?_eq_some_iff.1 h1).1; simpa using this
    rw [noRows_get ht] at h1
    obtain rfl := Option.some.inj h1
    simp [bblk]⟩⟩
/-- nothing below B has turned, nor what is another's -/
def Frm (B : Bs) (W W' : World) : Prop := (∀ W0 : World, W0.heap.size ≤ B.b → Kp W0 W → Kp W0 W') ∧ ∀ k o, B.f k → W.heap[k]? = some o → W'.heap[k]? = some o
theorem Frm.rfl (B : Bs) (W : World) : Frm B W W := ⟨fun _ _ h => h, fun _ _ _ h => h⟩
theorem Frm.trans {B : Bs} {W1 W2 W3 : World} (h : Frm B W1 W2) (k : Frm B W2 W3) : Frm B W1 W3 := ⟨fun W0 h0 hk => k.1 W0 h0 (h.1 W0 h0 hk), fun j o hj ho => k.2 j o hj (h.2 j o hj ho)⟩
theorem Frm.kp {B : Bs} {W W' : World} (k : Kp W W') : Frm B W W' := ⟨fun _ _ h => h.next k, fun j _ _ ho => (k.block j (Array.getElem?_eq_some_iff.1 ho).1).trans ho⟩
theorem Frm.chg {B : Bs} {W W' : World} {S : Nat → Prop} (c : Chg S W W') (hS : ∀ j, S j → B.b ≤ j) (hF : ∀ j, S j → ¬ B.f j) : Frm B W W' :=
  ⟨fun _ h0 h => chg_kp c h (fun j hj => Nat.le_trans h0 (hS j hj)), fun j _ hj ho => (c.block j (Array.getElem?_eq_some_iff.1 ho).1 (fun hs => hF j hs hj)).trans ho⟩
def upd (Qs : Nat → List Sto) (t : Nat) (Q : List Sto) : Nat → List Sto := fun u => if u = t then Q else Qs u
theorem upd_same (Qs : Nat → List Sto) (t : Nat) (Q : List Sto) : upd Qs t Q t = Q := by unfold upd; rw [if_pos rfl]
theorem upd_other (Qs : Nat → List Sto) (t u : Nat) (Q : List Sto) (h : u ≠ t) : upd Qs t Q u = Qs u := by unfold upd; rw [if_neg h]
theorem upd_upd (Qs : Nat → List Sto) (t : Nat) (Q Q' : List Sto) : upd (upd Qs t Q) t Q' = upd Qs t Q' := by
  funext u; unfold upd; split <;> rfl
theorem upd_id (Qs : Nat → List Sto) (t : Nat) (Q : List Sto) (h : Qs t = Q) : upd Qs t Q = Qs := by
  funext u; unfold upd; split
  · rename_i e; rw [e, h]
  · rfl
theorem mblk_vals {g : Nat} {v : Value} {L L' : List Ar} (h : L'.map Ar.val = L.map Ar.val) {k : Nat} (hk : MBlk g v L' k) : MBlk g v L k := by
  rcases hk with hk | hk | hk
  · exact .inl hk
  · exact .inr (.inl hk)
  · exact .inr (.inr ((dblk_iff h k).1 hk))
/-- one thread's stores have turned, and bytes of areas -/
theorem MB.step {N N' : Nat} {B : Bs} {W W' : World} {g : Nat} {v : Value} {bv : List Value} {L L' : List Ar} {Qs : Nat → List Sto} (h : MB N B W g v bv L Qs) {t : Nat} (ht : t < 8) {b b' : Value} (hb : bv[t]? = some b) {Q' : List Sto} {S : Nat → Prop}
    (hm : MS B.b W' g v (bv.set t b') L') (hq : QC B.b W' b' Q') (hbl : ∀ k, bblk b' = some k → bblk b = some k ∨ W.heap.size ≤ k) (c : Chg S W W') (hS : ∀ k, S k → DBlk L k ∨ k = g ∨ bblk b = some k) (hok : ∀ p ∈ Q', p.ok) (hl : Q'.length ≤ N') (hN : N ≤ N') (hval : L'.map Ar.val = L.map Ar.val) :
    MB N' B W' g v (bv.set t b') L' (upd Qs t Q') ∧ Frm B W W' := by
  have hother : ∀ u bu, u ≠ t → bv[u]? = some bu → ∀ k, bblk bu = some k → ¬ S k ∧ k < W.heap.size := fun u bu hu hbu k hk => by
    have hu8 : u < 8 := by have := (List.getElem?_eq_some_iff.1 hbu).1; have := h.n8; omega
    obtain ⟨bu', h1, h2, _⟩ := h.q u hu8
    obtain rfl := Option.some.inj (hbu.symm.trans h1)
    obtain ⟨_, hlt, cur, hc⟩ := h2.blk hk
    refine ⟨fun hs => ?_, hlt⟩
    rcases hS k hs with hd | rfl | hd
    · exact h.ms.apart_q hc (.inr (.inr hd))
    · exact h.ms.apart_q hc (.inl rfl)
    · exact h.ap u t bu b k hu hbu hb hk hd
  have hget : ∀ u, u ≠ t → (bv.set t b')[u]? = bv[u]? := fun u hu => List.getElem?_set_ne (fun e => hu e.symm)
  have hgett : (bv.set t b')[t]? = some b' := by
    rw [List.getElem?_set_self (by have := h.n8; omega)]
  refine ⟨⟨hm, by rw [List.length_set]; exact h.n8, fun u hu => ?_, fun u w bu bw k huw hbu hbw hk => ?_, fun k hk => ?_⟩, Frm.chg c (fun j hj => ?_) (fun j hj hF => ?_)⟩
  · by_cases e : u = t
    · subst e
      rw [upd_same]
      exact ⟨b', hgett, hq, hok, hl⟩
    · rw [upd_other _ _ _ _ e, hget u e]
      obtain ⟨bu, h1, h2, h3, h4⟩ := h.q u hu
      exact ⟨bu, h1, h2.keep fun k hk => c.block k (hother u bu e h1 k hk).2 (hother u bu e h1 k hk).1, h3, Nat.le_trans h4 hN⟩
  · by_cases e : u = t
    · subst e
      rw [hgett] at hbu
      obtain rfl := Option.some.inj hbu
      rw [hget w (fun e => huw e.symm)] at hbw
      rcases hbl k hk with hk' | hk'
      · exact h.ap u w b bw k huw hb hbw hk'
      · intro hkw
        have := (hother w bw (fun e => huw e.symm) hbw k hkw).2
        omega
    · rw [hget u e] at hbu
      by_cases e2 : w = t
      · subst e2
        rw [hgett] at hbw
        obtain rfl := Option.some.inj hbw
        intro hkb
        rcases hbl k hkb with hk' | hk'
        · exact h.ap u w bu b k e hbu hb hk hk'
        · have := (hother u bu e hbu k hk).2
          omega
      · rw [hget w e2] at hbw
        exact h.ap u w bu bw k huw hbu hbw hk
  · obtain ⟨f1, f2, f3⟩ := h.far k hk
    refine ⟨Nat.lt_of_lt_of_le f1 c.size, fun hx => f2 (mblk_vals hval hx), fun u bu hbu hx => ?_⟩
    by_cases e : u = t
    · subst e
      rw [hgett] at hbu
      obtain rfl := Option.some.inj hbu
      rcases hbl k hx with hk' | hk'
      · exact f3 u b hb hk'
      · omega
    · rw [hget u e] at hbu
      exact f3 u bu hbu hx
  · rcases hS j hj with hd | rfl | hd
    · exact (h.ms.lt (.inr (.inr hd))).1
    · exact h.ms.low
    · obtain ⟨b0, h1, h2, _⟩ := h.q t ht
      obtain rfl := Option.some.inj (hb.symm.trans h1)
      exact (h2.blk hd).1
  · obtain ⟨f1, f2, f3⟩ := h.far j hF
    rcases hS j hj with hd | rfl | hd
    · exact f2 (.inr (.inr hd))
    · exact f2 (.inl rfl)
    · exact f3 t b hb hd
/-- bytes of areas, or an owner, have turned -/
theorem MB.turn {N : Nat} {B : Bs} {W W' : World} {g : Nat} {v : Value} {bv : List Value} {L L' : List Ar} {Qs : Nat → List Sto} (h : MB N B W g v bv L Qs) {S : Nat → Prop}
    (hm : MS B.b W' g v bv L') (c : Chg S W W') (hS : ∀ k, S k → DBlk L k ∨ v.ownBlock = some k) (hval : L'.map Ar.val = L.map Ar.val) : MB N B W' g v bv L' Qs ∧ Frm B W W' := by
  refine ⟨⟨hm, h.n8, fun t ht => ?_, h.ap, fun k hk => ⟨Nat.lt_of_lt_of_le (h.far k hk).1 c.size, fun hx => (h.far k hk).2.1 (mblk_vals hval hx), (h.far k hk).2.2⟩⟩, Frm.chg c (fun j hj => ?_) (fun j hj hF => ?_)⟩
  · obtain ⟨b, h1, h2, h3⟩ := h.q t ht
    refine ⟨b, h1, h2.keep fun k hk => ?_, h3⟩
    obtain ⟨_, hlt, cur, hc⟩ := h2.blk hk
    refine c.block k hlt fun hs => ?_
    rcases hS k hs with hd | hd
    · exact h.ms.apart_q hc (.inr (.inr hd))
    · exact h.ms.apart_q hc (.inr (.inl hd))
  · rcases hS j hj with hd | hd
    · exact (h.ms.lt (.inr (.inr hd))).1
    · exact (h.ms.lt (.inr (.inl hd))).1
  · rcases hS j hj with hd | hd
    · exact (h.far j hF).2.1 (.inr (.inr hd))
    · exact (h.far j hF).2.1 (.inr (.inl hd))
def wrq (L : List Ar) (q : Sto) : List Ar := wrF L q.a q.v q.w.toNat
theorem knB_cases {t : Int} (h : knB t = true) : ∃ i : Nat, t = i ∧ i < 8 := by
  unfold knB at h
  simp only [Bool.and_eq_true, decide_eq_true_eq] at h
  obtain ⟨i, rfl⟩ := Int.eq_ofNat_of_zero_le h.1
  exact ⟨i, rfl, by omega⟩
theorem mayB_kn {L : List Ar} {t x w : Int} {wt : Bool} (h : mayB L t x w wt = true) : knB t = true := by
  unfold mayB at h
  simp only [Bool.and_eq_true] at h
  exact h.1.1.1
theorem MB.cell {N : Nat} {B : Bs} {W : World} {g : Nat} {v : Value} {bv : List Value} {L : List Ar} {Qs : Nat → List Sto} (h : MB N B W g v bv L Qs) {t : Nat} {b : Value} (hb : bv[t]? = some b) : W.cell? ⟨g, 1 + t, none⟩ = some b := by
  rw [h.ms.box.cell, Nat.add_comm, List.getElem?_cons_succ, hb]
def DmV (N : Nat) (B : Bs) (W : World) (g : Nat) (v : Value) (L : List Ar) (Qs : Nat → List Sto) (bv : List Value) (t : Int) (e : Ending) (W' : World) : Prop :=
  (e = .returned (.bool false) ∧ MB N B W' g v bv L Qs ∧ (∀ i : Nat, t = i → i < 8 → Qs i = []) ∧ Frm B W W') ∨
  ∃ (i : Nat) (q : Sto) (Q : List Sto) (bv' : List Value), t = i ∧ i < 8 ∧ Qs i = q :: Q ∧ e = .returned (.bool true) ∧ MB N B W' g v bv' (wrq L q) (upd Qs i Q) ∧ Frm B W W'
theorem drain_mb {N : Nat} {B : Bs} {g : Nat} {v : Value} {bv : List Value} {L : List Ar} {Qs : Nat → List Sto} {W : World} (h : MB N B W g v bv L Qs) (t : Int) :
    Calls Try.prog 22 #[.pointer (some ⟨g, 0, none⟩), .int .i64 t] W (DmV N B W g v L Qs bv t) := by
  cases hk : knB t
  · refine (drain_no t g W hk).mono fun e W' ⟨h1, h2⟩ => ?_
    subst h2
    exact .inl ⟨h1, h, (fun i e hi => by rw [e, knB_nat hi] at hk; cases hk), Frm.rfl _ _⟩
  · obtain ⟨i, rfl, hi⟩ := knB_cases hk
    obtain ⟨b, hb, hq, hok, hl⟩ := h.q i hi
    cases hQ : Qs i with
    | nil =>
      rw [hQ] at hq
      have hq' := hq
      obtain ⟨A, c, rfl, _⟩ := hq'
      refine (drain_empty i g A c W hi (h.cell hb)).mono fun e W' ⟨h1, h2⟩ => ?_
      subst h2
      exact .inl ⟨h1, h, (fun j e _ => by
        obtain rfl : i = j := by omega
        exact hQ), Frm.rfl _ _⟩
    | cons q Q =>
      rw [hQ] at hq hok hl
      refine (drain_qc h.ms i hi b hb q Q (hok q (List.mem_cons_self ..)) hq).mono fun e W' ⟨h1, b', h2, h3, h4, h5⟩ => ?_
      obtain ⟨h6, h7⟩ := h.step hi hb h2 h3 (fun k hk => .inl (h4 k hk)) h5 (fun k hk => by rcases hk with hk | hk; exact .inl hk; exact .inr (.inl hk)) (fun p hp => hok p (List.mem_cons_of_mem _ hp)) (by simp at hl; omega : Q.length ≤ N) (Nat.le_refl _) (wrF_val _ _ _ _)
      exact .inr ⟨i, q, Q, _, rfl, hi, hQ, h1, h6, h7⟩
def SmV (N : Nat) (B : Bs) (W : World) (g : Nat) (v : Value) (L : List Ar) (Qs : Nat → List Sto) (bv : List Value) (t : Int) (q : Sto) (e : Ending) (W' : World) : Prop :=
  (e = .returned (.bool false) ∧ mayB L t q.a q.w true = false ∧ MB N B W' g v bv L Qs ∧ Frm B W W') ∨
  ∃ (i : Nat) (bv' : List Value), t = i ∧ i < 8 ∧ mayB L t q.a q.w true = true ∧ e = .returned (.bool true) ∧ MB (N + 1) B W' g v bv' L (upd Qs i (Qs i ++ [q])) ∧ Frm B W W'
theorem store_mb {N : Nat} {B : Bs} {g : Nat} {v : Value} {bv : List Value} {L : List Ar} {Qs : Nat → List Sto} {W : World} (h : MB N B W g v bv L Qs) (t : Int) (q : Sto) (hN : N < 1000) :
    Calls Try.prog 19 #[.pointer (some ⟨g, 0, none⟩), .int .i64 t, .int .u64 q.a, .int .i64 q.w, .int .u64 q.v] W (SmV N B W g v L Qs bv t q) := by
  cases hm : mayB L t q.a q.w true
  · exact (store_no h.ms t q.a q.w q.v q.ha hm).mono fun e W' ⟨h1, h2⟩ => .inl ⟨h1, hm, h.kp h2, Frm.kp h2⟩
  · obtain ⟨i, rfl, hi⟩ := knB_cases (mayB_kn hm)
    obtain ⟨b, hb, hq, hok, hl⟩ := h.q i hi
    refine (store_qc h.ms i hi b hb q (Qs i) hq (by omega) hm).mono fun e W' ⟨h1, b', h2, h3, h4, h5⟩ => ?_
    obtain ⟨h6, h7⟩ := h.step (N' := N + 1) hi hb h2 h3 h4 h5 (fun k hk => .inr hk) (fun p hp => by
      rcases List.mem_append.1 hp with hp | hp
      · exact hok p hp
      · obtain rfl := List.mem_singleton.1 hp; exact Sto.ok_of hm) (by rw [List.length_append, List.length_singleton]; omega) (by omega) rfl
    exact .inr ⟨i, _, rfl, hi, hm, h1, h6, h7⟩
end Go.Proofs.Ytlbkmdmnijmieaa
