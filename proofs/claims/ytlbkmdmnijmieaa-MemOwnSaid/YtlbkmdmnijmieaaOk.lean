/- Layer 9 (memory): a step of the law, by another thread. -/
import Derived.Test.YtlbkmdmnijmieaaOj
import Derived.Deep.RegionHeld3
namespace Go.Proofs.Ytlbkmdmnijmieaa
open Go Go.RowKit Rp Go.Maps
open Cq (U64 I64 isW nb mask)

theorem at_in {W : World} {g ga c : Nat} {L : List Ar} (h : MRd W g ga c L) : AtIn W (if L.length = 0 then none else some ⟨ga, 0, none⟩) L.length := fun hp => by
  rw [if_neg (by omega)]
  obtain ⟨a0, ha0⟩ : ∃ a0, L[0]? = some a0 := ⟨_, List.getElem?_eq_getElem hp⟩
  refine ⟨ga, 0, rfl, (h.rows 0 a0 ha0).1, fun i hi => ?_⟩
  obtain ⟨a, ha⟩ : ∃ a, L[i]? = some a := ⟨_, List.getElem?_eq_getElem hi⟩
  refine ⟨a.lo, ?_⟩
  have := (h.rows i a ha).2.2 0 (by omega)
  rw [Nat.add_zero] at this
  rw [Nat.zero_add, this]; rfl
/-- one thread's one store waits, and the thread may come there -/
def OI (N : Nat) (B : Bs) (W : World) (g : Nat) (v : Value) (i : Nat) (q : Sto) : Prop :=
  ∃ bv L Qs, MB N B W g v bv L Qs ∧ Qs i = [q] ∧ mayB L i q.a q.w false = true
def OuV (N : Nat) (B : Bs) (W : World) (g : Nat) (v : Value) (i : Nat) (q : Sto) (W' : World) : Prop :=
  OI (N + 1) ⟨B.b, fun _ => False⟩ W' g v i q ∧ ∀ W0 : World, W0.heap.size ≤ B.b → Kp W0 W → Kp W0 W'
theorem MB.lose {N : Nat} {B : Bs} {W : World} {g : Nat} {v : Value} {bv : List Value} {L : List Ar} {Qs : Nat → List Sto} (h : MB N B W g v bv L Qs) : MB N ⟨B.b, fun _ => False⟩ W g v bv L Qs :=
  ⟨h.ms, h.n8, h.q, h.ap, fun _ hk => hk.elim⟩
/-- another's blocks turn -/
theorem MB.other {N : Nat} {B : Bs} {W W' : World} {g : Nat} {v : Value} {bv : List Value} {L : List Ar} {Qs : Nat → List Sto} (h : MB N B W g v bv L Qs) {S : Nat → Prop} (c : Chg S W W') (hS : ∀ k, S k → B.f k) : MB N B W' g v bv L Qs := by
  refine ⟨h.ms.keep fun k hk => c.block k (h.ms.lt hk).2 (fun hs => (h.far k (hS k hs)).2.1 hk), h.n8, fun t ht => ?_, h.ap, fun k hk => ⟨Nat.lt_of_lt_of_le (h.far k hk).1 c.size, (h.far k hk).2⟩⟩
  obtain ⟨b, h1, h2, h3⟩ := h.q t ht
  exact ⟨b, h1, h2.keep fun k hk => c.block k (h2.blk hk).2.1 (fun hs => (h.far k (hS k hs)).2.2 t b h1 hk), h3⟩
/-- other blocks are another's -/
theorem MB.refar {N : Nat} {B : Bs} {W W' : World} {g : Nat} {v : Value} {bv : List Value} {L : List Ar} {Qs : Nat → List Sto} (h : MB N B W g v bv L Qs) (k : Kp W W') (F : Nat → Prop) (hF : ∀ j, F j → B.f j ∨ (W.heap.size ≤ j ∧ j < W'.heap.size)) : MB N ⟨B.b, F⟩ W' g v bv L Qs := by
  have hk := h.kp k
  refine ⟨hk.ms, hk.n8, hk.q, hk.ap, fun j hj => ?_⟩
  rcases hF j hj with h1 | ⟨h1, h2⟩
  · exact hk.far j h1
  · refine ⟨h2, fun hx => ?_, fun t b hb hx => ?_⟩
    · have := (h.ms.lt hx).2
      omega
    · have ht : t < 8 := by have := (List.getElem?_eq_some_iff.1 hb).1; have := h.n8; omega
      obtain ⟨b', h3, h4, _⟩ := h.q t ht
      obtain rfl := Option.some.inj (hb.symm.trans h3)
      have := (h4.blk hx).2.1
      omega
theorem openB_cons (b : Ar) (L : List Ar) (t y : Int) (w : Bool) : openB (b :: L) t y w = if b.has y then b.opn t w else openB L t y w := by
  unfold openB findA
  rw [List.find?_cons]
  cases b.has y <;> rfl
theorem openB_set {t y : Int} {w : Bool} {a a' : Ar} (ho : a.opn t w = true → a'.opn t w = true) (hh : a'.has y = a.has y) : ∀ (L : List Ar) (j : Nat), L[j]? = some a → openB L t y w = true → openB (L.set j a') t y w = true
  | [], j, h, _ => by simp at h
  | b :: L, 0, h, hy => by
    simp only [List.getElem?_cons_zero, Option.some.injEq] at h
    subst h
    rw [List.set_cons_zero, openB_cons, hh]
    rw [openB_cons] at hy
    split at hy
    · rename_i hc; rw [if_pos hc]; exact ho hy
    · rename_i hc; rw [if_neg hc]; exact hy
  | b :: L, j + 1, h, hy => by
    simp only [List.getElem?_cons_succ] at h
    rw [List.set_cons_succ, openB_cons]
    rw [openB_cons] at hy
    split at hy
    · rename_i hc; rw [if_pos hc]; exact hy
    · rename_i hc; rw [if_neg hc]; exact openB_set ho hh L j h hy
theorem mayB_set {i : Nat} {x w : Int} {wt : Bool} {L : List Ar} {j : Nat} {a : Ar} {T : Int} (h : L[j]? = some a) (hp : a.pv = true) (ho : a.ow = -1) (hm : mayB L i x w wt = true) : mayB (L.set j (a.own T)) i x w wt = true := by
  unfold mayB at *
  simp only [Bool.and_eq_true] at hm ⊢
  refine ⟨hm.1, opnAll_yes fun k hk => openB_set (a := a) (a' := a.own T) (fun hx => ?_) rfl L j h (opnAll_at hm.2 k hk)⟩
  exfalso
  unfold Ar.opn at hx
  rw [hp, ho] at hx
  simp at hx
theorem foldl_geo (Q : List Sto) (L : List Ar) : (Q.foldl wrq L).map Ar.geo = L.map Ar.geo := by
  induction Q generalizing L with
  | nil => rfl
  | cons q Q ih => rw [List.foldl_cons, ih]; exact wrF_geo _ _ _ _
theorem OI.kp {N : Nat} {B : Bs} {W W' : World} {g : Nat} {v : Value} {i : Nat} {q : Sto} (h : OI N B W g v i q) (k : Kp W W') : OI N B W' g v i q := by
  obtain ⟨bv, L, Qs, h1, h2, h3⟩ := h
  exact ⟨bv, L, Qs, h1.kp k, h2, h3⟩
theorem OI.more {N N' : Nat} {B : Bs} {W : World} {g : Nat} {v : Value} {i : Nat} {q : Sto} (h : OI N B W g v i q) (hn : N ≤ N') : OI N' B W g v i q := by
  obtain ⟨bv, L, Qs, h1, h2, h3⟩ := h
  exact ⟨bv, L, Qs, h1.more hn, h2, h3⟩
def TV (e : Ending) : Prop := ∃ y b, e = .returned (.tuple #[.int .u64 y, .bool b])
def NV (e : Ending) : Prop := ∃ y, e = .returned (.int .i64 y)
theorem load_oi {N : Nat} {B : Bs} {W : World} {g : Nat} {v : Value} {i : Nat} {q : Sto} (h : OI N B W g v i q) (hN : N < 1000) (T x w : Int) (hx : U64 x) :
    Calls Try.prog 20 #[.pointer (some ⟨g, 0, none⟩), .int .i64 T, .int .u64 x, .int .i64 w] W fun e W' => TV e ∧ OI N B W' g v i q ∧ Frm B W W' := by
  obtain ⟨bv, L, Qs, h1, h2, h3⟩ := h
  refine (load_mb h1 T x w hx hN).mono fun e W' ⟨h4, h5, h6⟩ => ⟨?_, ⟨bv, L, Qs, h4, h2, h3⟩, h5⟩
  rcases h6 with ⟨h6, _⟩ | ⟨_, _, _, _, _, _, r, h6, _⟩
  · exact ⟨_, _, h6⟩
  · exact ⟨_, _, h6⟩
theorem store_oi {N : Nat} {B : Bs} {W : World} {g : Nat} {v : Value} {i : Nat} {q : Sto} (h : OI N B W g v i q) (hN : N < 1000) (T : Int) (hT : T ≠ i) (p : Sto) :
    Calls Try.prog 19 #[.pointer (some ⟨g, 0, none⟩), .int .i64 T, .int .u64 p.a, .int .i64 p.w, .int .u64 p.v] W fun e W' => BV e ∧ OI (N + 1) B W' g v i q ∧ Frm B W W' := by
  obtain ⟨bv, L, Qs, h1, h2, h3⟩ := h
  refine (store_mb h1 T p hN).mono fun e W' hv => ?_
  rcases hv with ⟨h4, _, h5, h6⟩ | ⟨j, bv', rfl, _, _, h4, h5, h6⟩
  · exact ⟨⟨_, h4⟩, ⟨bv, L, Qs, h5.more (by omega), h2, h3⟩, h6⟩
  · exact ⟨⟨_, h4⟩, ⟨bv', L, _, h5, by rw [upd_other _ _ _ _ (by omega)]; exact h2, h3⟩, h6⟩
theorem put_oi {N : Nat} {B : Bs} {W : World} {g : Nat} {v : Value} {i : Nat} {q : Sto} (h : OI N B W g v i q) (T : Int) (hT : T ≠ i) (p : Sto) :
    Calls Try.prog 23 #[.pointer (some ⟨g, 0, none⟩), .int .i64 T, .int .u64 p.a, .int .i64 p.w, .int .u64 p.v] W fun e W' => BV e ∧ OI N B W' g v i q ∧ Frm B W W' := by
  obtain ⟨bv, L, Qs, h1, h2, h3⟩ := h
  refine (put_mb h1 T p).mono fun e W' hv => ?_
  rcases hv with ⟨h4, _, h5, h6⟩ | ⟨j, bv', rfl, _, _, h4, h5, h6⟩
  · exact ⟨⟨_, h4⟩, ⟨bv, L, Qs, h5, h2, h3⟩, h6⟩
  · exact ⟨⟨_, h4⟩, ⟨bv', _, _, h5, by rw [upd_other _ _ _ _ (by omega)]; exact h2, (mayB_geo ((wrF_geo _ _ _ _).trans (foldl_geo _ _)) _ _ _ _).trans h3⟩, h6⟩
theorem drain_oi {N : Nat} {B : Bs} {W : World} {g : Nat} {v : Value} {i : Nat} {q : Sto} (h : OI N B W g v i q) (T : Int) (hT : T ≠ i) :
    Calls Try.prog 22 #[.pointer (some ⟨g, 0, none⟩), .int .i64 T] W fun e W' => BV e ∧ OI N B W' g v i q ∧ Frm B W W' := by
  obtain ⟨bv, L, Qs, h1, h2, h3⟩ := h
  refine (drain_mb h1 T).mono fun e W' hv => ?_
  rcases hv with ⟨h4, h5, _, h6⟩ | ⟨j, p, Q, bv', rfl, _, _, h4, h5, h6⟩
  · exact ⟨⟨_, h4⟩, ⟨bv, L, Qs, h5, h2, h3⟩, h6⟩
  · exact ⟨⟨_, h4⟩, ⟨bv', _, _, h5, by rw [upd_other _ _ _ _ (by omega)]; exact h2, (mayB_geo (wrF_geo _ _ _ _) _ _ _ _).trans h3⟩, h6⟩
theorem flush_oi {N : Nat} {B : Bs} {W : World} {g : Nat} {v : Value} {i : Nat} {q : Sto} (h : OI N B W g v i q) (T : Int) (hT : T ≠ i) :
    Calls Try.prog 26 #[.pointer (some ⟨g, 0, none⟩), .int .i64 T] W fun e W' => NV e ∧ OI N B W' g v i q ∧ Frm B W W' := by
  obtain ⟨bv, L, Qs, h1, h2, h3⟩ := h
  refine (flush_mb h1 T).mono fun e W' hv => ?_
  rcases hv with ⟨_, h4, h5, h6⟩ | ⟨j, bv', rfl, _, h4, h5, h6⟩
  · exact ⟨⟨_, h4⟩, ⟨bv, L, Qs, h5, h2, h3⟩, h6⟩
  · exact ⟨⟨_, h4⟩, ⟨bv', _, _, h5, by rw [upd_other _ _ _ _ (by omega)]; exact h2, (mayB_geo (foldl_geo _ _) _ _ _ _).trans h3⟩, h6⟩
theorem own_oi {N : Nat} {B : Bs} {W : World} {g : Nat} {v : Value} {i : Nat} {q : Sto} (h : OI N B W g v i q) (T k : Int) :
    Calls Try.prog 27 #[.pointer (some ⟨g, 0, none⟩), .int .i64 T, .int .i64 k] W fun e W' => BV e ∧ OI N B W' g v i q ∧ Frm B W W' := by
  obtain ⟨bv, L, Qs, h1, h2, h3⟩ := h
  refine (own_mb h1 T k).mono fun e W' hv => ?_
  rcases hv with ⟨h4, h5, h6, _⟩ | ⟨h4, _, j, a, _, h7, h8, h9, h5, h6⟩
  · exact ⟨⟨_, h4⟩, ⟨bv, L, Qs, h5, h2, h3⟩, h6⟩
  · exact ⟨⟨_, h4⟩, ⟨bv, _, Qs, h5, h2, mayB_set h7 h8 h9 h3⟩, h6⟩
theorem may_oi {N : Nat} {B : Bs} {W : World} {g : Nat} {v : Value} {i : Nat} {q : Sto} (h : OI N B W g v i q) (T x w : Int) (wt : Bool) (hx : U64 x) :
    Calls Try.prog 25 #[.pointer (some ⟨g, 0, none⟩), .int .i64 T, .int .u64 x, .int .i64 w, .bool wt] W fun e W' => BV e ∧ OI N B W' g v i q ∧ Frm B W W' := by
  obtain ⟨bv, L, Qs, h1, h2, h3⟩ := h
  obtain ⟨ga, c, hr⟩ := h1.ms.rd
  exact (may_any g ga c L T x w wt W hr hx).mono fun e W' ⟨h4, h5⟩ => ⟨⟨_, h4⟩, ⟨bv, L, Qs, h1.kp h5, h2, h3⟩, Frm.kp h5⟩
theorem byte_oi {N : Nat} {B : Bs} {W : World} {g : Nat} {v : Value} {i : Nat} {q : Sto} (h : OI N B W g v i q) (x : Int) :
    Calls Try.prog 24 #[.pointer (some ⟨g, 0, none⟩), .int .u64 x] W fun e W' => (∃ y b, e = .returned (.tuple #[.int .u8 y, .bool b])) ∧ OI N B W' g v i q ∧ Frm B W W' := by
  obtain ⟨bv, L, Qs, h1, h2, h3⟩ := h
  obtain ⟨ga, c, hr⟩ := h1.ms.rd
  exact (byte_any g ga c L x W hr h1.ms.drd).mono fun e W' ⟨h4, h5⟩ => ⟨⟨_, _, h4⟩, ⟨bv, L, Qs, h1.kp h5, h2, h3⟩, Frm.kp h5⟩
end Go.Proofs.Ytlbkmdmnijmieaa
