/- Layer 9 (memory): a step of the law, by another thread: ways. -/
import Derived.Test.YtlbkmdmnijmieaaOk
namespace Go.Proofs.Ytlbkmdmnijmieaa
open Go Go.RowKit Rp Go.Maps
open Cq (U64 I64 isW nb mask)

def OpB (W : World) (s : Nat) (kd T : Int) (nr : Bool) (ix at' w vv : Int) : Prop := Box W s 32 [.int .i64 kd, .int .i64 T, .bool nr, .int .i64 ix, .int .u64 at', .int .i64 w, .int .u64 vv]
def C8 (w' : World) (s gr : Nat) (kd T : Int) (nr : Bool) (ix at' w vv : Int) (u : Value) : Prop :=
  w'.cell? ⟨s, 0, none⟩ = some (.int .i64 kd) ∧ w'.cell? ⟨s, 1, none⟩ = some (.int .i64 T) ∧ w'.cell? ⟨s, 2, none⟩ = some (.bool nr) ∧ w'.cell? ⟨s, 3, none⟩ = some (.int .i64 ix) ∧ w'.cell? ⟨s, 4, none⟩ = some (.int .u64 at') ∧ w'.cell? ⟨s, 5, none⟩ = some (.int .i64 w) ∧ w'.cell? ⟨s, 6, none⟩ = some (.int .u64 vv) ∧ w'.cell? ⟨gr, 0, none⟩ = some u
theorem OpB.cells {W : World} {s gr : Nat} {kd T : Int} {nr : Bool} {ix at' w vv : Int} {u : Value} (h : OpB W s kd T nr ix at' w vv) (hu : W.cell? ⟨gr, 0, none⟩ = some u) : C8 W s gr kd T nr ix at' w vv u :=
  ⟨h.cell 0, h.cell 1, h.cell 2, h.cell 3, h.cell 4, h.cell 5, h.cell 6, hu⟩
/-- before the two memories are asked -/
structure Rdy (N : Nat) (B : Bs) (W : World) (Br g gr : Nat) (v vr : Value) (Lr : List Ar) (i : Nat) (q : Sto) (s : Nat) (kd T : Int) (nr : Bool) (ix at' w vv : Int) (W' : World) : Prop where
  m : OI N ⟨B.b, fun k => MBlk gr vr Lr k ∨ k = s⟩ W' g v i q
  r : RS Br W' gr vr noRows Lr
  o : OpB W' s kd T nr ix at' w vv
  k : ∀ W0 : World, W0.heap.size ≤ B.b → Kp W0 W → Kp W0 W'
  gs : gr < s
  rs : ∀ k, MBlk gr vr Lr k → k < s
  b : B.b ≤ Br
theorem Rdy.next {N : Nat} {B : Bs} {W : World} {Br g gr : Nat} {v vr : Value} {Lr : List Ar} {i : Nat} {q : Sto} {s : Nat} {kd T : Int} {nr : Bool} {ix at' w vv : Int} {W' W2 : World} (h : Rdy N B W Br g gr v vr Lr i q s kd T nr ix at' w vv W') (k : Kp W' W2) : Rdy N B W Br g gr v vr Lr i q s kd T nr ix at' w vv W2 :=
  ⟨h.m.kp k, h.r.kp k, h.o.kept (k.block _ h.o.lt), fun W0 h0 hk => (h.k W0 h0 hk).next k, h.gs, h.rs, h.b⟩
theorem Rdy.byM {N N' : Nat} {B : Bs} {W : World} {Br g gr : Nat} {v vr : Value} {Lr : List Ar} {i : Nat} {q : Sto} {s : Nat} {kd T : Int} {nr : Bool} {ix at' w vv : Int} {W' W2 : World} (h : Rdy N B W Br g gr v vr Lr i q s kd T nr ix at' w vv W') (hm : OI N' ⟨B.b, fun k => MBlk gr vr Lr k ∨ k = s⟩ W2 g v i q) (f : Frm ⟨B.b, fun k => MBlk gr vr Lr k ∨ k = s⟩ W' W2) : Rdy N' B W Br g gr v vr Lr i q s kd T nr ix at' w vv W2 :=
  ⟨hm, h.r.keep (fun k hk => (f.2 k _ (.inl hk) (Array.getElem?_eq_getElem (h.r.lt hk).2)).trans (Array.getElem?_eq_getElem (h.r.lt hk).2).symm), h.o.kept ((f.2 s _ (.inr rfl) (Array.getElem?_eq_getElem h.o.lt)).trans (Array.getElem?_eq_getElem h.o.lt).symm), fun W0 h0 hk => f.1 W0 h0 (h.k W0 h0 hk), h.gs, h.rs, h.b⟩
/-- behind both -/
structure Aft (N : Nat) (B : Bs) (W : World) (g gr : Nat) (v vr : Value) (Lr : List Ar) (i : Nat) (q : Sto) (s : Nat) (kd T : Int) (nr : Bool) (ix at' w vv : Int) (W' : World) : Prop where
  m : OI N ⟨B.b, fun k => MBlk gr vr Lr k ∨ k = s⟩ W' g v i q
  o : OpB W' s kd T nr ix at' w vv
  k : ∀ W0 : World, W0.heap.size ≤ B.b → Kp W0 W → Kp W0 W'
theorem Aft.next {N : Nat} {B : Bs} {W : World} {g gr : Nat} {v vr : Value} {Lr : List Ar} {i : Nat} {q : Sto} {s : Nat} {kd T : Int} {nr : Bool} {ix at' w vv : Int} {W' W2 : World} (h : Aft N B W g gr v vr Lr i q s kd T nr ix at' w vv W') (k : Kp W' W2) : Aft N B W g gr v vr Lr i q s kd T nr ix at' w vv W2 :=
  ⟨h.m.kp k, h.o.kept (k.block _ h.o.lt), fun W0 h0 hk => (h.k W0 h0 hk).next k⟩
theorem Rdy.byR {N : Nat} {B : Bs} {W : World} {Br g gr : Nat} {v vr : Value} {Lr : List Ar} {i : Nat} {q : Sto} {s : Nat} {kd T : Int} {nr : Bool} {ix at' w vv : Int} {W' W2 : World} (h : Rdy N B W Br g gr v vr Lr i q s kd T nr ix at' w vv W') (c : Chg (MBlk gr vr Lr) W' W2) : Aft N B W g gr v vr Lr i q s kd T nr ix at' w vv W2 := by
  obtain ⟨bv, L, Qs, h1, h2, h3⟩ := h.m
  exact ⟨⟨bv, L, Qs, h1.other c (fun k hk => .inl hk), h2, h3⟩, h.o.kept (c.block s h.o.lt (fun hx => Nat.lt_irrefl _ (h.rs s hx))), fun W0 h0 hk => chg_kp c (h.k W0 h0 hk) (fun j hj => by have := (h.r.lt hj).1; have := h.b; omega)⟩
theorem Aft.out {N : Nat} {B : Bs} {W : World} {g gr : Nat} {v vr : Value} {Lr : List Ar} {i : Nat} {q : Sto} {s : Nat} {kd T : Int} {nr : Bool} {ix at' w vv : Int} {W' : World} (h : Aft N B W g gr v vr Lr i q s kd T nr ix at' w vv W') (n : Nat) (hn : N ≤ n + 1) : OuV n B W g v i q W' := by
  obtain ⟨bv, L, Qs, h1, h2, h3⟩ := h.m
  exact ⟨⟨bv, L, Qs, h1.lose.more hn, h2, h3⟩, h.k⟩
theorem Rdy.aft {N : Nat} {B : Bs} {W : World} {Br g gr : Nat} {v vr : Value} {Lr : List Ar} {i : Nat} {q : Sto} {s : Nat} {kd T : Int} {nr : Bool} {ix at' w vv : Int} {W' : World} (h : Rdy N B W Br g gr v vr Lr i q s kd T nr ix at' w vv W') : Aft N B W g gr v vr Lr i q s kd T nr ix at' w vv W' := ⟨h.m, h.o, h.k⟩
theorem Aft.c3 {N : Nat} {B : Bs} {W : World} {g gr : Nat} {v vr : Value} {Lr : List Ar} {i : Nat} {q : Sto} {s : Nat} {kd T : Int} {nr : Bool} {ix at' w vv : Int} {W' : World} (h : Aft N B W g gr v vr Lr i q s kd T nr ix at' w vv W') : W'.cell? ⟨s, 1, none⟩ = some (.int .i64 T) ∧ W'.cell? ⟨s, 5, none⟩ = some (.int .i64 w) ∧ W'.cell? ⟨s, 6, none⟩ = some (.int .u64 vv) := ⟨h.o.cell 1, h.o.cell 5, h.o.cell 6⟩
set_option maxRecDepth 100000 in
set_option maxHeartbeats 8000000 in
theorem step_x {N Br g gr : Nat} {B : Bs} {v vr : Value} {Lr : List Ar} {i : Nat} {q : Sto} {W : World} (h : OI N B W g v i q) (hN : N < 900) (hi : i < 8) (hr : RS Br W gr vr noRows Lr) (hF : ∀ k, MBlk gr vr Lr k → B.f k) (hB : B.b ≤ Br)
    (kd T : Int) (hT : T ≠ i) (nr : Bool) (ix at' w vv : Int) (hat : U64 at') (hix : I64 ix) (hvv : U64 vv) (hk : kd < 0 ∨ 9 < kd) :
    Calls Try.prog 14 #[.pointer (some ⟨g, 0, none⟩), .pointer (some ⟨gr, 0, none⟩), .agg #[.int .i64 kd, .int .i64 T, .bool nr, .int .i64 ix, .int .u64 at', .int .i64 w, .int .u64 vv]] W fun e W' => BV e ∧ OuV N B W g v i q W' := by
  have HS : Hid (∀ W1, W1 = W.alloc (.cells #[.int .i64 kd, .int .i64 T, .bool nr, .int .i64 ix, .int .u64 at', .int .i64 w, .int .u64 vv] 32) → Rdy N B W Br g gr v vr Lr i q W.heap.size kd T nr ix at' w vv W1) := by
    rintro _ rfl
    have hk : Kp W (W.alloc (.cells #[.int .i64 kd, .int .i64 T, .bool nr, .int .i64 ix, .int .u64 at', .int .i64 w, .int .u64 vv] 32)) := (Kp.rfl W).new _
    obtain ⟨bv, L, Qs, h1, h2, h3⟩ := h
    exact ⟨⟨bv, L, Qs, h1.refar hk _ (fun j hj => by
      rcases hj with hj | rfl
      · exact .inl (hF j hj)
      · exact .inr ⟨Nat.le_refl _, by rw [World.size_alloc]; omega⟩), h2, h3⟩, hr.kp hk, heap_alloc_new W _, fun W0 _ h0 => h0.next hk, hr.box.lt, fun k hk => (hr.lt hk).2, hB⟩
  have HHN := Lib.hid hN
  have HHI := Lib.hid hi
  have HHT := Lib.hid hT
  have HAT := Lib.hid hat
  have HIX := Lib.hid hix
  have HVV := Lib.hid hvv
  clear h hN hi hr hF hB hT hat hix hvv
  go_enter Try.func14, Try.ntmps14
  go_wp2_with fail
  have HS1 := Lib.hid (HS.out _ rfl)
  generalize W.alloc (.cells #[.int .i64 kd, .int .i64 T, .bool nr, .int .i64 ix, .int .u64 at', .int .i64 w, .int .u64 vv] 32) = w1 at *
  clear HS
  obtain ⟨s, hs⟩ : ∃ s, s = W.heap.size := ⟨_, rfl⟩
  rw [← hs] at HS1 ⊢
  clear hs
  obtain ⟨ga, c, hrd⟩ := HS1.out.r.rd
  have hu := hrd.head
  have HATIN := Lib.hid (at_in hrd)
  have hn16 := HS1.out.r.few
  obtain ⟨n, hn⟩ : ∃ n, n = Lr.length := ⟨_, rfl⟩
  rw [← hn] at hu hn16 HATIN
  obtain ⟨A, hA⟩ : ∃ A, A = (if n = 0 then none else some (⟨ga, 0, none⟩ : Addr)) := ⟨_, rfl⟩
  obtain ⟨cc, hcc⟩ : ∃ cc, cc = (if n = 0 then 0 else c) := ⟨_, rfl⟩
  rw [← hA, ← hcc] at hu
  rw [← hA] at HATIN
  have HC0 := Lib.hid (HS1.out.o.cells hu)
  have hsl := HS1.out.o.lt
  have hgl := HS1.out.r.box.lt
  obtain ⟨z0, z1, z2, z3, z4, z5, z6, z7⟩ := HC0.out
  clear hn hA hcc hrd hu
  go_region_held3 (fun w' => w'.cell? ⟨s, 0, none⟩ = some (.int .i64 kd) ∧ w'.cell? ⟨s, 1, none⟩ = some (.int .i64 T) ∧ w'.cell? ⟨s, 2, none⟩ = some (.bool nr) ∧ w'.cell? ⟨s, 3, none⟩ = some (.int .i64 ix) ∧ w'.cell? ⟨s, 4, none⟩ = some (.int .u64 at') ∧ w'.cell? ⟨s, 5, none⟩ = some (.int .i64 w) ∧ w'.cell? ⟨s, 6, none⟩ = some (.int .u64 vv) ∧ w'.cell? ⟨gr, 0, none⟩ = some (.slice A n cc))
    (first | exact HC0.out | exact HC1.out)
    ((go_at_call 18; refine (at_any kd T nr ix at' w vv A n cc _ HAT.out HIX.out hn16 (HATIN.out.kp (Kp.rfl _).draw)).mono ?_; rintro e w2 ⟨x, rfl, hx, hk2⟩; have HK2 := Lib.hid ((Kp.rfl w1).draw.next hk2); have HX := Lib.hid hx; have HC1 := Lib.hid (show C8 w2 s gr kd T nr ix at' w vv (.slice A n cc) from ⟨(HK2.out.cell (p := ⟨s, 0, none⟩) hsl).trans HC0.out.1, (HK2.out.cell (p := ⟨s, 1, none⟩) hsl).trans HC0.out.2.1, (HK2.out.cell (p := ⟨s, 2, none⟩) hsl).trans HC0.out.2.2.1, (HK2.out.cell (p := ⟨s, 3, none⟩) hsl).trans HC0.out.2.2.2.1, (HK2.out.cell (p := ⟨s, 4, none⟩) hsl).trans HC0.out.2.2.2.2.1, (HK2.out.cell (p := ⟨s, 5, none⟩) hsl).trans HC0.out.2.2.2.2.2.1, (HK2.out.cell (p := ⟨s, 6, none⟩) hsl).trans HC0.out.2.2.2.2.2.2.1, (HK2.out.cell (p := ⟨gr, 0, none⟩) hgl).trans HC0.out.2.2.2.2.2.2.2⟩)))
  have HR2 := Lib.hid (HS1.out.next HK2.out)
  clear HC1 hk2 hx z0 z1 z2 z3 z4 z5 z6 z7
  have x0 := HR2.out.o.cell 0
  simp only [List.getElem?_cons_zero] at x0
  go_wp2_with fail
  go_ret
  exact ⟨⟨_, rfl⟩, HR2.out.aft.out _ (by omega)⟩
end Go.Proofs.Ytlbkmdmnijmieaa
