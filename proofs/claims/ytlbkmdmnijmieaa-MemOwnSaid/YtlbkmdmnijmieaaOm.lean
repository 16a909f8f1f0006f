/- Layer 9 (memory): a step of the law, by another thread: ways that ask both. -/
import Derived.Test.YtlbkmdmnijmieaaOl
namespace Go.Proofs.Ytlbkmdmnijmieaa
open Go Go.RowKit Rp Go.Maps
open Cq (U64 I64 isW nb mask)

theorem rdrain_c {B g : Nat} {v : Value} {L : List Ar} {W : World} (h : RS B W g v noRows L) (t : Int) :
    Calls Try.prog 36 #[.pointer (some ⟨g, 0, none⟩), .int .i64 t] W fun e W' => BV e ∧ Chg (MBlk g v L) W W' :=
  (rdrain_any h t).mono fun _ _ ⟨h1, h2⟩ => ⟨⟨_, h1⟩, (Chg.refl _ _).thenBelow h2⟩
theorem rflush_c {B g : Nat} {v : Value} {L : List Ar} {W : World} (h : RS B W g v noRows L) (t : Int) :
    Calls Try.prog 37 #[.pointer (some ⟨g, 0, none⟩), .int .i64 t] W fun e W' => NV e ∧ Chg (MBlk g v L) W W' :=
  (rflush_any h t).mono fun _ _ ⟨h1, h2⟩ => ⟨⟨_, h1⟩, (Chg.refl _ _).thenBelow h2⟩
set_option maxRecDepth 100000 in
set_option maxHeartbeats 8000000 in
theorem step_store2 {N Br g gr : Nat} {B : Bs} {v vr : Value} {Lr : List Ar} {i : Nat} {q : Sto} {W : World} (h : OI N B W g v i q) (hN : N < 900) (hi : i < 8) (hr : RS Br W gr vr noRows Lr) (hF : ∀ k, MBlk gr vr Lr k → B.f k) (hB : B.b ≤ Br)
    (T : Int) (hT : T ≠ i) (nr : Bool) (ix at' w vv : Int) (hat : U64 at') (hix : I64 ix) (hvv : U64 vv) :
    Calls Try.prog 14 #[.pointer (some ⟨g, 0, none⟩), .pointer (some ⟨gr, 0, none⟩), .agg #[.int .i64 2, .int .i64 T, .bool nr, .int .i64 ix, .int .u64 at', .int .i64 w, .int .u64 vv]] W fun e W' => BV e ∧ OuV N B W g v i q W' := by
  have HS : Hid (∀ W1, W1 = W.alloc (.cells #[.int .i64 2, .int .i64 T, .bool nr, .int .i64 ix, .int .u64 at', .int .i64 w, .int .u64 vv] 32) → Rdy N B W Br g gr v vr Lr i q W.heap.size 2 T nr ix at' w vv W1) := by
    rintro _ rfl
    have hk : Kp W (W.alloc (.cells #[.int .i64 2, .int .i64 T, .bool nr, .int .i64 ix, .int .u64 at', .int .i64 w, .int .u64 vv] 32)) := (Kp.rfl W).new _
    obtain ⟨bv, L, Qs, h1, h2, h3⟩ := h
    exact ⟨⟨bv, L, Qs, h1.refar hk _ (fun j hj => by
      rcases hj with hj | rfl
      · exact .inl (hF j hj)
      · exact .inr ⟨Nat.le_refl _, by rw [World.size_alloc]; omega⟩), h2, h3⟩, hr.kp hk, heap_alloc_new W _, fun W0 _ h0 => h0.next hk, hr.box.lt, fun k hk => (hr.lt hk).2, hB⟩
  have HHN := Lib.hid hN
  have HHI := Lib.hid hi
  have HHT := Lib.hid hT
  have HAT := Lib.hid hat
  have HIX := Lib.hid hix
  have HVV := Lib.hid hvv
  clear h hN hi hr hF hB hT hat hix hvv
  go_enter Try.func14, Try.ntmps14
  go_wp2_with fail
  have HS1 := Lib.hid (HS.out _ rfl)
  generalize W.alloc (.cells #[.int .i64 2, .int .i64 T, .bool nr, .int .i64 ix, .int .u64 at', .int .i64 w, .int .u64 vv] 32) = w1 at *
  clear HS
  obtain ⟨s, hs⟩ : ∃ s, s = W.heap.size := ⟨_, rfl⟩
  rw [← hs] at HS1 ⊢
  clear hs
  obtain ⟨ga, c, hrd⟩ := HS1.out.r.rd
  have hu := hrd.head
  have HATIN := Lib.hid (at_in hrd)
  have hn16 := HS1.out.r.few
  obtain ⟨n, hn⟩ : ∃ n, n = Lr.length := ⟨_, rfl⟩
  rw [← hn] at hu hn16 HATIN
  obtain ⟨A, hA⟩ : ∃ A, A = (if n = 0 then none else some (⟨ga, 0, none⟩ : Addr)) := ⟨_, rfl⟩
  obtain ⟨cc, hcc⟩ : ∃ cc, cc = (if n = 0 then 0 else c) := ⟨_, rfl⟩
  rw [← hA, ← hcc] at hu
  rw [← hA] at HATIN
  have HC0 := Lib.hid (HS1.out.o.cells hu)
  have hsl := HS1.out.o.lt
  have hgl := HS1.out.r.box.lt
  obtain ⟨z0, z1, z2, z3, z4, z5, z6, z7⟩ := HC0.out
  clear hn hA hcc hrd hu
  go_region_held3 (fun w' => w'.cell? ⟨s, 0, none⟩ = some (.int .i64 2) ∧ w'.cell? ⟨s, 1, none⟩ = some (.int .i64 T) ∧ w'.cell? ⟨s, 2, none⟩ = some (.bool nr) ∧ w'.cell? ⟨s, 3, none⟩ = some (.int .i64 ix) ∧ w'.cell? ⟨s, 4, none⟩ = some (.int .u64 at') ∧ w'.cell? ⟨s, 5, none⟩ = some (.int .i64 w) ∧ w'.cell? ⟨s, 6, none⟩ = some (.int .u64 vv) ∧ w'.cell? ⟨gr, 0, none⟩ = some (.slice A n cc))
    (first | exact HC0.out | exact HC1.out)
    ((go_at_call 18; refine (at_any 2 T nr ix at' w vv A n cc _ HAT.out HIX.out hn16 (HATIN.out.kp (Kp.rfl _).draw)).mono ?_; rintro e w2 ⟨x, rfl, hx, hk2⟩; have HK2 := Lib.hid ((Kp.rfl w1).draw.next hk2); have HX := Lib.hid hx; have HC1 := Lib.hid (show C8 w2 s gr 2 T nr ix at' w vv (.slice A n cc) from ⟨(HK2.out.cell (p := ⟨s, 0, none⟩) hsl).trans HC0.out.1, (HK2.out.cell (p := ⟨s, 1, none⟩) hsl).trans HC0.out.2.1, (HK2.out.cell (p := ⟨s, 2, none⟩) hsl).trans HC0.out.2.2.1, (HK2.out.cell (p := ⟨s, 3, none⟩) hsl).trans HC0.out.2.2.2.1, (HK2.out.cell (p := ⟨s, 4, none⟩) hsl).trans HC0.out.2.2.2.2.1, (HK2.out.cell (p := ⟨s, 5, none⟩) hsl).trans HC0.out.2.2.2.2.2.1, (HK2.out.cell (p := ⟨s, 6, none⟩) hsl).trans HC0.out.2.2.2.2.2.2.1, (HK2.out.cell (p := ⟨gr, 0, none⟩) hgl).trans HC0.out.2.2.2.2.2.2.2⟩)))
  have HR2 := Lib.hid (HS1.out.next HK2.out)
  clear HC1 hk2 hx z0 z1 z2 z3 z4 z5 z6 z7
  have x0 := HR2.out.o.cell 0
  have x1 := HR2.out.o.cell 1
  have x5 := HR2.out.o.cell 5
  have x6 := HR2.out.o.cell 6
  simp only [List.getElem?_cons_zero, List.getElem?_cons_succ] at x0 x1 x5 x6
  have HD2 := Lib.hid (HR2.out.next (Kp.rfl _).draw)
  have HC2 := Lib.hid HD2.out.aft.c3
  go_wp2_with fail
  go_region_held3 (fun w' => w'.cell? ⟨s, 1, none⟩ = some (.int .i64 T) ∧ w'.cell? ⟨s, 5, none⟩ = some (.int .i64 w) ∧ w'.cell? ⟨s, 6, none⟩ = some (.int .u64 vv))
    (first | exact HC2.out | exact HC3.out | exact HC4.out)
    ((first | (go_at_call 19; refine (store_oi HD2.out.m (by have := HHN.out; omega) T HHT.out ⟨x, w, vv, HX.out, HVV.out⟩).mono ?_; rintro e w3 ⟨⟨r1, rfl⟩, hm3, hf3⟩; have HR3 := Lib.hid (HD2.out.byM hm3 hf3); have HC3 := Lib.hid HR3.out.aft.c3) | (go_at_call 34; refine (rstore_any HR3.out.r T x w vv HX.out HVV.out).mono ?_; rintro e w4 ⟨⟨r2, rfl⟩, hc4⟩; have HA4 := Lib.hid (HR3.out.byR hc4); have HC4 := Lib.hid HA4.out.c3)))
  go_wp2_with fail
  go_ret
  exact ⟨⟨_, rfl⟩, HA4.out.out _ (by omega)⟩
set_option maxRecDepth 100000 in
set_option maxHeartbeats 8000000 in
theorem step_store3 {N Br g gr : Nat} {B : Bs} {v vr : Value} {Lr : List Ar} {i : Nat} {q : Sto} {W : World} (h : OI N B W g v i q) (hN : N < 900) (hi : i < 8) (hr : RS Br W gr vr noRows Lr) (hF : ∀ k, MBlk gr vr Lr k → B.f k) (hB : B.b ≤ Br)
    (T : Int) (hT : T ≠ i) (nr : Bool) (ix at' w vv : Int) (hat : U64 at') (hix : I64 ix) (hvv : U64 vv) :
    Calls Try.prog 14 #[.pointer (some ⟨g, 0, none⟩), .pointer (some ⟨gr, 0, none⟩), .agg #[.int .i64 3, .int .i64 T, .bool nr, .int .i64 ix, .int .u64 at', .int .i64 w, .int .u64 vv]] W fun e W' => BV e ∧ OuV N B W g v i q W' := by
  have HS : Hid (∀ W1, W1 = W.alloc (.cells #[.int .i64 3, .int .i64 T, .bool nr, .int .i64 ix, .int .u64 at', .int .i64 w, .int .u64 vv] 32) → Rdy N B W Br g gr v vr Lr i q W.heap.size 3 T nr ix at' w vv W1) := by
    rintro _ rfl
    have hk : Kp W (W.alloc (.cells #[.int .i64 3, .int .i64 T, .bool nr, .int .i64 ix, .int .u64 at', .int .i64 w, .int .u64 vv] 32)) := (Kp.rfl W).new _
    obtain ⟨bv, L, Qs, h1, h2, h3⟩ := h
    exact ⟨⟨bv, L, Qs, h1.refar hk _ (fun j hj => by
      rcases hj with hj | rfl
      · exact .inl (hF j hj)
      · exact .inr ⟨Nat.le_refl _, by rw [World.size_alloc]; omega⟩), h2, h3⟩, hr.kp hk, heap_alloc_new W _, fun W0 _ h0 => h0.next hk, hr.box.lt, fun k hk => (hr.lt hk).2, hB⟩
  have HHN := Lib.hid hN
  have HHI := Lib.hid hi
  have HHT := Lib.hid hT
  have HAT := Lib.hid hat
  have HIX := Lib.hid hix
  have HVV := Lib.hid hvv
  clear h hN hi hr hF hB hT hat hix hvv
  go_enter Try.func14, Try.ntmps14
  go_wp2_with fail
  have HS1 := Lib.hid (HS.out _ rfl)
  generalize W.alloc (.cells #[.int .i64 3, .int .i64 T, .bool nr, .int .i64 ix, .int .u64 at', .int .i64 w, .int .u64 vv] 32) = w1 at *
  clear HS
  obtain ⟨s, hs⟩ : ∃ s, s = W.heap.size := ⟨_, rfl⟩
  rw [← hs] at HS1 ⊢
  clear hs
  obtain ⟨ga, c, hrd⟩ := HS1.out.r.rd
  have hu := hrd.head
  have HATIN := Lib.hid (at_in hrd)
  have hn16 := HS1.out.r.few
  obtain ⟨n, hn⟩ : ∃ n, n = Lr.length := ⟨_, rfl⟩
  rw [← hn] at hu hn16 HATIN
  obtain ⟨A, hA⟩ : ∃ A, A = (if n = 0 then none else some (⟨ga, 0, none⟩ : Addr)) := ⟨_, rfl⟩
  obtain ⟨cc, hcc⟩ : ∃ cc, cc = (if n = 0 then 0 else c) := ⟨_, rfl⟩
  rw [← hA, ← hcc] at hu
  rw [← hA] at HATIN
  have HC0 := Lib.hid (HS1.out.o.cells hu)
  have hsl := HS1.out.o.lt
  have hgl := HS1.out.r.box.lt
  obtain ⟨z0, z1, z2, z3, z4, z5, z6, z7⟩ := HC0.out
  clear hn hA hcc hrd hu
  go_region_held3 (fun w' => w'.cell? ⟨s, 0, none⟩ = some (.int .i64 3) ∧ w'.cell? ⟨s, 1, none⟩ = some (.int .i64 T) ∧ w'.cell? ⟨s, 2, none⟩ = some (.bool nr) ∧ w'.cell? ⟨s, 3, none⟩ = some (.int .i64 ix) ∧ w'.cell? ⟨s, 4, none⟩ = some (.int .u64 at') ∧ w'.cell? ⟨s, 5, none⟩ = some (.int .i64 w) ∧ w'.cell? ⟨s, 6, none⟩ = some (.int .u64 vv) ∧ w'.cell? ⟨gr, 0, none⟩ = some (.slice A n cc))
    (first | exact HC0.out | exact HC1.out)
    ((go_at_call 18; refine (at_any 3 T nr ix at' w vv A n cc _ HAT.out HIX.out hn16 (HATIN.out.kp (Kp.rfl _).draw)).mono ?_; rintro e w2 ⟨x, rfl, hx, hk2⟩; have HK2 := Lib.hid ((Kp.rfl w1).draw.next hk2); have HX := Lib.hid hx; have HC1 := Lib.hid (show C8 w2 s gr 3 T nr ix at' w vv (.slice A n cc) from ⟨(HK2.out.cell (p := ⟨s, 0, none⟩) hsl).trans HC0.out.1, (HK2.out.cell (p := ⟨s, 1, none⟩) hsl).trans HC0.out.2.1, (HK2.out.cell (p := ⟨s, 2, none⟩) hsl).trans HC0.out.2.2.1, (HK2.out.cell (p := ⟨s, 3, none⟩) hsl).trans HC0.out.2.2.2.1, (HK2.out.cell (p := ⟨s, 4, none⟩) hsl).trans HC0.out.2.2.2.2.1, (HK2.out.cell (p := ⟨s, 5, none⟩) hsl).trans HC0.out.2.2.2.2.2.1, (HK2.out.cell (p := ⟨s, 6, none⟩) hsl).trans HC0.out.2.2.2.2.2.2.1, (HK2.out.cell (p := ⟨gr, 0, none⟩) hgl).trans HC0.out.2.2.2.2.2.2.2⟩)))
  have HR2 := Lib.hid (HS1.out.next HK2.out)
  clear HC1 hk2 hx z0 z1 z2 z3 z4 z5 z6 z7
  have x0 := HR2.out.o.cell 0
  have x1 := HR2.out.o.cell 1
  have x5 := HR2.out.o.cell 5
  have x6 := HR2.out.o.cell 6
  simp only [List.getElem?_cons_zero, List.getElem?_cons_succ] at x0 x1 x5 x6
  have HD2 := Lib.hid (HR2.out.next (Kp.rfl _).draw)
  have HC2 := Lib.hid HD2.out.aft.c3
  go_wp2_with fail
  go_region_held3 (fun w' => w'.cell? ⟨s, 1, none⟩ = some (.int .i64 T) ∧ w'.cell? ⟨s, 5, none⟩ = some (.int .i64 w) ∧ w'.cell? ⟨s, 6, none⟩ = some (.int .u64 vv))
    (first | exact HC2.out | exact HC3.out | exact HC4.out)
    ((first | (go_at_call 19; refine (store_oi HD2.out.m (by have := HHN.out; omega) T HHT.out ⟨x, w, vv, HX.out, HVV.out⟩).mono ?_; rintro e w3 ⟨⟨r1, rfl⟩, hm3, hf3⟩; have HR3 := Lib.hid (HD2.out.byM hm3 hf3); have HC3 := Lib.hid HR3.out.aft.c3) | (go_at_call 34; refine (rstore_any HR3.out.r T x w vv HX.out HVV.out).mono ?_; rintro e w4 ⟨⟨r2, rfl⟩, hc4⟩; have HA4 := Lib.hid (HR3.out.byR hc4); have HC4 := Lib.hid HA4.out.c3)))
  go_wp2_with fail
  go_ret
  exact ⟨⟨_, rfl⟩, HA4.out.out _ (by omega)⟩
set_option maxRecDepth 100000 in
set_option maxHeartbeats 8000000 in
theorem step_put {N Br g gr : Nat} {B : Bs} {v vr : Value} {Lr : List Ar} {i : Nat} {q : Sto} {W : World} (h : OI N B W g v i q) (hN : N < 900) (hi : i < 8) (hr : RS Br W gr vr noRows Lr) (hF : ∀ k, MBlk gr vr Lr k → B.f k) (hB : B.b ≤ Br)
    (T : Int) (hT : T ≠ i) (nr : Bool) (ix at' w vv : Int) (hat : U64 at') (hix : I64 ix) (hvv : U64 vv) :
    Calls Try.prog 14 #[.pointer (some ⟨g, 0, none⟩), .pointer (some ⟨gr, 0, none⟩), .agg #[.int .i64 4, .int .i64 T, .bool nr, .int .i64 ix, .int .u64 at', .int .i64 w, .int .u64 vv]] W fun e W' => BV e ∧ OuV N B W g v i q W' := by
  have HS : Hid (∀ W1, W1 = W.alloc (.cells #[.int .i64 4, .int .i64 T, .bool nr, .int .i64 ix, .int .u64 at', .int .i64 w, .int .u64 vv] 32) → Rdy N B W Br g gr v vr Lr i q W.heap.size 4 T nr ix at' w vv W1) := by
    rintro _ rfl
    have hk : Kp W (W.alloc (.cells #[.int .i64 4, .int .i64 T, .bool nr, .int .i64 ix, .int .u64 at', .int .i64 w, .int .u64 vv] 32)) := (Kp.rfl W).new _
    obtain ⟨bv, L, Qs, h1, h2, h3⟩ := h
    exact ⟨⟨bv, L, Qs, h1.refar hk _ (fun j hj => by
      rcases hj with hj | rfl
      · exact .inl (hF j hj)
      · exact .inr ⟨Nat.le_refl _, by rw [World.size_alloc]; omega⟩), h2, h3⟩, hr.kp hk, heap_alloc_new W _, fun W0 _ h0 => h0.next hk, hr.box.lt, fun k hk => (hr.lt hk).2, hB⟩
  have HHN := Lib.hid hN
  have HHI := Lib.hid hi
  have HHT := Lib.hid hT
  have HAT := Lib.hid hat
  have HIX := Lib.hid hix
  have HVV := Lib.hid hvv
  clear h hN hi hr hF hB hT hat hix hvv
  go_enter Try.func14, Try.ntmps14
  go_wp2_with fail
  have HS1 := Lib.hid (HS.out _ rfl)
  generalize W.alloc (.cells #[.int .i64 4, .int .i64 T, .bool nr, .int .i64 ix, .int .u64 at', .int .i64 w, .int .u64 vv] 32) = w1 at *
  clear HS
  obtain ⟨s, hs⟩ : ∃ s, s = W.heap.size := ⟨_, rfl⟩
  rw [← hs] at HS1 ⊢
  clear hs
  obtain ⟨ga, c, hrd⟩ := HS1.out.r.rd
  have hu := hrd.head
  have HATIN := Lib.hid (at_in hrd)
  have hn16 := HS1.out.r.few
  obtain ⟨n, hn⟩ : ∃ n, n = Lr.length := ⟨_, rfl⟩
  rw [← hn] at hu hn16 HATIN
  obtain ⟨A, hA⟩ : ∃ A, A = (if n = 0 then none else some (⟨ga, 0, none⟩ : Addr)) := ⟨_, rfl⟩
  obtain ⟨cc, hcc⟩ : ∃ cc, cc = (if n = 0 then 0 else c) := ⟨_, rfl⟩
  rw [← hA, ← hcc] at hu
  rw [← hA] at HATIN
  have HC0 := Lib.hid (HS1.out.o.cells hu)
  have hsl := HS1.out.o.lt
  have hgl := HS1.out.r.box.lt
  obtain ⟨z0, z1, z2, z3, z4, z5, z6, z7⟩ := HC0.out
  clear hn hA hcc hrd hu
  go_region_held3 (fun w' => w'.cell? ⟨s, 0, none⟩ = some (.int .i64 4) ∧ w'.cell? ⟨s, 1, none⟩ = some (.int .i64 T) ∧ w'.cell? ⟨s, 2, none⟩ = some (.bool nr) ∧ w'.cell? ⟨s, 3, none⟩ = some (.int .i64 ix) ∧ w'.cell? ⟨s, 4, none⟩ = some (.int .u64 at') ∧ w'.cell? ⟨s, 5, none⟩ = some (.int .i64 w) ∧ w'.cell? ⟨s, 6, none⟩ = some (.int .u64 vv) ∧ w'.cell? ⟨gr, 0, none⟩ = some (.slice A n cc))
    (first | exact HC0.out | exact HC1.out)
    ((go_at_call 18; refine (at_any 4 T nr ix at' w vv A n cc _ HAT.out HIX.out hn16 (HATIN.out.kp (Kp.rfl _).draw)).mono ?_; rintro e w2 ⟨x, rfl, hx, hk2⟩; have HK2 := Lib.hid ((Kp.rfl w1).draw.next hk2); have HX := Lib.hid hx; have HC1 := Lib.hid (show C8 w2 s gr 4 T nr ix at' w vv (.slice A n cc) from ⟨(HK2.out.cell (p := ⟨s, 0, none⟩) hsl).trans HC0.out.1, (HK2.out.cell (p := ⟨s, 1, none⟩) hsl).trans HC0.out.2.1, (HK2.out.cell (p := ⟨s, 2, none⟩) hsl).trans HC0.out.2.2.1, (HK2.out.cell (p := ⟨s, 3, none⟩) hsl).trans HC0.out.2.2.2.1, (HK2.out.cell (p := ⟨s, 4, none⟩) hsl).trans HC0.out.2.2.2.2.1, (HK2.out.cell (p := ⟨s, 5, none⟩) hsl).trans HC0.out.2.2.2.2.2.1, (HK2.out.cell (p := ⟨s, 6, none⟩) hsl).trans HC0.out.2.2.2.2.2.2.1, (HK2.out.cell (p := ⟨gr, 0, none⟩) hgl).trans HC0.out.2.2.2.2.2.2.2⟩)))
  have HR2 := Lib.hid (HS1.out.next HK2.out)
  clear HC1 hk2 hx z0 z1 z2 z3 z4 z5 z6 z7
  have x0 := HR2.out.o.cell 0
  have x1 := HR2.out.o.cell 1
  have x5 := HR2.out.o.cell 5
  have x6 := HR2.out.o.cell 6
  simp only [List.getElem?_cons_zero, List.getElem?_cons_succ] at x0 x1 x5 x6
  have HD2 := Lib.hid (HR2.out.next (Kp.rfl _).draw)
  have HC2 := Lib.hid HD2.out.aft.c3
  go_wp2_with fail
  go_region_held3 (fun w' => w'.cell? ⟨s, 1, none⟩ = some (.int .i64 T) ∧ w'.cell? ⟨s, 5, none⟩ = some (.int .i64 w) ∧ w'.cell? ⟨s, 6, none⟩ = some (.int .u64 vv))
    (first | exact HC2.out | exact HC3.out | exact HC4.out)
    ((first | (go_at_call 23; refine (put_oi HD2.out.m T HHT.out ⟨x, w, vv, HX.out, HVV.out⟩).mono ?_; rintro e w3 ⟨⟨r1, rfl⟩, hm3, hf3⟩; have HR3 := Lib.hid (HD2.out.byM hm3 hf3); have HC3 := Lib.hid HR3.out.aft.c3) | (go_at_call 35; refine (rput_any HR3.out.r T x w vv HX.out HVV.out).mono ?_; rintro e w4 ⟨⟨r2, rfl⟩, hc4⟩; have HA4 := Lib.hid (HR3.out.byR hc4); have HC4 := Lib.hid HA4.out.c3)))
  go_wp2_with fail
  go_ret
  exact ⟨⟨_, rfl⟩, HA4.out.out _ (by omega)⟩
set_option maxRecDepth 100000 in
set_option maxHeartbeats 8000000 in
theorem step_drain {N Br g gr : Nat} {B : Bs} {v vr : Value} {Lr : List Ar} {i : Nat} {q : Sto} {W : World} (h : OI N B W g v i q) (hN : N < 900) (hi : i < 8) (hr : RS Br W gr vr noRows Lr) (hF : ∀ k, MBlk gr vr Lr k → B.f k) (hB : B.b ≤ Br)
    (T : Int) (hT : T ≠ i) (nr : Bool) (ix at' w vv : Int) (hat : U64 at') (hix : I64 ix) (hvv : U64 vv) :
    Calls Try.prog 14 #[.pointer (some ⟨g, 0, none⟩), .pointer (some ⟨gr, 0, none⟩), .agg #[.int .i64 5, .int .i64 T, .bool nr, .int .i64 ix, .int .u64 at', .int .i64 w, .int .u64 vv]] W fun e W' => BV e ∧ OuV N B W g v i q W' := by
  have HS : Hid (∀ W1, W1 = W.alloc (.cells #[.int .i64 5, .int .i64 T, .bool nr, .int .i64 ix, .int .u64 at', .int .i64 w, .int .u64 vv] 32) → Rdy N B W Br g gr v vr Lr i q W.heap.size 5 T nr ix at' w vv W1) := by
    rintro _ rfl
    have hk : Kp W (W.alloc (.cells #[.int .i64 5, .int .i64 T, .bool nr, .int .i64 ix, .int .u64 at', .int .i64 w, .int .u64 vv] 32)) := (Kp.rfl W).new _
    obtain ⟨bv, L, Qs, h1, h2, h3⟩ := h
    exact ⟨⟨bv, L, Qs, h1.refar hk _ (fun j hj => by
      rcases hj with hj | rfl
      · exact .inl (hF j hj)
      · exact .inr ⟨Nat.le_refl _, by rw [World.size_alloc]; omega⟩), h2, h3⟩, hr.kp hk, heap_alloc_new W _, fun W0 _ h0 => h0.next hk, hr.box.lt, fun k hk => (hr.lt hk).2, hB⟩
  have HHN := Lib.hid hN
  have HHI := Lib.hid hi
  have HHT := Lib.hid hT
  have HAT := Lib.hid hat
  have HIX := Lib.hid hix
  have HVV := Lib.hid hvv
  clear h hN hi hr hF hB hT hat hix hvv
  go_enter Try.func14, Try.ntmps14
  go_wp2_with fail
  have HS1 := Lib.hid (HS.out _ rfl)
  generalize W.alloc (.cells #[.int .i64 5, .int .i64 T, .bool nr, .int .i64 ix, .int .u64 at', .int .i64 w, .int .u64 vv] 32) = w1 at *
  clear HS
  obtain ⟨s, hs⟩ : ∃ s, s = W.heap.size := ⟨_, rfl⟩
  rw [← hs] at HS1 ⊢
  clear hs
  obtain ⟨ga, c, hrd⟩ := HS1.out.r.rd
  have hu := hrd.head
  have HATIN := Lib.hid (at_in hrd)
  have hn16 := HS1.out.r.few
  obtain ⟨n, hn⟩ : ∃ n, n = Lr.length := ⟨_, rfl⟩
  rw [← hn] at hu hn16 HATIN
  obtain ⟨A, hA⟩ : ∃ A, A = (if n = 0 then none else some (⟨ga, 0, none⟩ : Addr)) := ⟨_, rfl⟩
  obtain ⟨cc, hcc⟩ : ∃ cc, cc = (if n = 0 then 0 else c) := ⟨_, rfl⟩
  rw [← hA, ← hcc] at hu
  rw [← hA] at HATIN
  have HC0 := Lib.hid (HS1.out.o.cells hu)
  have hsl := HS1.out.o.lt
  have hgl := HS1.out.r.box.lt
  obtain ⟨z0, z1, z2, z3, z4, z5, z6, z7⟩ := HC0.out
  clear hn hA hcc hrd hu
  go_region_held3 (fun w' => w'.cell? ⟨s, 0, none⟩ = some (.int .i64 5) ∧ w'.cell? ⟨s, 1, none⟩ = some (.int .i64 T) ∧ w'.cell? ⟨s, 2, none⟩ = some (.bool nr) ∧ w'.cell? ⟨s, 3, none⟩ = some (.int .i64 ix) ∧ w'.cell? ⟨s, 4, none⟩ = some (.int .u64 at') ∧ w'.cell? ⟨s, 5, none⟩ = some (.int .i64 w) ∧ w'.cell? ⟨s, 6, none⟩ = some (.int .u64 vv) ∧ w'.cell? ⟨gr, 0, none⟩ = some (.slice A n cc))
    (first | exact HC0.out | exact HC1.out)
    ((go_at_call 18; refine (at_any 5 T nr ix at' w vv A n cc _ HAT.out HIX.out hn16 (HATIN.out.kp (Kp.rfl _).draw)).mono ?_; rintro e w2 ⟨x, rfl, hx, hk2⟩; have HK2 := Lib.hid ((Kp.rfl w1).draw.next hk2); have HX := Lib.hid hx; have HC1 := Lib.hid (show C8 w2 s gr 5 T nr ix at' w vv (.slice A n cc) from ⟨(HK2.out.cell (p := ⟨s, 0, none⟩) hsl).trans HC0.out.1, (HK2.out.cell (p := ⟨s, 1, none⟩) hsl).trans HC0.out.2.1, (HK2.out.cell (p := ⟨s, 2, none⟩) hsl).trans HC0.out.2.2.1, (HK2.out.cell (p := ⟨s, 3, none⟩) hsl).trans HC0.out.2.2.2.1, (HK2.out.cell (p := ⟨s, 4, none⟩) hsl).trans HC0.out.2.2.2.2.1, (HK2.out.cell (p := ⟨s, 5, none⟩) hsl).trans HC0.out.2.2.2.2.2.1, (HK2.out.cell (p := ⟨s, 6, none⟩) hsl).trans HC0.out.2.2.2.2.2.2.1, (HK2.out.cell (p := ⟨gr, 0, none⟩) hgl).trans HC0.out.2.2.2.2.2.2.2⟩)))
  have HR2 := Lib.hid (HS1.out.next HK2.out)
  clear HC1 hk2 hx z0 z1 z2 z3 z4 z5 z6 z7
  have x0 := HR2.out.o.cell 0
  have x1 := HR2.out.o.cell 1
  have x5 := HR2.out.o.cell 5
  have x6 := HR2.out.o.cell 6
  simp only [List.getElem?_cons_zero, List.getElem?_cons_succ] at x0 x1 x5 x6
  have HD2 := Lib.hid (HR2.out.next (Kp.rfl _).draw)
  have HC2 := Lib.hid HD2.out.aft.c3
  go_wp2_with fail
  go_region_held3 (fun w' => w'.cell? ⟨s, 1, none⟩ = some (.int .i64 T) ∧ w'.cell? ⟨s, 5, none⟩ = some (.int .i64 w) ∧ w'.cell? ⟨s, 6, none⟩ = some (.int .u64 vv))
    (first | exact HC2.out | exact HC3.out | exact HC4.out)
    ((first | (go_at_call 22; refine (drain_oi HD2.out.m T HHT.out).mono ?_; rintro e w3 ⟨⟨r1, rfl⟩, hm3, hf3⟩; have HR3 := Lib.hid (HD2.out.byM hm3 hf3); have HC3 := Lib.hid HR3.out.aft.c3) | (go_at_call 36; refine (rdrain_c HR3.out.r T).mono ?_; rintro e w4 ⟨⟨r2, rfl⟩, hc4⟩; have HA4 := Lib.hid (HR3.out.byR hc4); have HC4 := Lib.hid HA4.out.c3)))
  go_wp2_with fail
  go_ret
  exact ⟨⟨_, rfl⟩, HA4.out.out _ (by omega)⟩
set_option maxRecDepth 100000 in
set_option maxHeartbeats 8000000 in
theorem step_flush {N Br g gr : Nat} {B : Bs} {v vr : Value} {Lr : List Ar} {i : Nat} {q : Sto} {W : World} (h : OI N B W g v i q) (hN : N < 900) (hi : i < 8) (hr : RS Br W gr vr noRows Lr) (hF : ∀ k, MBlk gr vr Lr k → B.f k) (hB : B.b ≤ Br)
    (T : Int) (hT : T ≠ i) (nr : Bool) (ix at' w vv : Int) (hat : U64 at') (hix : I64 ix) (hvv : U64 vv) :
    Calls Try.prog 14 #[.pointer (some ⟨g, 0, none⟩), .pointer (some ⟨gr, 0, none⟩), .agg #[.int .i64 6, .int .i64 T, .bool nr, .int .i64 ix, .int .u64 at', .int .i64 w, .int .u64 vv]] W fun e W' => BV e ∧ OuV N B W g v i q W' := by
  have HS : Hid (∀ W1, W1 = W.alloc (.cells #[.int .i64 6, .int .i64 T, .bool nr, .int .i64 ix, .int .u64 at', .int .i64 w, .int .u64 vv] 32) → Rdy N B W Br g gr v vr Lr i q W.heap.size 6 T nr ix at' w vv W1) := by
    rintro _ rfl
    have hk : Kp W (W.alloc (.cells #[.int .i64 6, .int .i64 T, .bool nr, .int .i64 ix, .int .u64 at', .int .i64 w, .int .u64 vv] 32)) := (Kp.rfl W).new _
    obtain ⟨bv, L, Qs, h1, h2, h3⟩ := h
    exact ⟨⟨bv, L, Qs, h1.refar hk _ (fun j hj => by
      rcases hj with hj | rfl
      · exact .inl (hF j hj)
      · exact .inr ⟨Nat.le_refl _, by rw [World.size_alloc]; omega⟩), h2, h3⟩, hr.kp hk, heap_alloc_new W _, fun W0 _ h0 => h0.next hk, hr.box.lt, fun k hk => (hr.lt hk).2, hB⟩
  have HHN := Lib.hid hN
  have HHI := Lib.hid hi
  have HHT := Lib.hid hT
  have HAT := Lib.hid hat
  have HIX := Lib.hid hix
  have HVV := Lib.hid hvv
  clear h hN hi hr hF hB hT hat hix hvv
  go_enter Try.func14, Try.ntmps14
  go_wp2_with fail
  have HS1 := Lib.hid (HS.out _ rfl)
  generalize W.alloc (.cells #[.int .i64 6, .int .i64 T, .bool nr, .int .i64 ix, .int .u64 at', .int .i64 w, .int .u64 vv] 32) = w1 at *
  clear HS
  obtain ⟨s, hs⟩ : ∃ s, s = W.heap.size := ⟨_, rfl⟩
  rw [← hs] at HS1 ⊢
  clear hs
  obtain ⟨ga, c, hrd⟩ := HS1.out.r.rd
  have hu := hrd.head
  have HATIN := Lib.hid (at_in hrd)
  have hn16 := HS1.out.r.few
  obtain ⟨n, hn⟩ : ∃ n, n = Lr.length := ⟨_, rfl⟩
  rw [← hn] at hu hn16 HATIN
  obtain ⟨A, hA⟩ : ∃ A, A = (if n = 0 then none else some (⟨ga, 0, none⟩ : Addr)) := ⟨_, rfl⟩
  obtain ⟨cc, hcc⟩ : ∃ cc, cc = (if n = 0 then 0 else c) := ⟨_, rfl⟩
  rw [← hA, ← hcc] at hu
  rw [← hA] at HATIN
  have HC0 := Lib.hid (HS1.out.o.cells hu)
  have hsl := HS1.out.o.lt
  have hgl := HS1.out.r.box.lt
  obtain ⟨z0, z1, z2, z3, z4, z5, z6, z7⟩ := HC0.out
  clear hn hA hcc hrd hu
  go_region_held3 (fun w' => w'.cell? ⟨s, 0, none⟩ = some (.int .i64 6) ∧ w'.cell? ⟨s, 1, none⟩ = some (.int .i64 T) ∧ w'.cell? ⟨s, 2, none⟩ = some (.bool nr) ∧ w'.cell? ⟨s, 3, none⟩ = some (.int .i64 ix) ∧ w'.cell? ⟨s, 4, none⟩ = some (.int .u64 at') ∧ w'.cell? ⟨s, 5, none⟩ = some (.int .i64 w) ∧ w'.cell? ⟨s, 6, none⟩ = some (.int .u64 vv) ∧ w'.cell? ⟨gr, 0, none⟩ = some (.slice A n cc))
    (first | exact HC0.out | exact HC1.out)
    ((go_at_call 18; refine (at_any 6 T nr ix at' w vv A n cc _ HAT.out HIX.out hn16 (HATIN.out.kp (Kp.rfl _).draw)).mono ?_; rintro e w2 ⟨x, rfl, hx, hk2⟩; have HK2 := Lib.hid ((Kp.rfl w1).draw.next hk2); have HX := Lib.hid hx; have HC1 := Lib.hid (show C8 w2 s gr 6 T nr ix at' w vv (.slice A n cc) from ⟨(HK2.out.cell (p := ⟨s, 0, none⟩) hsl).trans HC0.out.1, (HK2.out.cell (p := ⟨s, 1, none⟩) hsl).trans HC0.out.2.1, (HK2.out.cell (p := ⟨s, 2, none⟩) hsl).trans HC0.out.2.2.1, (HK2.out.cell (p := ⟨s, 3, none⟩) hsl).trans HC0.out.2.2.2.1, (HK2.out.cell (p := ⟨s, 4, none⟩) hsl).trans HC0.out.2.2.2.2.1, (HK2.out.cell (p := ⟨s, 5, none⟩) hsl).trans HC0.out.2.2.2.2.2.1, (HK2.out.cell (p := ⟨s, 6, none⟩) hsl).trans HC0.out.2.2.2.2.2.2.1, (HK2.out.cell (p := ⟨gr, 0, none⟩) hgl).trans HC0.out.2.2.2.2.2.2.2⟩)))
  have HR2 := Lib.hid (HS1.out.next HK2.out)
  clear HC1 hk2 hx z0 z1 z2 z3 z4 z5 z6 z7
  have x0 := HR2.out.o.cell 0
  have x1 := HR2.out.o.cell 1
  have x5 := HR2.out.o.cell 5
  have x6 := HR2.out.o.cell 6
  simp only [List.getElem?_cons_zero, List.getElem?_cons_succ] at x0 x1 x5 x6
  have HD2 := Lib.hid (HR2.out.next (Kp.rfl _).draw)
  have HC2 := Lib.hid HD2.out.aft.c3
  go_wp2_with fail
  go_region_held3 (fun w' => w'.cell? ⟨s, 1, none⟩ = some (.int .i64 T) ∧ w'.cell? ⟨s, 5, none⟩ = some (.int .i64 w) ∧ w'.cell? ⟨s, 6, none⟩ = some (.int .u64 vv))
    (first | exact HC2.out | exact HC3.out | exact HC4.out)
    ((first | (go_at_call 26; refine (flush_oi HD2.out.m T HHT.out).mono ?_; rintro e w3 ⟨⟨r1, rfl⟩, hm3, hf3⟩; have HR3 := Lib.hid (HD2.out.byM hm3 hf3); have HC3 := Lib.hid HR3.out.aft.c3) | (go_at_call 37; refine (rflush_c HR3.out.r T).mono ?_; rintro e w4 ⟨⟨r2, rfl⟩, hc4⟩; have HA4 := Lib.hid (HR3.out.byR hc4); have HC4 := Lib.hid HA4.out.c3)))
  go_wp2_with fail
  go_ret
  exact ⟨⟨_, rfl⟩, HA4.out.out _ (by omega)⟩
set_option maxRecDepth 100000 in
set_option maxHeartbeats 8000000 in
theorem step_own {N Br g gr : Nat} {B : Bs} {v vr : Value} {Lr : List Ar} {i : Nat} {q : Sto} {W : World} (h : OI N B W g v i q) (hN : N < 900) (hi : i < 8) (hr : RS Br W gr vr noRows Lr) (hF : ∀ k, MBlk gr vr Lr k → B.f k) (hB : B.b ≤ Br)
    (T : Int) (hT : T ≠ i) (nr : Bool) (ix at' w vv : Int) (hat : U64 at') (hix : I64 ix) (hvv : U64 vv) :
    Calls Try.prog 14 #[.pointer (some ⟨g, 0, none⟩), .pointer (some ⟨gr, 0, none⟩), .agg #[.int .i64 7, .int .i64 T, .bool nr, .int .i64 ix, .int .u64 at', .int .i64 w, .int .u64 vv]] W fun e W' => BV e ∧ OuV N B W g v i q W' := by
  have HS : Hid (∀ W1, W1 = W.alloc (.cells #[.int .i64 7, .int .i64 T, .bool nr, .int .i64 ix, .int .u64 at', .int .i64 w, .int .u64 vv] 32) → Rdy N B W Br g gr v vr Lr i q W.heap.size 7 T nr ix at' w vv W1) := by
    rintro _ rfl
    have hk : Kp W (W.alloc (.cells #[.int .i64 7, .int .i64 T, .bool nr, .int .i64 ix, .int .u64 at', .int .i64 w, .int .u64 vv] 32)) := (Kp.rfl W).new _
    obtain ⟨bv, L, Qs, h1, h2, h3⟩ := h
    exact ⟨⟨bv, L, Qs, h1.refar hk _ (fun j hj => by
      rcases hj with hj | rfl
      · exact .inl (hF j hj)
      · exact .inr ⟨Nat.le_refl _, by rw [World.size_alloc]; omega⟩), h2, h3⟩, hr.kp hk, heap_alloc_new W _, fun W0 _ h0 => h0.next hk, hr.box.lt, fun k hk => (hr.lt hk).2, hB⟩
  have HHN := Lib.hid hN
  have HHI := Lib.hid hi
  have HHT := Lib.hid hT
  have HAT := Lib.hid hat
  have HIX := Lib.hid hix
  have HVV := Lib.hid hvv
  clear h hN hi hr hF hB hT hat hix hvv
  go_enter Try.func14, Try.ntmps14
  go_wp2_with fail
  have HS1 := Lib.hid (HS.out _ rfl)
  generalize W.alloc (.cells #[.int .i64 7, .int .i64 T, .bool nr, .int .i64 ix, .int .u64 at', .int .i64 w, .int .u64 vv] 32) = w1 at *
  clear HS
  obtain ⟨s, hs⟩ : ∃ s, s = W.heap.size := ⟨_, rfl⟩
  rw [← hs] at HS1 ⊢
  clear hs
  obtain ⟨ga, c, hrd⟩ := HS1.out.r.rd
  have hu := hrd.head
  have HATIN := Lib.hid (at_in hrd)
  have hn16 := HS1.out.r.few
  obtain ⟨n, hn⟩ : ∃ n, n = Lr.length := ⟨_, rfl⟩
  rw [← hn] at hu hn16 HATIN
  obtain ⟨A, hA⟩ : ∃ A, A = (if n = 0 then none else some (⟨ga, 0, none⟩ : Addr)) := ⟨_, rfl⟩
  obtain ⟨cc, hcc⟩ : ∃ cc, cc = (if n = 0 then 0 else c) := ⟨_, rfl⟩
  rw [← hA, ← hcc] at hu
  rw [← hA] at HATIN
  have HC0 := Lib.hid (HS1.out.o.cells hu)
  have hsl := HS1.out.o.lt
  have hgl := HS1.out.r.box.lt
  obtain ⟨z0, z1, z2, z3, z4, z5, z6, z7⟩ := HC0.out
  clear hn hA hcc hrd hu
  go_region_held3 (fun w' => w'.cell? ⟨s, 0, none⟩ = some (.int .i64 7) ∧ w'.cell? ⟨s, 1, none⟩ = some (.int .i64 T) ∧ w'.cell? ⟨s, 2, none⟩ = some (.bool nr) ∧ w'.cell? ⟨s, 3, none⟩ = some (.int .i64 ix) ∧ w'.cell? ⟨s, 4, none⟩ = some (.int .u64 at') ∧ w'.cell? ⟨s, 5, none⟩ = some (.int .i64 w) ∧ w'.cell? ⟨s, 6, none⟩ = some (.int .u64 vv) ∧ w'.cell? ⟨gr, 0, none⟩ = some (.slice A n cc))
    (first | exact HC0.out | exact HC1.out)
    ((go_at_call 18; refine (at_any 7 T nr ix at' w vv A n cc _ HAT.out HIX.out hn16 (HATIN.out.kp (Kp.rfl _).draw)).mono ?_; rintro e w2 ⟨x, rfl, hx, hk2⟩; have HK2 := Lib.hid ((Kp.rfl w1).draw.next hk2); have HX := Lib.hid hx; have HC1 := Lib.hid (show C8 w2 s gr 7 T nr ix at' w vv (.slice A n cc) from ⟨(HK2.out.cell (p := ⟨s, 0, none⟩) hsl).trans HC0.out.1, (HK2.out.cell (p := ⟨s, 1, none⟩) hsl).trans HC0.out.2.1, (HK2.out.cell (p := ⟨s, 2, none⟩) hsl).trans HC0.out.2.2.1, (HK2.out.cell (p := ⟨s, 3, none⟩) hsl).trans HC0.out.2.2.2.1, (HK2.out.cell (p := ⟨s, 4, none⟩) hsl).trans HC0.out.2.2.2.2.1, (HK2.out.cell (p := ⟨s, 5, none⟩) hsl).trans HC0.out.2.2.2.2.2.1, (HK2.out.cell (p := ⟨s, 6, none⟩) hsl).trans HC0.out.2.2.2.2.2.2.1, (HK2.out.cell (p := ⟨gr, 0, none⟩) hgl).trans HC0.out.2.2.2.2.2.2.2⟩)))
  have HR2 := Lib.hid (HS1.out.next HK2.out)
  clear HC1 hk2 hx z0 z1 z2 z3 z4 z5 z6 z7
  have x0 := HR2.out.o.cell 0
  have x1 := HR2.out.o.cell 1
  have x5 := HR2.out.o.cell 5
  have x6 := HR2.out.o.cell 6
  simp only [List.getElem?_cons_zero, List.getElem?_cons_succ] at x0 x1 x5 x6
  have HD2 := Lib.hid (HR2.out.next (Kp.rfl _).draw)
  have HC2 := Lib.hid HD2.out.aft.c3
  go_wp2_with fail
  go_region_held3 (fun w' => w'.cell? ⟨s, 1, none⟩ = some (.int .i64 T) ∧ w'.cell? ⟨s, 5, none⟩ = some (.int .i64 w) ∧ w'.cell? ⟨s, 6, none⟩ = some (.int .u64 vv))
    (first | exact HC2.out | exact HC3.out | exact HC4.out)
    ((first | (go_at_call 27; refine (own_oi HD2.out.m T w).mono ?_; rintro e w3 ⟨⟨r1, rfl⟩, hm3, hf3⟩; have HR3 := Lib.hid (HD2.out.byM hm3 hf3); have HC3 := Lib.hid HR3.out.aft.c3) | (go_at_call 38; refine (rown_any HR3.out.r T w).mono ?_; rintro e w4 ⟨⟨r2, rfl⟩, hc4⟩; have HA4 := Lib.hid (HR3.out.byR hc4); have HC4 := Lib.hid HA4.out.c3)))
  go_wp2_with fail
  go_ret
  exact ⟨⟨_, rfl⟩, HA4.out.out _ (by omega)⟩
end Go.Proofs.Ytlbkmdmnijmieaa
