/- Layer 9 (memory): Load, of the code, where a thread may read. -/
import Derived.Test.YtlbkmdmnijmieaaMq
import Derived.Deep.RegionHeld3
namespace Go.Proofs.Ytlbkmdmnijmieaa
open Go Go.RowKit Go.Shelf Rp
open Cq (U64 I64 isW nb mask)
attribute [local go_sem] Oper.semAt_some

/-- what a store adds to what is seen: the number, the bits that are left -/
def stepS (x : Int) (s : Int × Int) (q : Sto) : Int × Int :=
  (bits .or .u64 s.1 (bits .and .u64 (bits .and .u64 (ovV q.a q.v x) (ovV q.a (mask q.w) x)) s.2), bits .andNot .u64 s.2 (ovV q.a (mask q.w) x))
def stS (x w : Int) (pre : List (Int × Sto)) : Int × Int := pre.foldl (fun s y => stepS x s y.2) (0, mask w)
theorem stS_snoc (x w : Int) (pre : List (Int × Sto)) (y : Int × Sto) : stS x w (pre ++ [y]) = stepS x (stS x w pre) y.2 := by simp [stS]
def LdV (L : List Ar) (x w : Int) (n : Nat) (Q : List Sto) (W : World) (e : Ending) (W' : World) : Prop :=
  ∃ r, e = .returned (.tuple #[.int .u64 r, .bool true]) ∧ ((∃ k, k ≤ Q.length ∧ (stS x w (lastK Q k)).2 = 0 ∧ r = (stS x w (lastK Q k)).1) ∨ r = bits .or .u64 (stS x w (lastK Q Q.length)).1 (bits .and .u64 (numF L x n) (stS x w (lastK Q Q.length)).2)) ∧ Kp W W'
def Kc3 (w : World) (a b c : Nat) (v0 v1 v2 : Value) : Prop := w.cell? ⟨a, 0, none⟩ = some v0 ∧ w.cell? ⟨b, 0, none⟩ = some v1 ∧ w.cell? ⟨c, 0, none⟩ = some v2
theorem kc3_kp {w w' : World} (k : Kp w w') {a b c : Nat} {v0 v1 v2 : Value} (ha : a < w.heap.size) (hb : b < w.heap.size) (hc : c < w.heap.size) (h : Kc3 w a b c v0 v1 v2) : Kc3 w' a b c v0 v1 v2 :=
  ⟨(k.cell (p := ⟨a, 0, none⟩) ha).trans h.1, (k.cell (p := ⟨b, 0, none⟩) hb).trans h.2.1, (k.cell (p := ⟨c, 0, none⟩) hc).trans h.2.2⟩
theorem kc3_set {w : World} {a b c : Nat} {v0 v1 v2 : Value} (h : Kc3 w a b c v0 v1 v2) (g : Nat) (u : Value) (j : Nat) (ha : a ≠ g) (hb : b ≠ g) (hc : c ≠ g) : Kc3 (w.setCell ⟨g, j, none⟩ u) a b c v0 v1 v2 :=
  ⟨(World.cell?_of_block (Below.heap_setCell w ⟨g, j, none⟩ u a ha)).trans h.1, (World.cell?_of_block (Below.heap_setCell w ⟨g, j, none⟩ u b hb)).trans h.2.1, (World.cell?_of_block (Below.heap_setCell w ⟨g, j, none⟩ u c hc)).trans h.2.2⟩
theorem kf_kp {W W' : World} (k : Kp W W') (B : Nat) : KeepsFrom B W W' := ⟨k.size, fun j _ _ hj _ => (k.block j (Array.getElem?_eq_some_iff.1 hj).1).trans hj⟩
set_option maxRecDepth 100000 in
set_option maxHeartbeats 4000000 in
theorem load_any {B g : Nat} {v : Value} {bv : List Value} {L : List Ar} {W : World} (h : MS B W g v bv L) (t : Nat) (ht : t < 8) (b : Value) (hb : bv[t]? = some b) (Q : List Sto) (hQ : QB B W b Q) (hl : Q.length ≤ 65536)
    (x : Int) (n : Nat) (hx : U64 x) (hm : mayB L t x n false = true) :
    Calls Try.prog 20 #[.pointer (some ⟨g, 0, none⟩), .int .i64 t, .int .u64 x, .int .i64 n] W (LdV L x n n Q W) := by
  obtain ⟨ga, c, hr⟩ := h.rd
  have ht8 : (t : Int) < 8 := by omega
  obtain ⟨w1, hw1⟩ : ∃ w1, w1 = ((W.alloc (.cells #[.int .u64 x] 30)).alloc (.cells #[.int .u64 0] 30)).alloc (.cells #[.bool false] 4) := ⟨_, rfl⟩
  have hk1 : Kp W w1 := by rw [hw1]; exact (((Kp.rfl W).new _).new _).new _
  have H := Lib.hid (may_any g ga c L t x n false w1 (hr.kp hk1) hx)
  rw [hm] at H
  have hs : w1.heap.size = W.heap.size + 3 := by rw [hw1]; simp
  have hb6 : Boxed w1 W.heap.size 30 (.int .u64 x) := by rw [hw1]; exact ((Boxed.new W _ _).alloc _).alloc _
  have hb8 : Boxed w1 (W.heap.size + 1) 30 (.int .u64 0) := by
    rw [hw1]; have := (Boxed.new (W.alloc (.cells #[.int .u64 x] 30)) 30 (.int .u64 0)).alloc (.cells #[.bool false] 4); rwa [World.size_alloc] at this
  have hb9 : Boxed w1 (W.heap.size + 2) 4 (.bool false) := by
    rw [hw1]; have := Boxed.new ((W.alloc (.cells #[.int .u64 x] 30)).alloc (.cells #[.int .u64 0] 30)) 4 (.bool false); rwa [World.size_alloc, World.size_alloc] at this
  have HM := Lib.hid h
  have HQ := Lib.hid hQ
  have HL := Lib.hid hl
  have HMB := Lib.hid hm
  have HX := Lib.hid hx
  have HBV := Lib.hid hb
  clear hm hr h hx hQ hl hb
  refine (callsIn_wide (n := 6)).1 ?_
  refine callsIn_of_wp_marks Try.func20 rfl trivial ?_ rfl
  simp only [Try.ntmps20, List.size_toArray, List.length_cons, List.length_nil, Nat.reduceAdd, Nat.reduceSub, Array.replicate_succ, Array.replicate_zero, List.push_toArray, List.append_toArray, List.nil_append, List.cons_append]
  gi_wp2
  rw [← hw1]
  refine ⟨trivial, ?_⟩
  refine (callsIn_wide.2 H.out).mono ?_; rintro e w2 ⟨rfl, hk⟩
  clear hw1
  have hb6 : Boxed w2 W.heap.size 30 (.int .u64 x) := (hk.block _ hb6.lt).trans hb6
  have hb8 : Boxed w2 (W.heap.size + 1) 30 (.int .u64 0) := (hk.block _ hb8.lt).trans hb8
  have hb9 : Boxed w2 (W.heap.size + 2) 4 (.bool false) := (hk.block _ hb9.lt).trans hb9
  have hkw : Kp W w2 := hk1.next hk
  have hs2 : W.heap.size + 3 ≤ w2.heap.size := by have := hk.size; omega
  clear hk hk1 H hs
  obtain ⟨m, hm⟩ : ∃ m, m = mask (n : Int) := ⟨_, rfl⟩
  have HMK := Lib.hid (fun W => mask_any (n : Int) W)
  rw [← hm] at HMK
  have HM1 := Lib.hid hm
  clear hm
  gi_wp2
  refine ⟨trivial, ?_⟩
  refine (callsIn_wide.2 (HMK.out _)).mono ?_; rintro e w3 ⟨rfl, rfl⟩
  obtain ⟨A, cb, hbv, hc1, hc2, hc3⟩ := HQ.out
  obtain ⟨N, hN⟩ : ∃ N, N = Q.length := ⟨_, rfl⟩
  rw [← hN] at hbv hc1 hc3
  subst hbv
  have hcell : ∀ o o', ((w2.alloc o).alloc o').cell? ⟨g, 1 + t, none⟩ = some (.slice A N cb) := fun o o' => by
    have k : Kp w2 ((w2.alloc o).alloc o') := ((Kp.rfl w2).new o).new o'
    have hg := HM.out.box.lt
    rw [k.cell (p := ⟨g, 1 + t, none⟩) (Nat.lt_of_lt_of_le hg hkw.size), hkw.cell (p := ⟨g, 1 + t, none⟩) hg, HM.out.box.cell, Nat.add_comm, List.getElem?_cons_succ, HBV.out]
  have HN := Lib.hid hN
  have HC3 := Lib.hid hc3
  clear hN hc3 hc1 hc2
  gi_wp2
  refine ⟨trivial, ?_⟩
  refine (back_in Fence.wide _ trivial rfl _ _ _ _).mono ?_; rintro e w3 ⟨rfl, rfl⟩
  clear hcell
  obtain ⟨w0, hw0⟩ : ∃ w0, ((w2.alloc (.cells #[.int .u64 0] 30)).alloc (.cells #[.int .u64 m] 30)).alloc (.cells #[.slice A N cb] 68) = w0 := ⟨_, rfl⟩
  have hsz : ((w2.alloc (.cells #[.int .u64 0] 30)).alloc (.cells #[.int .u64 m] 30)).heap.size = w2.heap.size + 2 := by simp
  have hs0 : w2.heap.size + 3 ≤ w0.heap.size := by rw [← hw0]; simp
  have bS : Boxed w0 w2.heap.size 30 (.int .u64 0) := by rw [← hw0]; exact ((Boxed.new w2 _ _).alloc _).alloc _
  have bL : Boxed w0 (w2.heap.size + 1) 30 (.int .u64 m) := by
    rw [← hw0]; have := (Boxed.new (w2.alloc (.cells #[.int .u64 0] 30)) 30 (.int .u64 m)).alloc (.cells #[.slice A N cb] 68); rwa [World.size_alloc] at this
  have bB : Boxed w0 (w2.heap.size + 2) 68 (.slice A N cb) := by
    rw [← hw0]; have := Boxed.new ((w2.alloc (.cells #[.int .u64 0] 30)).alloc (.cells #[.int .u64 m] 30)) 68 (.slice A N cb); rwa [World.size_alloc, World.size_alloc] at this
  have hk0 : Kp w2 w0 := by rw [← hw0]; exact (((Kp.rfl w2).new _).new _).new _
  have b6 : Boxed w0 W.heap.size 30 (.int .u64 x) := (hk0.block _ hb6.lt).trans hb6
  have b8 : Boxed w0 (W.heap.size + 1) 30 (.int .u64 0) := (hk0.block _ hb8.lt).trans hb8
  have b9 : Boxed w0 (W.heap.size + 2) 4 (.bool false) := (hk0.block _ hb9.lt).trans hb9
  have hkw0 : Kp W w0 := hkw.next hk0
  gi_wp2
  clear hw0 hsz hb6 hb8 hb9
  have HQR : Hid (QRd W.heap.size w0 A Q) := fun hp => by
    obtain ⟨gb, off, cur, e, hB, hg, hc⟩ := HC3.out (by rw [HN.out]; exact hp)
    have hlt := (Array.getElem?_eq_some_iff.1 hg).1
    refine ⟨gb, off, e, hlt, fun i q hq k hk => ?_⟩
    rw [hkw0.cell (p := ⟨gb, off + i * 3 + k, none⟩) hlt, cell_of_row W gb _ cur _ _ hg]
    exact hc i q hq k hk
  have hcB : w0.cell? ⟨w2.heap.size + 2, 0, none⟩ = some (.slice A Q.length cb) := by rw [← HN.out]; exact bB.cell
  have hst0 : stS x n [] = (0, m) := by rw [HM1.out]; rfl
  refine wpIn_rangeFunc_ownH rfl (by decide) (gf := 60) (lb := #[.pointer (some ⟨w2.heap.size + 2, 0, none⟩)]) rfl trivial (enters_of Try.func60 (by kernel_rfl) rfl)
    (back_stops Fence.wide 5 trivial rfl (by decide) (w2.heap.size + 2) W.heap.size A cb Q (by have := HL.out; omega) w0 (by omega) (by omega) hcB HQR.out) KB.trans (fun W' l o o' hl h1 h2 h3 => ⟨belowK_b (w := w0) (by omega) W' l o o' hl h1 h2 h3, World.putObj_heap_other (by omega)⟩) (Below.refl _ _) (fun _ => rfl)
    (fun pre W' => ((((((Boxed W' W.heap.size 30 (.int .u64 x) ∧ Boxed W' (W.heap.size + 1) 30 (.int .u64 0)) ∧ Boxed W' (W.heap.size + 2) 4 (.bool false)) ∧ Boxed W' w2.heap.size 30 (.int .u64 (stS x n pre).1)) ∧ Boxed W' (w2.heap.size + 1) 30 (.int .u64 (stS x n pre).2)) ∧ Boxed W' (w2.heap.size + 2) 68 (.slice A N cb)) ∧ Below W.heap.size W W'))
    (fun c pre W' => (((c = .ret ∧ (stS x n pre).2 = 0) ∧ Boxed W' (W.heap.size + 1) 30 (.int .u64 (stS x n pre).1)) ∧ Boxed W' (W.heap.size + 2) 4 (.bool true)) ∧ Below W.heap.size W W')
    (OwnFrom.and (OwnFrom.and (OwnFrom.and (OwnFrom.and (OwnFrom.and (OwnFrom.and (Own.from (boxed_own _ _ _) _) (Own.from (boxed_own _ _ _) _)) (Own.from (boxed_own _ _ _) _)) (Own.from (boxed_own _ _ _) _)) (Own.from (boxed_own _ _ _) _)) (Own.from (boxed_own _ _ _) _)) (ownFrom_below (Nat.le_refl _) (by omega)))
    (fun c => OwnFrom.and (OwnFrom.and (OwnFrom.and (ownFrom_pure _ _) (Own.from (boxed_own _ _ _) _)) (Own.from (boxed_own _ _ _) _)) (ownFrom_below (Nat.le_refl _) (by omega)))
    ⟨⟨⟨⟨⟨⟨b6, b8⟩, b9⟩, by rw [hst0]; exact bS⟩, by rw [hst0]; exact bL⟩, bB⟩, hkw0⟩
    (fun y a' W' => ∃ Bx, w2.heap.size + 2 < Bx ∧ W'.heap[Bx]? = some (.cells #[.int .u64 y.2.a, .int .i64 y.2.w, .int .u64 y.2.v] 77 (0, 0)) ∧ a' = { tmps := #[.pointer (some ⟨g, 0, none⟩), .int .i64 t, .int .u64 x, .int .i64 n, undef, undef, .pointer (some ⟨W.heap.size, 0, none⟩), undef, .pointer (some ⟨W.heap.size + 1, 0, none⟩), .pointer (some ⟨W.heap.size + 1 + 1, 0, none⟩), .pointer (some ⟨w2.heap.size, 0, none⟩), .pointer (some ⟨w2.heap.size + 1, 0, none⟩), undef, .pointer (some ⟨Bx, 0, none⟩), undef, undef, .pointer (some ⟨g, 0, none⟩), .int .i64 t, .int .u64 x, .int .i64 n, .bool true, .bool false, .int .i64 n, .int .u64 m, .pointer (some ⟨g, 0, none⟩), .int .i64 t, .pointer (some ⟨g, 0, none⟩), .pointer (some ⟨g, 1, none⟩), .pointer (some ⟨g, 1 + t, none⟩), .slice A N cb, .func (.func 60) #[] #[.pointer (some ⟨w2.heap.size + 2, 0, none⟩)], .int .i64 y.1, .agg #[.int .u64 y.2.a, .int .i64 y.2.w, .int .u64 y.2.v], undef, undef, undef, undef, undef, undef, undef, undef, undef, undef, undef, undef, undef, undef, undef, undef, undef, undef, undef, undef, undef, undef, undef, undef, undef, undef, undef], defers := [] })
    (fun y a' _ X Y row hs hg hr => by
      obtain ⟨Bx, h1, h2, h3⟩ := hs
      refine ⟨Bx, h1, (hg.block Bx (Array.getElem?_eq_some_iff.1 h2).1 (fun e => ?_)).trans h2, h3⟩
      obtain ⟨_, o, ho, hc⟩ := hr Bx e.symm
      rw [h2] at ho
      cases ho
      cases hc)
    ?assign ?body ?done ?stop
  case assign =>
    rintro l pre y W' K ⟨⟨⟨⟨⟨⟨c6, c8⟩, c9⟩, cS⟩, cL⟩, cB⟩, hBl⟩ hK
    gi_wp2
    exact hK _ _ ((KeepsOthers.alloc _ _).from _) ⟨(Below.refl _ W').alloc hBl.size _, Below.heap_alloc _ _ _ cB.lt⟩ ⟨⟨⟨⟨⟨⟨c6.alloc _, c8.alloc _⟩, c9.alloc _⟩, cS.alloc _⟩, cL.alloc _⟩, cB.alloc _⟩, hBl.alloc hBl.size _⟩ ⟨W'.heap.size, cB.lt, heap_alloc_new W' _, rfl⟩
  case body =>
    rintro l pre y a' W' hl ⟨r, hr⟩ ⟨⟨⟨⟨⟨⟨c6, c8⟩, c9⟩, cS⟩, cL⟩, cB⟩, hBl⟩ ⟨Bx, hBx, bX, rfl⟩ hlt
    obtain ⟨s1, hs1⟩ : ∃ s1, s1 = (stS x n pre).1 := ⟨_, rfl⟩
    obtain ⟨s2, hs2⟩ : ∃ s2, s2 = (stS x n pre).2 := ⟨_, rfl⟩
    rw [← hs1] at cS
    rw [← hs2] at cL
    have HS := Lib.hid (stS_snoc x n pre y)
    have HS1 := Lib.hid hs1
    have HS2 := Lib.hid hs2
    have HOV := Lib.hid (fun W => over_any y.2.a y.2.w y.2.v x W y.2.hv)
    obtain ⟨v1, hv1⟩ : ∃ v1, v1 = ovV y.2.a y.2.v x := ⟨_, rfl⟩
    obtain ⟨v2, hv2⟩ : ∃ v2, v2 = ovV y.2.a (mask y.2.w) x := ⟨_, rfl⟩
    rw [← hv1, ← hv2] at HOV
    have HV1 := Lib.hid hv1
    have HV2 := Lib.hid hv2
    clear hs1 hs2 hv1 hv2 hlt
    have x0 := cell_of_row W' Bx 0 _ _ _ bX
    have x1 := cell_of_row W' Bx 1 _ _ _ bX
    have x2 := cell_of_row W' Bx 2 _ _ _ bX
    simp at x0 x1 x2
    have x6 := c6.cell
    gi_wp2
    refine ⟨trivial, ?_⟩
    refine (CallsIn.inRound l (callsIn_wide.2 (HOV.out _))).mono ?_
    rintro e w4 ⟨rfl, hk4⟩
    have d8 : Boxed w4 (W.heap.size + 1) 30 (.int .u64 0) := (hk4.block _ c8.lt).trans c8
    have d9 : Boxed w4 (W.heap.size + 2) 4 (.bool false) := (hk4.block _ c9.lt).trans c9
    have d6 : Boxed w4 W.heap.size 30 (.int .u64 x) := (hk4.block _ c6.lt).trans c6
    have dS : Boxed w4 w2.heap.size 30 (.int .u64 s1) := (hk4.block _ cS.lt).trans cS
    have dL : Boxed w4 (w2.heap.size + 1) 30 (.int .u64 s2) := (hk4.block _ cL.lt).trans cL
    have dB : Boxed w4 (w2.heap.size + 2) 68 (.slice A N cb) := (hk4.block _ cB.lt).trans cB
    have p8 := d8.cell
    have p9 := d9.cell
    have pS := dS.cell
    have pL := dL.cell
    have f8 := d8.frozen
    have f9 := d9.frozen
    have fS := dS.frozen
    have fL := dL.frozen
    have hBl4 : Below W.heap.size W w4 := hBl.trans (hk4.mono hBl.size)
    clear c6 c8 c9 cS cL x0 x1 x2 x6
    gi_wp2
    · rename_i hz
      have hz' : bits .andNot .u64 s2 v2 = 0 := by simpa using hz
      have e1 := dS.set (.int .u64 (bits .or .u64 s1 (bits .and .u64 (bits .and .u64 v1 v2) s2)))
      refine ⟨((((((kf_kp hk4 _).trans ((KeepsOthers.setCell _ _ _).from _)).trans ((KeepsOthers.setCell _ _ _).from _)).trans ((KeepsOthers.setCell _ _ _).from _)).trans ((KeepsOthers.setCell _ _ _).from _))), ⟨⟨⟨rfl, ?_⟩, ?_⟩, ?_⟩, ?_⟩
      · rw [HS.out]; unfold stepS; rw [← HS2.out, ← HV2.out]; exact hz'
      · rw [HS.out]; unfold stepS; rw [← HS1.out, ← HS2.out, ← HV2.out, ← HV1.out]
        exact ((((d8.other (by omega) _).other (by omega) _).set _).other (by omega) _)
      · exact ((((d9.other (by omega) _).other (by omega) _).other (by omega) _).set _)
      · exact (((hBl4.setCell (p := ⟨w2.heap.size, 0, none⟩) (by simp; omega) _).setCell (p := ⟨w2.heap.size + 1, 0, none⟩) (by simp; omega) _).setCell (p := ⟨W.heap.size + 1, 0, none⟩) (by simp) _).setCell (p := ⟨W.heap.size + 1 + 1, 0, none⟩) (by simp; omega) _
    · refine ⟨(((kf_kp hk4 _).trans ((KeepsOthers.setCell _ _ _).from _)).trans ((KeepsOthers.setCell _ _ _).from _)), ⟨?_, ?_⟩, ⟨⟨⟨⟨⟨⟨?_, ?_⟩, ?_⟩, ?_⟩, ?_⟩, ?_⟩, ?_⟩⟩
      · exact ((hk4.mono hBl.size).setCell (p := ⟨w2.heap.size, 0, none⟩) (by simp; omega) _).setCell (p := ⟨w2.heap.size + 1, 0, none⟩) (by simp; omega) _
      · exact ((dB.other (by omega) _).other (by omega) _ : Boxed _ _ _ _).trans cB.symm
      · exact (d6.other (by omega) _).other (by omega) _
      · exact (d8.other (by omega) _).other (by omega) _
      · exact (d9.other (by omega) _).other (by omega) _
      · rw [HS.out]; unfold stepS; rw [← HS1.out, ← HS2.out, ← HV2.out, ← HV1.out]
        exact (dS.set _).other (by omega) _
      · rw [HS.out]; unfold stepS; rw [← HS2.out, ← HV2.out]
        exact (dL.other (by omega) _).set _
      · exact (dB.other (by omega) _).other (by omega) _
      · exact (hBl4.setCell (p := ⟨w2.heap.size, 0, none⟩) (by simp; omega) _).setCell (p := ⟨w2.heap.size + 1, 0, none⟩) (by simp; omega) _
  case done =>
    rintro D ys W3 hD rfl ⟨⟨⟨⟨⟨⟨c6, c8⟩, c9⟩, cS⟩, cL⟩, cB⟩, hBl⟩ hK
    obtain ⟨s1, hs1⟩ : ∃ s1, s1 = (stS x n (lastK Q Q.length)).1 := ⟨_, rfl⟩
    obtain ⟨s2, hs2⟩ : ∃ s2, s2 = (stS x n (lastK Q Q.length)).2 := ⟨_, rfl⟩
    rw [← hs1] at cS
    rw [← hs2] at cL
    have HS1 := Lib.hid hs1
    have HS2 := Lib.hid hs2
    clear hs1 hs2
    have p6 := c6.cell
    have p8 := c8.cell
    have p9 := c9.cell
    have pS := cS.cell
    have pL := cL.cell
    have f8 := c8.frozen
    have f9 := c9.frozen
    have HK3 := Lib.hid hK
    have HBl := Lib.hid hBl
    have HC8 := Lib.hid c8
    have HC9 := Lib.hid c9
    have l8 := c8.lt
    have lS := cS.lt
    have lL := cL.lt
    clear hK hBl c6 c8 c9 cS cL cB
    gi_wp2
    refine wpIn_wide.2 ?_
    have hN8 : Hid (n ≤ 8 ∧ 0 ≤ x ∧ x + n ≤ 18446744073709551616) := by
      have h1 := HMB.out
      unfold mayB at h1
      simp only [Bool.and_eq_true, decide_eq_true_eq] at h1
      obtain ⟨k, hk, _, hk8⟩ := isW_nat h1.1.1.2
      exact ⟨by omega, HX.out.1, h1.1.2⟩
    have HNUM : Hid (∀ wd, wd = W3.drew → Calls Try.prog 45 #[.pointer (some ⟨g, 0, none⟩), .int .u64 x, .int .i64 n] wd fun e W' => e = .returned (.int .u64 (numF L x n)) ∧ Kp wd W') := by
      rintro wd rfl
      have hM3 := (HM.out.kp HBl.out).kp (Kp.rfl W3).draw
      obtain ⟨ga, c, hr⟩ := hM3.rd
      exact number_any g ga c L x n _ hr hM3.drd hN8.out.1 hN8.out.2.1 hN8.out.2.2
    obtain ⟨nv, hnv⟩ : ∃ nv, nv = numF L x n := ⟨_, rfl⟩
    rw [← hnv] at HNUM
    have HNV := Lib.hid hnv
    have HS0 := Lib.hid (show Kc3 W3 W.heap.size w2.heap.size (w2.heap.size + 1) _ _ _ from ⟨p6, pS, pL⟩)
    clear hnv
    go_region_held3 (fun w' => w'.cell? ⟨W.heap.size, 0, none⟩ = some (.int .u64 x) ∧ w'.cell? ⟨w2.heap.size, 0, none⟩ = some (.int .u64 s1) ∧ w'.cell? ⟨w2.heap.size + 1, 0, none⟩ = some (.int .u64 s2))
      (first
        | exact HS0.out
        | exact HS1'.out
        | exact HS2'.out _ _ _ (by omega) (by omega) (by omega)
        | exact HS3'.out _ _ _ _ _ (by omega) (by omega) (by omega) (by omega) (by omega) (by omega))
      ((go_at_call 45; refine (HNUM.out _ rfl).mono ?_; rintro e w5 ⟨rfl, hk5⟩; have HK5 := Lib.hid ((Kp.rfl W3).draw.next hk5); have q8 : w5.cell? ⟨W.heap.size + 1, 0, none⟩ = some (.int .u64 0) := (HK5.out.cell (p := ⟨W.heap.size + 1, 0, none⟩) l8).trans p8; have q9 : w5.cell? ⟨W.heap.size + 1 + 1, 0, none⟩ = some (.bool false) := (HK5.out.cell (p := ⟨W.heap.size + 1 + 1, 0, none⟩) (show W.heap.size + 1 + 1 < W3.heap.size by omega)).trans p9; have g8 : w5.frozen? ⟨W.heap.size + 1, 0, none⟩ = false := (HK5.out.frozen (p := ⟨W.heap.size + 1, 0, none⟩) l8).trans f8; have g9 : w5.frozen? ⟨W.heap.size + 1 + 1, 0, none⟩ = false := (HK5.out.frozen (p := ⟨W.heap.size + 1 + 1, 0, none⟩) (show W.heap.size + 1 + 1 < W3.heap.size by omega)).trans f9; have HS1' := Lib.hid (kc3_kp HK5.out (by omega) (by omega) (by omega) HS0.out); have HS2' := Lib.hid (kc3_set HS1'.out); have HS3' := Lib.hid (fun a u b u' d (e1 : W.heap.size ≠ a) (e2 : w2.heap.size ≠ a) (e3 : w2.heap.size + 1 ≠ a) => kc3_set (kc3_set HS1'.out a u d e1 e2 e3) b u' 0)))
    have e8 : Boxed w5 (W.heap.size + 1) 30 (.int .u64 0) := (HK5.out.block _ HC8.out.lt).trans HC8.out
    have e9 : Boxed w5 (W.heap.size + 2) 4 (.bool false) := (HK5.out.block _ HC9.out.lt).trans HC9.out
    have hD3 := (Array.getElem?_eq_some_iff.1 HK3.out).1
    have hKD : w5.heap[D]? = some (.deferred (some [])) := (HK5.out.block D hD3).trans HK3.out
    have HE8 := Lib.hid e8
    have HE9 := Lib.hid e9
    have HKD := Lib.hid hKD
    have HBl5 := Lib.hid (HBl.out.trans (HK5.out.mono HBl.out.size))
    clear e8 e9 hKD q8 q9 g8 g9 p6 p8 p9 pS pL f8 f9 hk5
    gi_wp2
    have hD5 := (Array.getElem?_eq_some_iff.1 HKD.out).1
    refine ⟨by simp, .inl ⟨_, _, rfl, run_takeDeferred (((Below.heap_setCell _ _ _ D (by simp; omega)).trans (Below.heap_setCell _ _ _ D (by simp; omega))).trans HKD.out), ?_⟩⟩
    have e8 := ((HE8.out.set (.int .u64 (bits .or .u64 s1 (bits .and .u64 nv s2)))).other (B' := W.heap.size + 2) (by omega) (.bool true)).kept (grownBy_putObj' _ D (.deferred none)) (by simp; omega)
    have e9 := ((HE9.out.other (B' := W.heap.size + 1) (by omega) (.int .u64 (bits .or .u64 s1 (bits .and .u64 nv s2)))).set (.bool true)).kept (grownBy_putObj' _ D (.deferred none)) (by simp; omega)
    refine ⟨_, results_2cells rfl _ _ (W.heap.size + 1) (W.heap.size + 2) _ _ rfl rfl (load_u64 _ _ _ e8.cell) (load_bool _ _ _ e9.cell), _, rfl, .inr ?_, ?_⟩
    · rw [← HS1.out, ← HS2.out, ← HNV.out]
    · exact ((HBl5.out.setCell (p := ⟨W.heap.size + 1, 0, none⟩) (by simp) _).setCell (p := ⟨W.heap.size + 2, 0, none⟩) (by simp) _).trans (belowK_b (w := W) (Nat.le_refl _) _ D _ _ (by omega) (((Below.heap_setCell _ _ _ D (by simp; omega)).trans (Below.heap_setCell _ _ _ D (by simp; omega))).trans HKD.out) rfl rfl)
  case stop =>
    rintro D c pre W3 hD ⟨k, hk, rfl⟩ ⟨⟨⟨⟨rfl, hz⟩, c8⟩, c9⟩, hBl⟩ hK
    gi_wp2
    refine ⟨by simp, .inl ⟨_, _, rfl, run_takeDeferred hK, ?_⟩⟩
    have e8 := c8.kept (grownBy_putObj' _ D (.deferred none)) (by simp; omega)
    have e9 := c9.kept (grownBy_putObj' _ D (.deferred none)) (by simp; omega)
    refine ⟨_, results_2cells rfl _ _ (W.heap.size + 1) (W.heap.size + 2) _ _ rfl rfl (load_u64 _ _ _ e8.cell) (load_bool _ _ _ e9.cell), _, rfl, .inl ⟨k, hk, hz, rfl⟩, ?_⟩
    exact hBl.trans (belowK_b (w := W) (Nat.le_refl _) _ D _ _ (by omega) hK rfl rfl)
end Go.Proofs.Ytlbkmdmnijmieaa
