/- Layer 9 (memory): copies of bytes, of an area. -/
import Derived.Test.YtlbkmdmnijmieaaMf
import Derived.Laws.AppendOwnNone
import Derived.Maps.AppendAt
import Derived.OneCell
import Derived.OwnWalk
import Derived.Lib.BufferMore
namespace Go.Proofs.Ytlbkmdmnijmieaa
open Go Go.RowKit Rp Go.Maps
open Cq (U64 I64 isW nb mask)

def Bytes8 (bs : List Int) : Prop := ∀ b ∈ bs, 0 ≤ b ∧ b ≤ 255
theorem infoU8 : (Try.prog.info? 5).map (fun i => (i.zero, i.size, i.bytes)) = some (some (.int .u8 0), 1, 1) := by kernel_rfl
set_option maxRecDepth 100000 in
/-- append of any slice of bytes onto bytes of the call's own -/
theorem wpList_append_src {w : World} {ops : Array Oper} {rest : List Oper} {o : Oper} {a : Act} {Q : Exit → Act → World → Prop} (hgd : o.guard = none) (s x : Operand)
    (ho : o.op = .call { callee := .builtin .append, args := #[s, x], argTypes := #[55, 55] })
    (base : Nat) (v : Value) (n : Nat) (xs : List Int) (hs : a.eval s = v) (hown : w.ownsRow base 5 1 v n (cellsOf xs)) (A : Option Addr) (m c : Nat) (ys : List Int) (hx : a.eval x = .slice A m c)
    (hm : ys.length = m) (hr : Reads w A ys) (hA : A = none → c = 0 ∧ m = 0) (hlen : n + m ≤ 2097152) (hbase : base ≤ w.heap.size)
    (h : ∀ v' w', w'.ownsRow base 5 1 v' (n + m) (cellsOf (xs ++ ys)) → w.grownBy w' v.ownBlock → (v'.ownBlock = v.ownBlock ∨ v'.ownBlock = some w.heap.size) → wpList Try.prog ops Q rest (a.put o.dst v') w') :
    wpList Try.prog ops Q (o :: rest) a w := by
  obtain ⟨i0, hi, hz0, hz1, hz2⟩ := info_parts infoU8
  cases A with
  | none =>
    obtain ⟨rfl, rfl⟩ := hA rfl
    have e : ys = [] := List.eq_nil_of_length_eq_zero hm
    subst e
    refine wpList_append_own_none hgd s x 55 ho base 5 i0 1 Try.underlying55 hi v n (cellsOf xs) hs hown hx ?_
    exact h v w (by rw [List.append_nil]; exact hown) ⟨rfl, rfl, rfl, Nat.le_refl _, fun _ _ _ => rfl⟩ (.inl rfl)
  | some ad =>
    refine wpList_append_own_at w hgd s x 55 ho base 5 i0 (.int .u8 0) 1 1 Try.underlying55 hi hz0 hz1 hz2 rfl (by decide) v n (cellsOf xs) hs hown ad m c (cellsOf ys) hx (by rw [cellsOf_length]; omega) ?_ ?_ (by unfold maxLen; omega) (by omega) hbase ?_
    · intro j u hu
      have hj : j < ys.length := by have := (List.getElem?_eq_some_iff.1 hu).1; simpa [cellsOf] using this
      rw [cellsOf_get ys j hj] at hu
      obtain ⟨g, off, e, _, hc⟩ := hr (by omega)
      injection e with e
      subst e
      rw [← hu]
      by_cases h0 : j = 0
      · subst h0; simpa [Addr.add] using hc 0 hj
      · simpa [Addr.add, h0] using hc j hj
    · intro u hu; obtain ⟨z, _, rfl⟩ := List.mem_map.1 hu; rfl
    · intro v' w' h1 h2 _ h4
      exact h v' w' (by rw [cellsOf_append]; exact h1) h2 h4
theorem own_none (W : World) (B : Nat) (hB : B ≤ W.heap.size) : (W.alloc (.cells #[] 5)).ownsRow B 5 1 (.slice (some ⟨W.heap.size, 0, none⟩) 0 0) 0 (cellsOf []) :=
  ⟨rfl, .inr ⟨W.heap.size, 0, #[], rfl, hB, heap_alloc_new W _, Nat.le_refl _, Nat.zero_le _, rfl, rfl⟩⟩
theorem own_slice {W : World} {B n : Nat} {v : Value} {bs : List Int} (h : W.ownsRow B 5 1 v n (cellsOf bs)) :
    ∃ A c, v = .slice A bs.length c ∧ n = bs.length ∧ Reads W A bs ∧ (A = none → bs = [] ∧ c = 0) ∧ bs.length ≤ c ∧ c ≤ maxLen ∧ ∀ p, A = some p → B ≤ p.block ∧ p.block < W.heap.size := by
  have hn : n = bs.length := by have := h.1; rw [cellsOf_length] at this; omega
  subst hn
  rcases h.2 with ⟨rfl, h0⟩ | ⟨k, cap, cur, rfl, hB, hk, h1, h2, h3, h4⟩
  · rw [h0]
    have e : bs = [] := List.eq_nil_of_length_eq_zero h0
    subst e
    exact ⟨none, 0, rfl, rfl, fun hp => absurd hp (by simp), fun _ => ⟨rfl, rfl⟩, Nat.le_refl _, Nat.zero_le _, fun p hp => by cases hp⟩
  · exact ⟨_, cap, rfl, rfl, own_reads (n := bs.length) h, fun e => (by cases e), h1, h2, fun p hp => by injection hp with hp; subst hp; exact ⟨hB, (Array.getElem?_eq_some_iff.1 hk).1⟩⟩
theorem own_keep {W W' : World} {B e size n : Nat} {v : Value} {xs : List Value} (h : W.ownsRow B e size v n xs) (hk : ∀ k, B ≤ k → v.ownBlock = some k → W'.heap[k]? = W.heap[k]?) : W'.ownsRow B e size v n xs := by
  refine ⟨h.1, ?_⟩
  rcases h.2 with hv | ⟨k, cap, cur, hv, hB, hg, hrest⟩
  · exact .inl hv
  · exact .inr ⟨k, cap, cur, hv, hB, by rw [hk k hB (by rw [hv]; rfl), hg], hrest⟩
theorem own_base {W : World} {B B' e size n : Nat} {v : Value} {xs : List Value} (h : W.ownsRow B e size v n xs) (hb : B' ≤ B) : W.ownsRow B' e size v n xs := by
  refine ⟨h.1, ?_⟩
  rcases h.2 with hv | ⟨k, cap, cur, hv, hB, hrest⟩
  · exact .inl hv
  · exact .inr ⟨k, cap, cur, hv, Nat.le_trans hb hB, hrest⟩
theorem own_kp {W W' : World} {B e size n : Nat} {v : Value} {xs : List Value} (h : W.ownsRow B e size v n xs) (k : Kp W W') : W'.ownsRow B e size v n xs := by
  refine ⟨h.1, ?_⟩
  rcases h.2 with hv | ⟨g, cap, cur, hv, hB, hg, hrest⟩
  · exact .inl hv
  · exact .inr ⟨g, cap, cur, hv, hB, by rw [k.block g (Array.getElem?_eq_some_iff.1 hg).1, hg], hrest⟩
theorem heap_setRow (w : World) (g k : Nat) (cs : Array Value) (h : k ≠ g) : (w.setRow g cs).heap[k]? = w.heap[k]? := by
  have hne : ¬ g = k := fun e => h e.symm
  simp [World.setRow, Array.getElem?_modify, hne]
/-- a copy of bytes: a slice of the call's own -/
def ClV (n : Nat) (ys : List Int) (W : World) (e : Ending) (W' : World) : Prop :=
  ∃ A' c', e = .returned (.slice A' n c') ∧ W'.ownsRow W.heap.size 5 1 (.slice A' n c') n (cellsOf ys) ∧ Kp W W'
set_option maxRecDepth 100000 in
theorem cloneb_any (A : Option Addr) (n c : Nat) (ys : List Int) (W : World) (hy : ys.length = n) (hr : Reads W A ys) (hA : A = none → c = 0 ∧ n = 0) (hn : n ≤ 1048576) :
    Calls Try.prog 52 #[.slice A n c] W (ClV n ys W) := by
  cases A with
  | none =>
    obtain ⟨rfl, rfl⟩ := hA rfl
    have e : ys = [] := List.eq_nil_of_length_eq_zero hy
    subst e
    clear hr hA hy hn
    have hnil : ∀ w : World, (binOp .eql 55 (.slice none 0 0) (.slice none 0 0)).run Try.prog w = .ok (.bool true) w := fun w => Lib.run_eql_slice_nil_nil w _ _ Try.underlying55
    go_enter Try.func52, Try.ntmps52
    go_wp2_with fail
    go_ret
    exact ⟨none, 0, rfl, World.ownsRow_nil _ _ _ _, Kp.rfl _⟩
  | some ad =>
    have HR := Lib.hid hr
    have HY := Lib.hid hy
    have HN := Lib.hid hn
    clear hr hA hy hn
    have hsz : W.heap.size < (W.alloc (.cells #[] 5)).heap.size := by simp
    have hK1 := Lib.hid ((Kp.rfl W).new (.cells #[] 5))
    have hrd : Hid (Reads (W.alloc (.cells #[] 5)) (some ad) ys) := fun hp => by
      obtain ⟨g, off, e, hg, hc⟩ := HR.out hp
      exact ⟨g, off, e, by simp; omega, fun i hi => (hK1.out.cell (p := ⟨g, off + i, none⟩) hg).trans (hc i hi)⟩
    have hnil : ∀ w : World, (binOp .eql 55 (.slice (some ad) n c) (.slice none 0 0)).run Try.prog w = .ok (.bool false) w := fun w => Lib.run_eql_slice_some_nil w _ _ _ Try.underlying55
    have hown := Lib.hid (own_none W W.heap.size (Nat.le_refl _))
    go_enter Try.func52, Try.ntmps52
    go_wp2_with (at_builtin; refine wpList_append_src rfl _ _ rfl W.heap.size _ 0 [] rfl hown.out (some ad) n c ys rfl HY.out hrd.out (fun h => by cases h) (by have := HN.out; omega) (by simp) ?_)
    intro v' w' h1 h2 h3
    obtain ⟨A', c', hv, _, _⟩ := own_slice h1
    rw [HY.out] at hv
    subst hv
    have H : Hid (ClV n ys W (.returned (.slice A' n c')) w') := ⟨A', c', rfl, h1, by
      refine ⟨h2.os.trans rfl, h2.tape.trans rfl, h2.output.trans rfl, Nat.le_trans (by simp) h2.size, fun k hk => ?_⟩
      rw [h2.block k (by simp; omega) (by simp [Value.ownBlock]; omega)]
      exact Below.heap_alloc W _ k hk⟩
    clear h1 h2 h3
    go_wp2_with fail
    go_ret
    exact H.out
theorem results_cell {P : Program} {fn : Func} {p : Tmp} {ty : TypeId} (h : fn.results = #[.cell p ty]) (tmps : Array Value) (w : World) (g : Nat) (t : TypeId) (cs : Array Value) (fr : Nat × Nat) (d : TypeDesc)
    (hp : tmps.getD p undef = .pointer (some ⟨g, 0, none⟩)) (hg : w.heap[g]? = some (.cells cs t fr))
    (hu : P.underlying ty = some d) (hd : (match d with | .struct _ | .array _ _ => true | _ => false) = true) (hi : (P.info? ty).map (·.size) = some cs.size) :
    (results fn tmps).run P w = .ok (.agg cs) w := by
  have hp' : tmps[p]?.getD undef = .pointer (some ⟨g, 0, none⟩) := by simpa using hp
  simp [results, h, hp', asAddr, run_loadVar_row w g t ty cs fr d hg hu hd hi]
def ClA (lo : Int) (n : Nat) (wr pv : Bool) (ys : List Int) (W : World) (e : Ending) (W' : World) : Prop :=
  ∃ A' c', e = .returned (.agg #[.int .u64 lo, .slice A' n c', .bool wr, .bool pv]) ∧ W'.ownsRow W.heap.size 5 1 (.slice A' n c') n (cellsOf ys) ∧ Kp W W'
set_option maxHeartbeats 2000000 in
theorem clonea_any (lo : Int) (A : Option Addr) (n c : Nat) (wr pv : Bool) (ys : List Int) (W : World) (hy : ys.length = n) (hr : Reads W A ys) (hA : A = none → c = 0 ∧ n = 0) (hn : n ≤ 1048576) :
    Calls Try.prog 31 #[.agg #[.int .u64 lo, .slice A n c, .bool wr, .bool pv]] W (ClA lo n wr pv ys W) := by
  obtain ⟨wb, hwb⟩ : ∃ wb, wb = (W.alloc (.cells #[.int .u64 lo, .slice A n c, .bool wr, .bool pv] 61)).alloc (.cells #[.int .u64 0, .slice none 0 0, .bool false, .bool false] 61) := ⟨_, rfl⟩
  have hk : Kp W wb := by rw [hwb]; exact ((Kp.rfl W).new _).new _
  have hrd : Reads wb A ys := fun hp => by
    obtain ⟨g, off, e, hg, hc⟩ := hr hp
    exact ⟨g, off, e, Nat.lt_of_lt_of_le hg hk.size, fun i hi => (hk.cell (p := ⟨g, off + i, none⟩) hg).trans (hc i hi)⟩
  have HC := Lib.hid (cloneb_any A n c ys wb hy hrd hA hn)
  have HB0 : Hid (wb.heap[W.heap.size]? = some (.cells #[.int .u64 lo, .slice A n c, .bool wr, .bool pv] 61 (0, 0))) := by
    rw [hwb]; exact (Below.heap_alloc _ _ _ (by simp)).trans (heap_alloc_new W _)
  have HB1 : Hid (wb.heap[W.heap.size + 1]? = some (.cells #[.int .u64 0, .slice none 0 0, .bool false, .bool false] 61 (0, 0))) := by
    rw [hwb]; have := heap_alloc_new (W.alloc (.cells #[.int .u64 lo, .slice A n c, .bool wr, .bool pv] 61)) (.cells #[.int .u64 0, .slice none 0 0, .bool false, .bool false] 61); rwa [World.size_alloc] at this
  have hsz : wb.heap.size = W.heap.size + 2 := by rw [hwb]; simp
  have HK := Lib.hid hk
  clear hk hrd hr hA hy
  go_enter Try.func31, Try.ntmps31
  go_wp2_with fail
  rw [← hwb]
  clear hwb
  refine HC.out.mono ?_
  rintro e w2 ⟨A', c', rfl, ho, hk2⟩
  have HK2 := Lib.hid hk2
  have HO := Lib.hid ho
  have b0 : w2.heap[W.heap.size]? = some (.cells #[.int .u64 lo, .slice A n c, .bool wr, .bool pv] 61 (0, 0)) := (hk2.block _ (by omega)).trans HB0.out
  have b1 : w2.heap[W.heap.size + 1]? = some (.cells #[.int .u64 0, .slice none 0 0, .bool false, .bool false] 61 (0, 0)) := (hk2.block _ (by omega)).trans HB1.out
  clear hk2 ho
  have c0 := cell_of_row w2 W.heap.size 0 _ _ _ b0
  have c1 := cell_of_row w2 W.heap.size 1 _ _ _ b0
  have c2 := cell_of_row w2 W.heap.size 2 _ _ _ b0
  have c3 := cell_of_row w2 W.heap.size 3 _ _ _ b0
  have f1 : w2.frozen? ⟨W.heap.size, 1, none⟩ = false := by simp [World.frozen?, b0]
  simp at c0 c1 c2 c3
  have HB1' := Lib.hid b1
  clear b0 b1
  have HZ : Hid ((w2.setCell ⟨W.heap.size, 1, none⟩ (.slice A' n c')).heap[W.heap.size + 1]? = some (.cells #[.int .u64 0, .slice none 0 0, .bool false, .bool false] 61 (0, 0))) := (Below.heap_setCell w2 ⟨W.heap.size, 1, none⟩ _ _ (by simp)).trans HB1'.out
  go_wp2_with (refine wpList_store_row rfl 61 _ _ rfl (W.heap.size + 1) #[.int .u64 lo, .slice A' n c', .bool wr, .bool pv] rfl rfl 61 _ HZ.out (by kernel_rfl) rfl (by kernel_rfl) ?_)
  refine bodyPost_ret (results_cell rfl _ _ (W.heap.size + 1) 61 #[.int .u64 lo, .slice A' n c', .bool wr, .bool pv] (0, 0) _ rfl (setRow_heap _ _ _ _ _ _ HZ.out) Try.underlying61 rfl (by kernel_rfl)) rfl ⟨A', c', rfl, ?_, ?_⟩
  · refine own_base (own_keep HO.out fun k hk _ => ?_) HK.out.size
    rw [heap_setRow _ _ _ _ (by omega)]
    exact Below.heap_setCell w2 ⟨W.heap.size, 1, none⟩ _ _ (by simp; omega)
  · exact ((HK.out.next HK2.out).put (p := ⟨W.heap.size, 1, none⟩) (Nat.le_refl _) _).row _ _ (by omega)
end Go.Proofs.Ytlbkmdmnijmieaa
