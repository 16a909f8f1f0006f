/- Walks of layer 2: the document's own bytes behind bytes. -/
import Derived.Test.YtfcooaafhpoobaaRpd
import Derived.Test.YtfcooaafhpoobaaRopq
namespace Go.Proofs.Ytfcooaafhpoobaa
open Go.RowKit Rp Go.Maps
open Cq (U64 I64 isW)

set_option maxRecDepth 100000 in
/-- append of any slice of bytes onto bytes of the call's own -/
theorem wpList_append_src {w : World} {ops : Array Oper} {rest : List Oper} {o : Oper} {a : Act} {Q : Exit → Act → World → Prop} (hgd : o.guard = none) (s x : Operand)
    (ho : o.op = .call { callee := .builtin .append, args := #[s, x], argTypes := #[22, 22] })
    (base : Nat) (v : Value) (n : Nat) (xs : List Int) (hs : a.eval s = v) (hown : w.ownsRow base 5 1 v n (cellsOf xs)) (A : Option Addr) (m c : Nat) (ys : List Int) (hx : a.eval x = .slice A m c)
    (hm : ys.length = m) (hr : Reads w A ys) (hA : A = none → c = 0 ∧ m = 0) (hlen : n + m ≤ 2097152) (hbase : base ≤ w.heap.size)
    (h : ∀ v' w', w'.ownsRow base 5 1 v' (n + m) (cellsOf (xs ++ ys)) → w.grownBy w' v.ownBlock → (v'.ownBlock = v.ownBlock ∨ v'.ownBlock = some w.heap.size) → wpList Try.prog ops Q rest (a.put o.dst v') w') :
    wpList Try.prog ops Q (o :: rest) a w := by
  obtain ⟨i0, hi, hz0, hz1, hz2⟩ := info_parts infoU8
  cases A with
  | none =>
    obtain ⟨rfl, rfl⟩ := hA rfl
    have e : ys = [] := List.eq_nil_of_length_eq_zero hm
    subst e
    refine wpList_append_own_none hgd s x 22 ho base 5 i0 1 Try.underlying22 hi v n (cellsOf xs) hs hown hx ?_
    exact h v w (by rw [List.append_nil]; exact hown) ⟨rfl, rfl, rfl, Nat.le_refl _, fun _ _ _ => rfl⟩ (.inl rfl)
  | some ad =>
    refine wpList_append_own_at w hgd s x 22 ho base 5 i0 (.int .u8 0) 1 1 Try.underlying22 hi hz0 hz1 hz2 rfl (by decide) v n (cellsOf xs) hs hown ad m c (cellsOf ys) hx (by rw [cellsOf_length]; omega) ?_ ?_ (by unfold maxLen; omega) (by omega) hbase ?_
    · intro j u hu
      have hj : j < ys.length := by have := (List.getElem?_eq_some_iff.1 hu).1; simpa [cellsOf] using this
      rw [cellsOf_get ys j hj] at hu
      obtain ⟨g, off, e, _, hc⟩ := hr (by omega)
      injection e with e
      subst e
      rw [← hu]
      by_cases h0 : j = 0
      · subst h0; simpa [Addr.add] using hc 0 hj
      · simpa [Addr.add, h0] using hc j hj
    · intro u hu; obtain ⟨z, _, rfl⟩ := List.mem_map.1 hu; rfl
    · intro v' w' h1 h2 _ h4
      exact h v' w' (by rw [cellsOf_append]; exact h1) h2 h4
/-- no bytes, of the call's own -/
theorem own_none (W : World) (B : Nat) (hB : B ≤ W.heap.size) : (W.alloc (.cells #[] 5)).ownsRow B 5 1 (.slice (some ⟨W.heap.size, 0, none⟩) 0 0) 0 (cellsOf []) :=
  ⟨rfl, .inr ⟨W.heap.size, 0, #[], rfl, hB, heap_alloc_new W _, Nat.le_refl _, Nat.zero_le _, rfl, rfl⟩⟩
/-- a value that owns bytes, as a slice -/
theorem own_slice {W : World} {B n : Nat} {v : Value} {bs : List Int} (h : W.ownsRow B 5 1 v n (cellsOf bs)) :
    ∃ A c, v = .slice A bs.length c ∧ n = bs.length ∧ Reads W A bs ∧ (A = none → bs = [] ∧ c = 0) ∧ bs.length ≤ c ∧ c ≤ maxLen ∧ ∀ p, A = some p → B ≤ p.block ∧ p.block < W.heap.size := by
  have hn : n = bs.length := by have := h.1; rw [cellsOf_length] at this; omega
  subst hn
  rcases h.2 with ⟨rfl, h0⟩ | ⟨k, cap, cur, rfl, hB, hk, h1, h2, h3, h4⟩
  · rw [h0]
    have e : bs = [] := List.eq_nil_of_length_eq_zero h0
    subst e
    exact ⟨none, 0, rfl, rfl, fun hp => absurd hp (by simp), fun _ => ⟨rfl, rfl⟩, Nat.le_refl _, Nat.zero_le _, fun p hp => by cases hp⟩
  · exact ⟨_, cap, rfl, rfl, own_reads (n := bs.length) h, fun e => (by cases e), h1, h2, fun p hp => by injection hp with hp; subst hp; exact ⟨hB, (Array.getElem?_eq_some_iff.1 hk).1⟩⟩
theorem behind_no (A : Option Addr) (n c : Nat) (A2 : Option Addr) (m c2 : Nat) (W : World) (hn : n ≤ 1048576) (_hm : m ≤ 2097152) (h : 1048576 < n + m) :
    Calls Try.prog 96 #[.slice A n c, .slice A2 m c2] W fun e W' => e = .returned (.tuple #[.slice A n c, .bool false]) ∧ W = W' := by
  have h2 : (1048576 : Int) - n < m := by omega
  clear h
  go_enter Try.func96, Try.ntmps96
  go_wp2_with fail
  go_ret2
  exact ⟨rfl, rfl⟩
set_option maxRecDepth 100000 in
theorem behind_ok (A : Option Addr) (bs : List Int) (c : Nat) (A2 : Option Addr) (ms : List Int) (c2 : Nat) (W : World) (hr : Reads W A bs) (hA : A = none → bs = [] ∧ c = 0) (hr2 : Reads W A2 ms) (hA2 : A2 = none → ms = [] ∧ c2 = 0) (h : bs.length + ms.length ≤ 1048576) :
    Calls Try.prog 96 #[.slice A bs.length c, .slice A2 ms.length c2] W fun e W' => ∃ v, e = .returned (.tuple #[v, .bool true]) ∧ W'.ownsRow W.heap.size 5 1 v (bs.length + ms.length) (cellsOf (bs ++ ms)) ∧ Below W.heap.size W W' := by
  obtain ⟨n, hn⟩ : ∃ n, n = bs.length := ⟨_, rfl⟩
  obtain ⟨m, hm⟩ : ∃ m, m = ms.length := ⟨_, rfl⟩
  have hal : Below W.heap.size W (W.alloc (.cells #[] 5)) := (Below.refl _ _).alloc (Nat.le_refl _) _
  have HO := Lib.hid (own_none W W.heap.size (Nat.le_refl _))
  have HR := Lib.hid (reads_below hr hal (Nat.le_refl _))
  have HR2 := Lib.hid (reads_below hr2 hal (Nat.le_refl _))
  have HR0 := Lib.hid hr2
  have HAL := Lib.hid hal
  have HA : Hid (A = none → c = 0 ∧ n = 0) := fun e => ⟨(hA e).2, by rw [hn, (hA e).1]; rfl⟩
  have HA2 : Hid (A2 = none → c2 = 0 ∧ m = 0) := fun e => ⟨(hA2 e).2, by rw [hm, (hA2 e).1]; rfl⟩
  have h2 : (m : Int) ≤ 1048576 - n := by omega
  have h3 : n ≤ 1048576 := by omega
  have h4 : m ≤ 1048576 := by omega
  have hsz : W.heap.size ≤ (W.alloc (.cells #[] 5)).heap.size := hal.size
  have HN := Lib.hid hn
  have HM := Lib.hid hm
  rw [← hn, ← hm]
  clear hr hr2 hA hA2 hal h hn hm
  go_enter Try.func96, Try.ntmps96
  go_wp2_with (at_builtin; refine wpList_append_src rfl _ _ rfl W.heap.size _ 0 [] rfl HO.out A n c bs rfl ?c1 HR.out HA.out ?c2 ?c3 ?_)
  case c1 => exact HN.out.symm
  case c2 => omega
  case c3 => exact hsz
  intro v1 w1 hown1 hgr1 hat1
  have hb1 : Below W.heap.size W w1 := HAL.out.grown hgr1 hsz (fun k hk => by simp [Value.ownBlock] at hk; omega)
  have HR2' := Lib.hid (HR2.out.chgp (S := fun k => k = W.heap.size) ⟨hgr1.os, hgr1.tape, hgr1.output, hgr1.size, fun k hk hn => hgr1.block k hk (fun e => hn (by simpa [Value.ownBlock] using e))⟩ (fun a ha hp => by
    intro e
    obtain ⟨g, off, e1, hg, _⟩ := HR0.out hp
    rw [ha] at e1; injection e1 with e1; rw [e1] at e; simp at e; omega))
  have HB1 := Lib.hid hb1
  have HOWN1 := Lib.hid hown1
  have hsz1 := hb1.size
  clear hown1 hgr1 hat1 hb1 HO HR2 HR HAL HR0
  go_wp2_with (at_builtin; refine wpList_append_src rfl _ _ rfl W.heap.size _ _ bs rfl HOWN1.out A2 m c2 ms rfl ?c1 HR2'.out HA2.out ?c2 ?c3 ?_)
  case c1 => exact HM.out.symm
  case c2 => omega
  case c3 => exact hsz1
  intro v2 w2 hown2 hgr2 hat2
  have HB2 : Hid (Below W.heap.size W w2) := HB1.out.grown hgr2 hsz1 (fun k hk => (HOWN1.out.lt k hk).1)
  have HOWN2 := Lib.hid hown2
  clear hown2 hgr2 hat2
  go_wp2_with fail
  go_ret2
  exact ⟨_, rfl, HOWN2.out, HB2.out⟩
theorem own_below {W W' : World} {B e n : Nat} {v : Value} {xs : List Value} (h : W.ownsRow B e 1 v n xs) (b : Below W.heap.size W W') : W'.ownsRow B e 1 v n xs := by
  refine ⟨h.1, ?_⟩
  rcases h.2 with hv | ⟨k, cap, cur, hv, hB, hk, hrest⟩
  · exact .inl hv
  · exact .inr ⟨k, cap, cur, hv, hB, by rw [b.block k (Array.getElem?_eq_some_iff.1 hk).1, hk], hrest⟩
/-- a slice of words -/
def WordsIn (W : World) (A : Option Addr) (m : Nat) (z : List Int) : Prop :=
  0 < m → ∃ b off, A = some ⟨b, off, none⟩ ∧ b < W.heap.size ∧ Words W b off m z
theorem WordsIn.below {W W' : World} {A : Option Addr} {m g : Nat} {z : List Int} (h : WordsIn W A m z) (b : Below g W W') (hg : W.heap.size ≤ g) : WordsIn W' A m z := by
  intro hp
  obtain ⟨k, off, e, hk, hc⟩ := h hp
  exact ⟨k, off, e, Nat.lt_of_lt_of_le hk b.size, fun i hi => by rw [World.cell?_of_block (b.block k (by omega))]; exact hc i hi⟩
theorem zget {z : List Int} (hu : ∀ x ∈ z, U64 x) (k : Nat) : U64 (z.getD k 0) := Cq.getD_u64 hu k
set_option maxRecDepth 100000 in
theorem nums_any (w : Nat) (hw : w ≤ 8) (A : Option Addr) (m c : Nat) (z : List Int) (W : World) (hz : z.length = m) (hu : ∀ x ∈ z, U64 x) (hm : m ≤ 1000) (hws : WordsIn W A m z) :
    Calls Try.prog 97 #[.int .i64 w, .slice A m c] W fun e W' => ∃ v, e = .returned v ∧ W'.ownsRow W.heap.size 5 1 v (w * m) (cellsOf (lows w z m)) ∧ Below W.heap.size W W' := by
  have HWS := Lib.hid hws
  have HU := Lib.hid hu
  have HZ := Lib.hid hz
  clear hws hu hz
  go_enter Try.func97, Try.ntmps97
  go_wp2_with fail
  go_loopw [5, 7, 10] (fun v _ i wr => ∃ k : Nat, k ≤ m ∧ i = .int .i64 k ∧ wr.ownsRow W.heap.size 5 1 v (w * k) (cellsOf (lows w z k)) ∧ Below W.heap.size W wr) (fun _ _ i _ => m - (intOf i).toNat)
  case atStart => exact ⟨0, by omega, rfl, World.ownsRow_nil _ _ _ _, Below.refl _ _⟩
  case round =>
    obtain ⟨k, hk, rfl, hown, hb⟩ := hrel
    by_cases hlt : k < m
    · obtain ⟨b, off, rfl, hbl, hc⟩ := (HWS.out.below hb (Nat.le_refl _)) (by omega)
      have hcell := hc k hlt
      have hux := zget HU.out k
      have hsz := hb.size
      have hls := lows_succ w z k (by have := HZ.out; omega)
      rw [List.getD_eq_getElem?_getD] at hux hls hcell
      have HLS := Lib.hid hls
      have HO := Lib.hid hown
      have HB := Lib.hid hb
      have hwk : w * k ≤ 8 * 1000 := Nat.mul_le_mul hw (by omega)
      have HWK := Lib.hid hwk
      have HSUC : Hid (w * k + w = w * (k + 1)) := (Nat.mul_succ w k).symm
      clear hls hown hb hc hwk
      generalize z[k]?.getD 0 = x at *
      go_wp2_with fail
      refine (rbytes_any w hw x hux _).mono ?_
      rintro e w1 ⟨vl, rfl, hown1, hb1⟩
      obtain ⟨A1, c1, rfl, _, hrd1, hnil1, _, _, _⟩ := own_slice hown1
      rw [low_length] at *
      have HO1 := Lib.hid (own_below HO.out hb1)
      have hsz1 := hb1.size
      have HB1 := Lib.hid (HB.out.trans (hb1.mono (by omega)))
      have HRD1 := Lib.hid hrd1
      have HNIL1 : Hid (A1 = none → c1 = 0 ∧ w = 0) := fun e => ⟨(hnil1 e).2, by have := low_length w x; rw [(hnil1 e).1] at this; simpa using this.symm⟩
      clear hown1 hb1 hrd1 hnil1 hcell
      go_wp2_with (at_builtin; refine wpList_append_src rfl _ _ rfl W.heap.size _ (w * k) (lows w z k) rfl HO1.out A1 w c1 (low w x) rfl ?c1 HRD1.out HNIL1.out ?c2 ?c3 ?_)
      case c1 => exact low_length w x
      case c2 => have := HWK.out; omega
      case c3 => omega
      intro v2 w2 hown2 hgr2 hat2
      rw [← HLS.out, HSUC.out] at hown2
      have HB2 : Hid (Below W.heap.size W w2) := HB1.out.grown hgr2 (by omega) (fun j hj => (HO1.out.lt j hj).1)
      have HO2 := Lib.hid hown2
      clear hown2 hgr2 hat2
      go_wp2_with fail
      go_roundw
      case rel => exact ⟨k + 1, by omega, by go_num, HO2.out, HB2.out⟩
      case measure => simp [intOf]; omega
    · obtain rfl : m = k := by omega
      have HO := Lib.hid hown
      have HB := Lib.hid hb
      clear hown hb
      go_wp2_with fail
      go_ret
      exact ⟨_, rfl, HO.out, HB.out⟩
end Go.Proofs.Ytfcooaafhpoobaa
