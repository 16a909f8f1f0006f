/- Walks of layer 2: a view and the document's own view, side by side. -/
import Derived.Test.YtfcooaafhpoobaaRopq
import Derived.Deep.DeepCutAuto
import Derived.Deep.CutBlock
namespace Go.Proofs.Ytfcooaafhpoobaa
open Go.RowKit Rp
open Cq (U64 I64 isW)

/-- a view at (a, x), the document's own at (b, y); what was there is as it was in W -/
structure Two (B : Nat) (W wr : World) (vb rb : Nat) (v : Value) (A : Option Addr) (bs : List Int) (c : Nat) (a x b y : Int) : Prop where
  vw : Vw B wr vb v bs a x
  rv : Rv wr rb A bs.length c b y
  bel : Below W.heap.size W wr
  vlo : W.heap.size ≤ vb
  rlo : W.heap.size ≤ rb
  ml : ∀ k, Mine vb v k → W.heap.size ≤ k ∧ k ≠ rb
theorem Two.below {B : Nat} {W wr w' : World} {vb rb : Nat} {v : Value} {A : Option Addr} {bs : List Int} {c : Nat} {a x b y : Int} (h : Two B W wr vb rb v A bs c a x b y) (g : Below wr.heap.size wr w') : Two B W w' vb rb v A bs c a x b y :=
  ⟨h.vw.below g, Box.kept h.rv (g.block rb (Box.lt h.rv)), h.bel.trans (g.mono h.bel.size), h.vlo, h.rlo, h.ml⟩
theorem Two.drewN {B : Nat} {W wr : World} {vb rb : Nat} {v : Value} {A : Option Addr} {bs : List Int} {c : Nat} {a x b y : Int} (h : Two B W wr vb rb v A bs c a x b y) (n : Nat) : Two B W (wr.drewN n) vb rb v A bs c a x b y :=
  ⟨h.vw.drewN n, Box.kept h.rv rfl, ⟨h.bel.os, h.bel.tape, h.bel.output, h.bel.size, h.bel.block⟩, h.vlo, h.rlo, h.ml⟩
theorem Two.drew {B : Nat} {W wr : World} {vb rb : Nat} {v : Value} {A : Option Addr} {bs : List Int} {c : Nat} {a x b y : Int} (h : Two B W wr vb rb v A bs c a x b y) : Two B W wr.drew vb rb v A bs c a x b y := h.drewN 1
theorem Two.view {B : Nat} {W wr w' : World} {vb rb : Nat} {v : Value} {A : Option Addr} {bs : List Int} {c : Nat} {a x b y a' x' : Int} (h : Two B W wr vb rb v A bs c a x b y) (t : VTo B wr w' vb v bs a' x') : Two B W w' vb rb v A bs c a' x' b y :=
  ⟨t.1, Box.chg h.rv t.2 (fun e => (h.ml vb (.inl rfl)).2 e.symm), h.bel.trans (t.2.below W.heap.size h.bel.size (fun k hk e => by have := h.vlo; omega)), h.vlo, h.rlo, h.ml⟩
theorem Two.ref {B : Nat} {W wr w' : World} {vb rb : Nat} {v : Value} {A : Option Addr} {bs : List Int} {c : Nat} {a x b y b' y' : Int} (h : Two B W wr vb rb v A bs c a x b y) (r : Rv w' rb A bs.length c b' y') (g : Chg (fun k => k = rb) wr w') : Two B W w' vb rb v A bs c a x b' y' :=
  ⟨St.chg h.vw g (fun k hk e => (h.ml k hk).2 e), r, h.bel.trans (g.below W.heap.size h.bel.size (fun k hk e => by have := h.rlo; omega)), h.vlo, h.rlo, h.ml⟩
theorem quiet_drawn {P : Program} {f : FuncId} {args : Array Value} {w : World} {n : Nat} {v : Value}
    (h : Calls P f args (w.drewN n) fun e w' => e = .returned v ∧ Drawn (w.drewN n) w') : Calls P f args (w.drewN n) fun e w'' => e = .returned v ∧ ∃ m, w'' = w.drewN m :=
  h.mono fun _ _ ⟨he, m, hm⟩ => ⟨he, n + m, by rw [hm, World.drewN_drewN]⟩
theorem vRaw_len {bs : List Int} {a x w : Int} : (vRaw bs a (xW x w) w).length ≤ 8 := by
  unfold vRaw
  split
  · next h =>
    have hw : isW w = true := by
      cases e : isW w
      · exfalso
        have h1 := h.1
        unfold xW at h1
        by_cases hx : x = 0
        · rw [if_pos ⟨hx, e⟩] at h1; omega
        · rw [if_neg (by simp [hx])] at h1; exact hx h1
      · rfl
    have h4 := Cq.isW_cases hw
    unfold cut
    rw [List.length_take]
    omega
  · simp
theorem vRaw_bytes {bs : List Int} (h8 : Bytes8 bs) (a x m : Int) : Bytes8 (vRaw bs a x m) := by
  unfold vRaw
  split
  · intro y hy
    unfold cut at hy
    exact h8 y (List.mem_of_mem_drop (List.mem_of_mem_take hy))
  · intro y hy; simp at hy
theorem vAt_in {bs : List Int} {a x m : Int} (h : 0 ≤ a ∧ a ≤ bs.length) : 0 ≤ vAt a x m bs.length ∧ vAt a x m bs.length ≤ bs.length := by
  unfold vAt
  split
  · next g => have := hasB_is g.2; omega
  · exact h
/-- both read -/
theorem Two.num {B : Nat} {W wr : World} {vb rb : Nat} {v : Value} {A : Option Addr} {bs : List Int} {c : Nat} {a x b y : Int} (h : Two B W wr vb rb v A bs c a x b y) (h8 : Bytes8 bs) (hb : bs.length ≤ 1048576) (w : Int) :
    Calls Try.prog 18 #[.pointer (some ⟨vb, 0, none⟩), .int .i64 w] wr fun e W' => e = .returned (.int .u64 (val (vRaw bs a (xW x w) w) (vRaw bs a (xW x w) w).length)) ∧
      Two B W W' vb rb v A bs c (vAt a (xW x w) w bs.length) (vErr a (xW x w) w bs.length) b y ∧ Chg (fun k => k = vb) wr W' :=
  (vnum_any B wr vb v bs a x w h.vw h8 hb).mono fun _ _ ⟨he, ht⟩ => ⟨he, h.view ht, ht.2⟩
theorem Two.numY {B : Nat} {W wr : World} {vb rb : Nat} {v : Value} {A : Option Addr} {bs : List Int} {c : Nat} {a x b y : Int} (h : Two B W wr vb rb v A bs c a x b y) (h8 : Bytes8 bs) (hb : bs.length ≤ 1048576) (w z : Int) (hz : z = xW x w) :
    Calls Try.prog 18 #[.pointer (some ⟨vb, 0, none⟩), .int .i64 w] wr fun e W' => e = .returned (.int .u64 (val (vRaw bs a z w) (vRaw bs a z w).length)) ∧
      Two B W W' vb rb v A bs c (vAt a z w bs.length) (vErr a z w bs.length) b y ∧ Chg (fun k => k = vb) wr W' := by
  subst hz
  exact Two.num h h8 hb w
theorem Two.raw {B : Nat} {W wr : World} {vb rb : Nat} {v : Value} {A : Option Addr} {bs : List Int} {c : Nat} {a x b y : Int} (h : Two B W wr vb rb v A bs c a x b y) (hb : bs.length ≤ 1048576) (m : Int) :
    Calls Try.prog 21 #[.pointer (some ⟨vb, 0, none⟩), .int .i64 m] wr fun e W' => ∃ A2 c2, e = .returned (.slice A2 (vRaw bs a x m).length c2) ∧ Reads W' A2 (vRaw bs a x m) ∧ (A2 = none → vRaw bs a x m = []) ∧ (∀ p, A2 = some p → p.block ≠ rb) ∧
      Two B W W' vb rb v A bs c (vAt a x m bs.length) (vErr a x m bs.length) b y ∧ Chg (fun k => k = vb) wr W' := by
  refine (raw_any B wr vb v bs a x m h.vw hb).mono ?_
  rintro e W' ⟨A2, c2, he, h1, h2, h4, h3⟩
  exact ⟨A2, c2, he, h1, h2, fun p hp e => by have := h4 p hp; have := Box.lt h.rv; omega, h.view h3, h3.2⟩
theorem Two.skip {B : Nat} {W wr : World} {vb rb : Nat} {v : Value} {A : Option Addr} {bs : List Int} {c : Nat} {a x b y : Int} (h : Two B W wr vb rb v A bs c a x b y) (hb : bs.length ≤ 1048576) (m : Int) :
    Calls Try.prog 22 #[.pointer (some ⟨vb, 0, none⟩), .int .i64 m] wr fun e W' => e = .returned (.tuple #[]) ∧ Two B W W' vb rb v A bs c (vAt a x m bs.length) (vErr a x m bs.length) b y ∧ Chg (fun k => k = vb) wr W' :=
  (skip_any B wr vb v bs a x m h.vw hb).mono fun _ _ ⟨he, ht⟩ => ⟨he, h.view ht, ht.2⟩
theorem Two.take {B : Nat} {W wr : World} {vb rb : Nat} {v : Value} {A : Option Addr} {bs : List Int} {c : Nat} {a x b y : Int} (h : Two B W wr vb rb v A bs c a x b y) (hr : Reads W A bs) (hA : A = none → bs = []) (hAb : ∀ p, A = some p → 0 < bs.length → p.block < W.heap.size)
    (hb : bs.length ≤ 1048576) (hc : bs.length ≤ c) (m : Int) :
    Calls Try.prog 20 #[.pointer (some ⟨rb, 0, none⟩), .int .i64 m] wr fun e W' => ∃ A2 c2, e = .returned (.slice A2 (vRaw bs b y m).length c2) ∧ Reads W' A2 (vRaw bs b y m) ∧ (A2 = none → vRaw bs b y m = []) ∧ Chg (fun k => k = rb) wr W' ∧
      Two B W W' vb rb v A bs c a x (vAt b y m bs.length) (vErr b y m bs.length) := by
  refine (rtake_any wr rb A bs c b y m h.rv (reads_below hr h.bel (Nat.le_refl _)) hA (fun p hp ep e => by have := hAb p hp ep; have := h.rlo; omega) hb hc).mono ?_
  rintro e W' ⟨u, rfl, A2, c2, rfl, h1, h2, h3, h4⟩
  exact ⟨A2, c2, rfl, h1, h2, h4, h.ref h3 h4⟩
/-- what a view reads that is made at a place, within the bytes or beyond -/
def rdB (bs : List Int) (a : Int) : List Int := if inB a bs.length then bs else []
def rdA (bs : List Int) (a : Int) : Int := if inB a bs.length then a else 0
def rdX (bs : List Int) (a : Int) : Int := if inB a bs.length then 0 else 7
theorem read_any (B : Nat) (W : World) (sb : Nat) (rest : List Value) (v : Value) (bs : List Int) (h : St B 5 W sb 98 rest v bs) (hb : bs.length ≤ 1048576) (a : Int) :
    Calls Try.prog 15 #[.pointer (some ⟨sb, 0, none⟩), .int .i64 a] W fun e W' => ∃ vb v', e = .returned (.pointer (some ⟨vb, 0, none⟩)) ∧ Vw W.heap.size W' vb v' (rdB bs a) (rdA bs a) (rdX bs a) ∧ Below W.heap.size W W' := by
  unfold rdB rdA rdX
  cases hin : inB a bs.length
  · exact read_err B W sb rest v bs h a hin
  · exact read_ok B W sb rest v bs h hb a hin
/-- what stands behind the making of both views -/
structure Begun (B : Nat) (W wr : World) (vb rb : Nat) (v : Value) (A : Option Addr) (bs : List Int) (c : Nat) (a x : Int) : Prop where
  two : Two B W wr vb rb v A bs c a x a x
  rd : Reads W A bs
  b8 : Bytes8 bs
  nil : A = none → bs = []
  blk : ∀ p, A = some p → 0 < bs.length → p.block < W.heap.size
  len : bs.length ≤ 200
  cap : bs.length ≤ c
  lo : 0 ≤ a
  hi : a ≤ bs.length
end Go.Proofs.Ytfcooaafhpoobaa
