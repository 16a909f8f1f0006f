/- The statement of layer 2 on views, for arguments as they are read. -/
import Derived.Test.YtfcooaafhpoobaaRops
namespace Go.Proofs.Ytfcooaafhpoobaa
open Go.RowKit Rp
open Cq (U64 I64 isW)

theorem row_reads {W : World} {x : Addr} {z : List Int} {cap : Nat} (hz : z.length = cap) (hcell : ∀ i, i < z.length → W.cell? (x.add i) = some (.int .u8 (z.getD i 0))) (m : Nat) (hm : m ≤ cap) : Reads W (some x) (z.take m) := by
  intro hp
  rw [List.length_take] at hp
  obtain ⟨b, off, spot⟩ := x
  have h0 := hcell 0 (by omega)
  have hspot : spot = none := by simpa [Addr.add] using World.cell?_spot h0
  subst hspot
  refine ⟨b, off, rfl, ?_, fun i hi => ?_⟩
  · have := block_lt_of_cell h0
    simpa [Addr.add] using this
  · rw [List.length_take] at hi
    have h := hcell i (by omega)
    have e : (z.take m).getD i 0 = z.getD i 0 := by rw [List.getD_eq_getElem?_getD, List.getD_eq_getElem?_getD, List.getElem?_take_of_lt (by omega)]
    rw [e]
    by_cases g : i = 0
    · subst g; simpa [Addr.add] using h
    · simpa [Addr.add, g] using h
theorem row_bytes {z : List Int} (hw : ∀ n ∈ z, (Lit.int .u8 n).wf = true) (m : Nat) : Bytes8 (z.take m) := by
  intro y hy
  have h := hw y (List.mem_of_mem_take hy)
  simp [Lit.wf, IntKind.min, IntKind.max, IntKind.bits, IntKind.signed] at h
  omega
theorem law_reads_row (a : Option Addr) (len cap : Nat) (z : List Int) (at_ : Int) (A2 : Option Addr) (len2 cap2 : Nat) (W : World)
    (h : (a = none ∧ len = 0 ∧ cap = 0 ∧ z = []) ∨ ∃ x, a = some x ∧ len ≤ cap ∧ cap ≤ maxLen ∧ z.length = cap ∧ (∀ i, i < z.length → W.cell? (x.add i) = some (.int .u8 (z.getD i 0))) ∧ ∀ n ∈ z, (Lit.int .u8 n).wf = true)
    (hq : Asks W A2 len2) (hl2 : len2 ≤ maxLen) :
    Calls Try.prog 4 #[.slice a len cap, .int .i64 at_, .slice A2 len2 cap2] W fun e W' => e = .returned (.bool true) ∧ Below W.heap.size W W' := by
  have hl2' : len2 ≤ 9223372036854775807 := by unfold maxLen at hl2; omega
  rcases h with ⟨rfl, rfl, rfl, rfl⟩ | ⟨x, rfl, hl, hm, hz, hcell, hw⟩
  · exact law_reads W none [] 0 0 at_ A2 len2 cap2 (.inl ⟨by omega, rfl⟩) (fun h => absurd h (by simp)) (fun x hx => by simp at hx) (fun _ => ⟨rfl, rfl⟩) (fun p hp => by cases hp) (Nat.le_refl _) (by omega) hq hl2'
  · unfold maxLen at hm
    refine law_reads W (some x) (z.take (min len 200)) len cap at_ A2 len2 cap2 ?_ (row_reads hz hcell _ (by omega)) (row_bytes hw _) (fun h => by cases h) (fun p hp ep => by
      injection hp with hp
      subst hp
      obtain ⟨b, off, e, hb, _⟩ := row_reads (W := W) hz hcell (min len 200) (by omega) ep
      injection e with e
      rw [e]; exact hb) hl (by omega) hq hl2'
    rw [List.length_take]
    omega
end Go.Proofs.Ytfcooaafhpoobaa
