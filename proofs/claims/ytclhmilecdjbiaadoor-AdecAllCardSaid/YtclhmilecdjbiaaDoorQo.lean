/- Layer 20: what the laws call, as symbols: whether an instruction may be, its word, its text. The law of words and texts. -/
import Derived.Test.YtclhmilecdjbiaaDoorQn
import Derived.Test.YtclhmilecdjbiaaDoorCXlw
namespace Go.Proofs.YtclhmilecdjbiaaDoor
open Go Go.Proofs Go.RowKit Go.CX Go.SX
/-- the word, the text -/
noncomputable def wordO (fl : List Value) : Int := open Classical in if h : ∃ p : Nat × Nat, Is fl p.1 p.2 then wordV fl (Classical.choose h).1 (Classical.choose h).2 else 0
theorem wordO_is {fl : List Value} {op m : Nat} (h : Is fl op m) : wordO fl = wordV fl op m := by
  have hex : ∃ p : Nat × Nat, Is fl p.1 p.2 := ⟨(op, m), h⟩
  unfold wordO
  rw [dif_pos hex]
  obtain ⟨h1, h2⟩ := mt_one (Classical.choose_spec hex).2.1 h.2.1
  rw [h1, h2]
/-- A word that fits. -/
noncomputable def w32O (fl : List Value) : Int := IntKind.u32.wrap (wordO fl)
theorem w32O_is {fl : List Value} (hs : All2 So.has ssE fl) {op m : Nat} (h : Is fl op m) : w32O fl = wordV fl op m := by
  have := word_range hs h
  unfold w32O
  rw [wordO_is h, IntKind.wrap_u32]; omega
def psE : List (Bool × List So) := [(true, ssE)]
def encYes (es : List E) : Option CX.SV := some (.tup [⟨false, [.e (.app 10 0 (toL es))]⟩, ⟨false, [.e (.int .i64 0)]⟩])
def encNo (_ : List E) : Option CX.SV := some (.tup [⟨false, [.e (.int .u32 0)]⟩, ⟨false, [.e (.int .i64 2)]⟩])
def rencYes (es : List E) : Option CX.SV := some (.one ⟨false, [.e (.app 10 0 (toL es))]⟩)
theorem pack1 {xs fl : List Value} (hp : packs psE xs fl) : ∃ x, xs = [x] ∧ x = .agg fl.toArray ∧ All2 So.has ssE fl := by
  match xs, hp with
  | [x], ⟨f1, f2, hf, hs, hx, h2⟩ =>
    have h2 : f2 = [] := h2
    subst h2
    rw [List.append_nil] at hf
    subst hf
    exact ⟨x, rfl, hx, hs⟩
end Go.Proofs.YtclhmilecdjbiaaDoor
