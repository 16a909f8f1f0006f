/- SX: cases of a variable; meanings by another term; a law's claim. -/
import Derived.Test.YtdpbalongdcjbaaDoorSXw
namespace Go.SX
open Go Go.RowKit

def varsE (n : Nat) : List E := (List.range n).map E.var
/-- Cases: some values of a variable, and the rest; those from one to another, and those outside. -/
inductive Sp where
  | l (v : Nat) (ns : List Int) | r (v lo n : Nat)
def Sp.v : Sp → Nat
  | .l v _ => v
  | .r v _ _ => v
def evS (cx : Cx) (D : List (Nat × Def)) (n : Nat) (x : E) : List Sp → List E → Facts → Bool
  | [], as, fs => ev cx D n (.e x as) fs (yes cx)
  | .l v ns :: r, as, fs => (ns.all fun m => evS cx D n x r (as.set v (.int .i64 m)) fs) && evS cx D n x r as ((ns.map fun m => (.cmp .eql (.var v) (.int .i64 m), false)) ++ fs)
  | .r v lo c :: r, as, fs => ((List.range c).all fun m => evS cx D n x r (as.set v (.int .i64 (Int.ofNat (lo + m)))) fs) &&
      evS cx D n x r as ((.cmp .lss (.var v) (.int .i64 (Int.ofNat lo)), true) :: fs) && evS cx D n x r as ((.cmp .lss (.var v) (.int .i64 (Int.ofNat (lo + c))), false) :: fs)
theorem asV_set {ρ : Nat → Value} {φ : Nat → List Value → List Value} {as : List E} {v : Nat} {m : Int} (hv : asV ρ φ as v = .int .i64 m) : asV ρ φ (as.set v (.int .i64 m)) = asV ρ φ as := by
  funext i
  unfold asV at *
  rw [List.getD_eq_getElem?_getD, List.getD_eq_getElem?_getD] at *
  simp only [List.getElem?_map, List.getElem?_set] at *
  by_cases hi : v = i
  · subst hi
    by_cases hl : v < as.length
    · simp only [if_true, if_pos hl, Option.map_some, Option.getD_some, E.den]
      exact hv.symm
    · simp only [if_true, if_neg hl]
      rw [List.getElem?_eq_none (by omega)]
  · simp only [if_neg hi]
section
variable {ρ : Nat → Value} {φ : Nat → List Value → List Value} {cx : Cx} {D : List (Nat × Def)} (F : Fits cx.Γ cx.S ρ φ) (C : CtSound cx φ) (H : DS φ D)
 include F C H
theorem evS_true {n : Nat} {x : E} : ∀ (sp : List Sp) (as : List E) (fs : Facts), (∀ p ∈ sp, cx.Γ.getD p.v .any = .int .i64) → (∀ p ∈ sp, asV ρ φ as p.v = ρ p.v) → fs.hold ρ φ → evS cx D n x sp as fs = true → x.den (asV ρ φ as) φ = .bool true
  | [], as, fs, _, _, hf, h => ev_true F C H hf h
  | .l v ns :: r, as, fs, hΓ, ha, hf, h => by
    simp only [evS, Bool.and_eq_true] at h
    have h0 := F.var v
    rw [show cx.Γ.getD v .any = .int .i64 from hΓ (.l v ns) (by simp)] at h0
    obtain ⟨m, hm, _⟩ := h0
    have hav : asV ρ φ as v = .int .i64 m := (ha (.l v ns) (by simp)).trans hm
    by_cases hin : m ∈ ns
    · have h1 := List.all_eq_true.1 h.1 m hin
      have e := asV_set (as := as) hav
      have := evS_true r _ fs (fun p hp => hΓ p (by simp [hp])) (fun p hp => by rw [e]; exact ha p (by simp [hp])) hf h1
      rwa [e] at this
    · refine evS_true r as _ (fun p hp => hΓ p (by simp [hp])) (fun p hp => ha p (by simp [hp])) ?_ h.2
      intro p hp
      rcases List.mem_append.1 hp with hp | hp
      · obtain ⟨k, hk, rfl⟩ := List.mem_map.1 hp
        simp only [E.den, hm, icmp, vint_int]
        congr 1
        rw [beq_eq_false_iff_ne]
        intro e
        subst e
        exact hin hk
      · exact hf p hp
  | .r v lo c :: r, as, fs, hΓ, ha, hf, h => by
    simp only [evS, Bool.and_eq_true] at h
    obtain ⟨⟨h1, h2⟩, h3⟩ := h
    have h0 := F.var v
    rw [show cx.Γ.getD v .any = .int .i64 from hΓ (.r v lo c) (by simp)] at h0
    obtain ⟨m, hm, _⟩ := h0
    have hav : asV ρ φ as v = .int .i64 m := (ha (.r v lo c) (by simp)).trans hm
    by_cases hlo : m < Int.ofNat lo
    · refine evS_true r as _ (fun p hp => hΓ p (by simp [hp])) (fun p hp => ha p (by simp [hp])) ?_ h2
      intro p hp
      rcases List.mem_cons.1 hp with rfl | hp
      · simp only [E.den, hm, icmp, vint_int]
        exact congrArg Value.bool (decide_eq_true hlo)
      · exact hf p hp
    · by_cases hhi : m < Int.ofNat (lo + c)
      · obtain ⟨k, hk, rfl⟩ : ∃ k, k < c ∧ m = Int.ofNat (lo + k) := by
          refine ⟨(m - Int.ofNat lo).toNat, ?_, ?_⟩
          · simp only [Int.ofNat_eq_natCast] at *
            omega
          · simp only [Int.ofNat_eq_natCast] at *
            omega
        have h4 := List.all_eq_true.1 h1 k (List.mem_range.2 hk)
        have e := asV_set (as := as) hav
        have := evS_true r _ fs (fun p hp => hΓ p (by simp [hp])) (fun p hp => by rw [e]; exact ha p (by simp [hp])) hf h4
        rwa [e] at this
      · refine evS_true r as _ (fun p hp => hΓ p (by simp [hp])) (fun p hp => ha p (by simp [hp])) ?_ h3
        intro p hp
        rcases List.mem_cons.1 hp with rfl | hp
        · simp only [E.den, hm, icmp, vint_int]
          exact congrArg Value.bool (decide_eq_false hhi)
        · exact hf p hp
end
theorem asV_vars (ρ : Nat → Value) (φ : Nat → List Value → List Value) {n i : Nat} (h : i < n) : asV ρ φ (varsE n) i = ρ i := by
  unfold asV varsE
  rw [List.getD_eq_getElem?_getD, List.map_map, List.getElem?_map, List.getElem?_range h]
  rfl
theorem vars_dens (ρ : Nat → Value) (φ : Nat → List Value → List Value) (n : Nat) : (varsE n).map (·.den (asV ρ φ (varsE n)) φ) = (varsE n).map (·.den ρ φ) := by
  apply List.map_congr_left
  intro e he
  unfold varsE at he
  obtain ⟨i, hi, rfl⟩ := List.mem_map.1 he
  exact asV_vars ρ φ (List.mem_range.1 hi)

/-- How many values a tree gives. -/
def VT.len (n : Nat) : VT → Bool
  | .leaf es => Nat.beq es.length n
  | .ite _ t e => t.len n && e.len n
  | .stuck => false
theorem VT.len_vals {n : Nat} (ρ : Nat → Value) (φ : Nat → List Value → List Value) : ∀ {T : VT}, T.len n = true → (T.vals ρ φ).length = n
  | .leaf es, h => by simp only [VT.vals, List.length_map]; exact Nat.eq_of_beq_eq_true h
  | .ite c t e, h => by
    simp only [VT.len, Bool.and_eq_true] at h
    simp only [VT.vals]
    split
    · exact VT.len_vals ρ φ h.1
    · exact VT.len_vals ρ φ h.2
  | .stuck, h => by simp [VT.len] at h

def VT.lt (n : Nat) : VT → Bool
  | .leaf es => es.all (E.lt n)
  | .ite c t e => c.lt n && t.lt n && e.lt n
  | .stuck => true
theorem VT.lt_vals {n : Nat} {ρ ρ' : Nat → Value} (φ : Nat → List Value → List Value) (hρ : ∀ i, i < n → ρ i = ρ' i) : ∀ {T : VT}, T.lt n = true → T.vals ρ φ = T.vals ρ' φ
  | .leaf es, h => List.map_congr_left fun e he => (lt_den φ hρ e (List.all_eq_true.1 h e he)).1
  | .ite c t e, h => by
    simp only [VT.lt, Bool.and_eq_true] at h
    simp only [VT.vals, (lt_den φ hρ c h.1.1).1, VT.lt_vals φ hρ h.1.2, VT.lt_vals φ hρ h.2]
  | .stuck, _ => rfl

theorem DS.sub {φ : Nat → List Value → List Value} {D D' : List (Nat × Def)} (H : DS φ D) (h : ∀ p ∈ D', p ∈ D) : DS φ D' := fun p hp => H p (h p hp)
def dropS (ks : List Nat) (D : List (Nat × Def)) : List (Nat × Def) := D.filter fun p => !(ks.any fun k => Nat.beq k p.1)
theorem DS.drop {φ : Nat → List Value → List Value} {D : List (Nat × Def)} (H : DS φ D) (ks : List Nat) : DS φ (dropS ks D) := H.sub fun _ hp => (List.mem_filter.1 hp).1
/-- **Another term for a symbol that gives one truth.** -/
theorem DS.byE {P : Program} {ct : List Sig} {sy : List (Nat × List So)} {φ : Nat → List Value → List Value} {D D' : List (Nat × Def)} (E' : Env P ct sy φ) (H : DS φ D) (H' : DS φ D') (s : Nat) (ss : List So) (V : VT) (y : E) (n : Nat) (sp : List Sp)
    (hl : lookA s D = some (.fn ss V)) (h1 : V.len 1 = true) (hvl : V.lt ss.length = true) (hb : (symS sy s 0 == .bool) = true) (hby : (E.so ss (symS sy) y == .bool) = true) (hsp : (sp.all fun p => ss.getD p.v .any == .int .i64) = true) (hspn : (sp.all fun p => Nat.blt p.v ss.length) = true) (hylt : y.lt ss.length = true)
    (h : evS ⟨P, ss, [], [], sy⟩ D' n (.beq (.app s 0 (toL (varsE ss.length))) y) sp (varsE ss.length) [] = true) : DS φ ((s, .fn ss (.leaf [y])) :: D) := by
  intro p hp
  rcases List.mem_cons.1 hp with rfl | hp
  · intro fl
    have hV := H _ (lookA_mem hl)
    have F : Fits ss (symS sy) (atS ss fl) φ := ⟨fun i => coe_has _ _, E'.fit⟩
    have key := evS_true (cx := ⟨P, ss, [], [], sy⟩) F (fun g hg => absurd hg (by simp)) H' sp (varsE ss.length) [] (fun p hp => by simpa using List.all_eq_true.1 hsp p hp) (fun p hp => asV_vars _ _ (by
      have := List.all_eq_true.1 hspn p hp
      simp only [Nat.blt] at this
      exact Nat.lt_of_succ_le (Nat.le_of_ble_eq_true this))) (fun _ hq => by simp at hq) h
    have hag : ∀ i, i < ss.length → asV (atS ss fl) φ (varsE ss.length) i = atS ss fl i := fun i hi => asV_vars _ _ hi
    simp only [E.den, Value.bool.injEq, beq_iff_eq] at key
    have hd : (toL (varsE ss.length)).dens (asV (atS ss fl) φ (varsE ss.length)) φ = (varsE ss.length).map (·.den (atS ss fl) φ) := by
      rw [toL_dens, vars_dens]
    rw [hd, (lt_den φ hag y hylt).1] at key
    have hco : ∀ i, i < ss.length → atS ss ((varsE ss.length).map (·.den (atS ss fl) φ)) i = atS ss fl i := by
      intro i hi
      show coe _ _ = atS ss fl i
      have : ((varsE ss.length).map (·.den (atS ss fl) φ)).getD i undef = atS ss fl i := asV_vars _ _ hi
      rw [this]
      exact coe_id (coe_has _ _)
    have hv1 := hV fl
    have hv2 := hV ((varsE ss.length).map (·.den (atS ss fl) φ))
    rw [VT.lt_vals φ hco hvl, ← hv1] at hv2
    have hlen := VT.len_vals (atS ss fl) φ h1
    rw [← hv1] at hlen
    have hfit := E'.fit s 0 fl
    rw [eq_of_beq hb] at hfit
    rw [hv2] at key
    simp only [VT.vals, List.map_cons, List.map_nil]
    generalize φ s fl = l at hlen hfit key
    match l, hlen with
    | [v], _ =>
      obtain ⟨b, hb'⟩ := hfit
      have hb' : v = .bool b := hb'
      have hy := E.so_has F y
      rw [show y.so _ _ = So.bool from eq_of_beq hby] at hy
      obtain ⟨c, hc⟩ := hy
      have key : vbool v = vbool (y.den (atS ss fl) φ) := key
      rw [hb', hc] at key
      simp only [vbool_bool] at key
      rw [hb', hc, key]
  · exact H p hp
theorem DS.put {φ : Nat → List Value → List Value} {D : List (Nat × Def)} (H : DS φ D) {s : Nat} {d : Def} (h : d.ok φ s) : DS φ ((s, d) :: D) := by
  intro p hp
  rcases List.mem_cons.1 hp with rfl | hp
  · exact h
  · exact H p hp
theorem DS.get {φ : Nat → List Value → List Value} {D : List (Nat × Def)} (H : DS φ D) {s : Nat} {d : Def} (h : lookA s D = some d) : d.ok φ s := H _ (lookA_mem h)
theorem case_ok {φ : Nat → List Value → List Value} {s : Nat} {ss : List So} {V : VT} (hok : (Def.fn ss V).ok φ s) (c y : E) (h : ∀ fl, c.den (atS ss fl) φ = .bool true → φ s fl = [y.den (atS ss fl) φ]) : (Def.fn ss (.ite c (.leaf [y]) V)).ok φ s := by
  intro fl
  simp only [VT.vals]
  split
  · rename_i hv
    by_cases hb : c.den (atS ss fl) φ = .bool true
    · rw [h fl hb]; rfl
    · cases hc : c.den (atS ss fl) φ <;> rw [hc] at hv <;> simp [vbool] at hv
      rw [hv] at hc
      exact absurd hc hb
  · exact hok fl
/-- What a symbol gives depends on its own arguments alone. -/
theorem ok_vars {φ : Nat → List Value → List Value} {s : Nat} {ss : List So} {V : VT} (hok : (Def.fn ss V).ok φ s) (hvl : V.lt ss.length = true) (fl : List Value) : φ s fl = φ s ((varsE ss.length).map (·.den (atS ss fl) φ)) := by
  rw [hok fl, hok ((varsE ss.length).map (·.den (atS ss fl) φ))]
  refine VT.lt_vals φ (fun i hi => ?_) hvl
  show atS ss fl i = coe _ _
  have : ((varsE ss.length).map (·.den (atS ss fl) φ)).getD i undef = atS ss fl i := asV_vars _ _ hi
  rw [this]
  exact (coe_id (coe_has _ _)).symm
theorem str_eq {s : ByteArray} {v : Value} (h : So.str.has v) (he : (E.seq (.var 0) (.val (.string s))).den (fun _ => v) (fun _ _ => []) = .bool true) : v = .string s := by
  obtain ⟨t, rfl, _⟩ := h
  simp only [E.den, vstr_string, Value.bool.injEq, beq_iff_eq, toList_data] at he
  cases s; cases t
  simp at he
  rw [he]
/-- **One truth at one text.** -/
theorem at_str {P : Program} {ct : List Sig} {sy : List (Nat × List So)} {φ : Nat → List Value → List Value} {D' : List (Nat × Def)} (E' : Env P ct sy φ) (H' : DS φ D') (s : Nat) (ss : List So) (V0 : VT) (hok0 : (Def.fn ss V0).ok φ s) (v : Nat) (str : ByteArray) (y : E) (n : Nat) (sp : List Sp)
    (h1 : V0.len 1 = true) (hvl : V0.lt ss.length = true) (hb : (symS sy s 0 == .bool) = true) (hby : (E.so ss (symS sy) y == .bool) = true) (hvn : Nat.blt v ss.length = true) (hsp : (sp.all fun p => ss.getD p.v .any == .int .i64) = true) (hspn : (sp.all fun p => Nat.blt p.v ss.length) = true) (hylt : y.lt ss.length = true)
    (h : evS ⟨P, ss, [], [], sy⟩ D' n (.beq (.app s 0 (toL (varsE ss.length))) y) sp ((varsE ss.length).set v (.val (.string str))) [] = true) (fl : List Value) (hv : atS ss fl v = .string str) : φ s fl = [y.den (atS ss fl) φ] := by
  have hblt : ∀ {a b : Nat}, Nat.blt a b = true → a < b := fun h => by
    simp only [Nat.blt] at h
    exact Nat.lt_of_succ_le (Nat.le_of_ble_eq_true h)
  have F : Fits ss (symS sy) (atS ss fl) φ := ⟨fun i => coe_has _ _, E'.fit⟩
  have hset : asV (atS ss fl) φ ((varsE ss.length).set v (.val (.string str))) = asV (atS ss fl) φ (varsE ss.length) := by
    funext i
    unfold asV
    rw [List.getD_eq_getElem?_getD, List.getD_eq_getElem?_getD]
    simp only [List.getElem?_map, List.getElem?_set]
    by_cases hi : v = i
    · subst hi
      have hl : v < (varsE ss.length).length := by simpa [varsE] using hblt hvn
      have := asV_vars (atS ss fl) φ (hblt hvn)
      unfold asV at this
      rw [List.getD_eq_getElem?_getD, List.getElem?_map] at this
      simp only [if_true, if_pos hl, Option.map_some, Option.getD_some, E.den]
      rw [this, hv]
    · simp only [if_neg hi]
  have key := evS_true (cx := ⟨P, ss, [], [], sy⟩) F (fun g hg => absurd hg (by simp)) H' sp _ [] (fun p hp => by simpa using List.all_eq_true.1 hsp p hp) (fun p hp => by rw [hset]; exact asV_vars _ _ (hblt (List.all_eq_true.1 hspn p hp))) (fun _ hq => by simp at hq) h
  rw [hset] at key
  have hag : ∀ i, i < ss.length → asV (atS ss fl) φ (varsE ss.length) i = atS ss fl i := fun i hi => asV_vars _ _ hi
  simp only [E.den, Value.bool.injEq, beq_iff_eq] at key
  have hd : (toL (varsE ss.length)).dens (asV (atS ss fl) φ (varsE ss.length)) φ = (varsE ss.length).map (·.den (atS ss fl) φ) := by
    rw [toL_dens, vars_dens]
  rw [hd, (lt_den φ hag y hylt).1, ← ok_vars hok0 hvl fl] at key
  have hlen := VT.len_vals (atS ss fl) φ h1
  rw [← hok0 fl] at hlen
  have hfit := E'.fit s 0 fl
  rw [eq_of_beq hb] at hfit
  generalize φ s fl = l at hlen hfit key
  match l, hlen with
  | [w], _ =>
    obtain ⟨b, hb'⟩ := hfit
    have hb' : w = .bool b := hb'
    have hy := E.so_has F y
    rw [show y.so _ _ = So.bool from eq_of_beq hby] at hy
    obtain ⟨c, hc⟩ := hy
    have key : vbool w = vbool (y.den (atS ss fl) φ) := key
    rw [hb', hc] at key
    simp only [vbool_bool] at key
    rw [hb', hc, key]
theorem readsAll_has {w : World} : ∀ {ps : List PK} {xs fl : List Value}, readsAll w ps xs fl → All2 So.has (sortsP ps) fl
  | [], [], fl, h => by
    have h : fl = [] := h
    subst h
    exact trivial
  | p :: ps, x :: xs, fl, h => by
    obtain ⟨f1, f2, rfl, hp, hr⟩ := h
    have g2 := readsAll_has hr
    unfold sortsP at *
    simp only [List.flatMap_cons]
    refine All2.append ?_ g2
    cases p with
    | val a ss =>
      cases a with
      | true => exact hp.2
      | false => exact hp.2
    | sl ss =>
      obtain ⟨ad, len, cap, vs, rfl, rfl, h4, h5, h6, h7, h8⟩ := hp
      have hi : (Int.ofNat len) ≤ 4611686018427387904 := Int.ofNat_le.2 h6
      have h0 : (0 : Int) ≤ Int.ofNat len := Int.natCast_nonneg len
      exact ⟨⟨_, rfl, by simp [lowOf], by simp only [highOf]; omega⟩, trivial, trivial⟩
  | [], _ :: _, _, h => h.elim
  | _ :: _, [], _, h => h.elim
def impE (y : E) (q : E × Bool) : E := .ite y (if q.2 then q.1 else .not q.1) (.bool true)
def aliasF (ss : List So) (y : E) (φ : Nat → List Value → List Value) (fl : List Value) : List Value := [y.den (atS ss fl) φ]
/-- **A contract more, for some literal argument, with another meaning.** -/
theorem Env.alias {P : Program} {ct : List Sig} {sy : List (Nat × List So)} {φ : Nat → List Value → List Value} (H : Env P ct sy φ) (g g' : Sig) (hg : g ∈ ct) (v : Nat) (lit y : E) (n : Nat) (φ0 : Nat → List Value → List Value) (hφ : φ g.sym = φ0 g.sym) (hg' : g' = { g with sym := g'.sym, fix := [(v, lit)] })
    (hfr : freshS g'.sym ct = true) (hrs : g.rs = [.val false [.bool]]) (hfx : g.fix = []) (_hlit : lit.isLit = true)
    (hc : ∀ fl, atS (sortsP g.ps) fl v = lit.den (fun _ => undef) (fun _ _ => []) → φ0 g.sym fl = [y.den (atS (sortsP g.ps) fl) φ0])
    (hby : (E.so (sortsP g.ps) (symS sy) y == .bool) = true) (hylt : y.lt (sortsP g.ps).length = true) (hno : y.noApp = true)
    (himp : (g.imp.all fun q => q.1.noApp && q.1.lt (sortsP g.ps).length && (E.so (sortsP g.ps) (symS sy) q.1 == .bool) && ev ⟨P, sortsP g.ps, [], [], sy⟩ [] n (.e (impE y q) (varsE (sortsP g.ps).length)) [] (yes ⟨P, sortsP g.ps, [], [], sy⟩)) = true) :
    Env P (g' :: ct) ((g'.sym, g'.rs.flatMap RK.sorts) :: sy) (updF φ g'.sym (aliasF (sortsP g.ps) y φ)) := by
  have hps : g'.ps = g.ps := by rw [hg']
  have hrs' : g'.rs = [.val false [.bool]] := by rw [hg']; exact hrs
  have hs := H.snd g hg
  have hyb : ∀ fl, ∃ b, y.den (atS (sortsP g.ps) fl) φ = .bool b := by
    intro fl
    have F : Fits (sortsP g.ps) (symS sy) (atS (sortsP g.ps) fl) φ := ⟨fun i => coe_has _ _, H.fit⟩
    have hy := E.so_has F y
    rw [show y.so _ _ = So.bool from eq_of_beq hby] at hy
    exact hy
  refine H.add g' _ hfr (fun args => ?_) ⟨?_, fun w xs fl hr hpx hf => ?_, fun fl hs ht => ?_⟩
  · rw [hrs']
    obtain ⟨b, hb⟩ := hyb args
    exact ⟨⟨b, hb⟩, trivial⟩
  · have := hs.call
    rw [hg']
    exact this
  · rw [updF_self]
    have hfl : g'.f = g.f := by rw [hg']
    have hpre : g'.pre = g.pre := by rw [hg']
    have hfix : g'.fix = [(v, lit)] := by rw [hg']
    rw [hps] at hr
    rw [hpre] at hpx
    have h1 := hs.does w xs fl hr hpx (fun p hp => by rw [hfx] at hp; simp at hp)
    have hv := hf (v, lit) (by rw [hfix]; simp)
    have hat : atS (sortsP g.ps) fl v = fl.getD v undef := coe_id (all2_get (readsAll_has hr) v)
    rw [hφ, hc fl (by rw [hat]; exact hv), (noApp_den _ φ0 φ y hno).1] at h1
    rw [hfl, hrs', ← hrs]
    exact h1
  · rw [updF_self] at ht
    have himp' : g'.imp = g.imp := by rw [hg']
    rw [himp']
    intro q hq
    have h1 := List.all_eq_true.1 himp q hq
    simp only [Bool.and_eq_true] at h1
    obtain ⟨⟨⟨h1, h2⟩, h3⟩, h4⟩ := h1
    have F : Fits (sortsP g.ps) (symS sy) (atS (sortsP g.ps) fl) φ := ⟨fun i => coe_has _ _, H.fit⟩
    have key := ev_true (cx := ⟨P, sortsP g.ps, [], [], sy⟩) F (fun g hg => absurd hg (by simp)) (DS.nil φ) (fun _ hq => by simp at hq) h4
    have hag : ∀ i, i < (sortsP g.ps).length → asV (atS (sortsP g.ps) fl) φ (varsE (sortsP g.ps).length) i = atS (sortsP g.ps) fl i := fun i hi => asV_vars _ _ hi
    have ht : y.den (atS (sortsP g.ps) fl) φ = .bool true := ht
    have hq := E.so_has F q.1
    rw [show q.1.so _ _ = So.bool from eq_of_beq h3] at hq
    obtain ⟨c, hc⟩ := hq
    have hc2 : q.1.den (asV (atS (sortsP g.ps) fl) φ (varsE (sortsP g.ps).length)) φ = .bool c := by rw [(lt_den φ hag q.1 h2).1, hc]
    have hfl : (fun i => fl.getD i undef) = atS (sortsP g.ps) fl := by
      funext i
      rw [hps] at hs
      exact (coe_id (all2_get hs i)).symm
    rw [hfl, (noApp_den _ (fun _ _ => []) φ q.1 h1).1, hc]
    congr 1
    unfold impE at key
    simp only [E.den, (lt_den φ hag y hylt).1, ht, vbool_bool, if_true] at key
    cases h5 : q.2 with
    | true =>
      rw [h5] at key
      simp only [if_true, hc2, Value.bool.injEq] at key
      exact key
    | false =>
      rw [h5] at key
      simp only [Bool.false_eq_true, if_false, E.den, hc2, vbool_bool, Value.bool.injEq] at key
      simpa using key
theorem DS.alias {φ : Nat → List Value → List Value} {D : List (Nat × Def)} (H : DS φ D) (K : Nat) (ss : List So) (y : E) (h : newSym K D = true) (hK : y.noSym K = true) : DS (updF φ K (aliasF ss y φ)) ((K, .fn ss (.leaf [y])) :: D) := by
  intro p hp
  rcases List.mem_cons.1 hp with rfl | hp
  · intro fl
    rw [updF_self]
    simp only [VT.vals, List.map_cons, List.map_nil, aliasF, (noSym_den _ φ K _ y hK).1]
  · exact H.keep h _ p hp
def opL (v : Nat) : List Int → E
  | [] => .bool false
  | [n] => .cmp .eql (.var v) (.int .i64 n)
  | n :: ns => .ite (.cmp .eql (.var v) (.int .i64 n)) (.bool true) (opL v ns)
theorem one_of {l : List Value} (h : l.length = 1) : l = [l.getD 0 undef] := by
  match l, h with
  | [x], _ => rfl
/-- A symbol's own double, which stays closed where the other is opened. -/
theorem twin_ok {φ : Nat → List Value → List Value} {s k : Nat} {ss : List So} {V : VT} (hok : (Def.fn ss V).ok φ s) (h1 : V.len 1 = true) (hvl : V.lt ss.length = true) (hk : φ k = φ s) (c : E) : (Def.fn ss (.ite c (.leaf [.app k 0 (toL (varsE ss.length))]) V)).ok φ s := by
  refine case_ok hok _ _ fun fl _ => ?_
  simp only [E.den, toL_dens, hk]
  have hl := VT.len_vals (atS ss fl) φ h1
  rw [← hok fl] at hl
  rw [← ok_vars hok hvl fl]
  exact one_of hl
theorem Env.twin {P : Program} {ct : List Sig} {sy : List (Nat × List So)} {φ : Nat → List Value → List Value} (H : Env P ct sy φ) (s k : Nat) {ss : List So} {V : VT} (hok : (Def.fn ss V).ok φ s) (h1 : V.len 1 = true) (hb : (symS sy s 0 == .bool) = true) (hfr : freshS k ct = true) : Env P ct ((k, [.bool]) :: sy) (updF φ k (φ s)) :=
  H.sym k [.bool] (φ s) hfr fun args => by
    have h := H.fit s 0 args
    rw [eq_of_beq hb] at h
    have hl := VT.len_vals (atS ss args) φ h1
    rw [← hok args] at hl
    rw [one_of hl]
    exact ⟨h, trivial⟩
/-- A symbol of one truth, by an equation. -/
theorem ok_by {P : Program} {ct : List Sig} {sy : List (Nat × List So)} {φ : Nat → List Value → List Value} (E' : Env P ct sy φ) {s : Nat} {ss : List So} {V : VT} (hok : (Def.fn ss V).ok φ s) (y : E) (h1 : V.len 1 = true) (hvl : V.lt ss.length = true) (hb : (symS sy s 0 == .bool) = true) (hby : (E.so ss (symS sy) y == .bool) = true) (hylt : y.lt ss.length = true)
    (h : ∀ ρ, Fits ss (symS sy) ρ φ → (E.beq (.app s 0 (toL (varsE ss.length))) y).den (asV ρ φ (varsE ss.length)) φ = .bool true) : (Def.fn ss (.leaf [y])).ok φ s := by
  intro fl
  have F : Fits ss (symS sy) (atS ss fl) φ := ⟨fun i => coe_has _ _, E'.fit⟩
  have key := h _ F
  have hag : ∀ i, i < ss.length → asV (atS ss fl) φ (varsE ss.length) i = atS ss fl i := fun i hi => asV_vars _ _ hi
  simp only [E.den, Value.bool.injEq, beq_iff_eq] at key
  have hd : (toL (varsE ss.length)).dens (asV (atS ss fl) φ (varsE ss.length)) φ = (varsE ss.length).map (·.den (atS ss fl) φ) := by
    rw [toL_dens, vars_dens]
  rw [hd, (lt_den φ hag y hylt).1, ← ok_vars hok hvl fl] at key
  have hlen := VT.len_vals (atS ss fl) φ h1
  rw [← hok fl] at hlen
  have hfit := E'.fit s 0 fl
  rw [eq_of_beq hb] at hfit
  simp only [VT.vals, List.map_cons, List.map_nil]
  generalize φ s fl = l at hlen hfit key
  match l, hlen with
  | [w], _ =>
    obtain ⟨b, hb'⟩ := hfit
    have hb' : w = .bool b := hb'
    have hy := E.so_has F y
    rw [show y.so _ _ = So.bool from eq_of_beq hby] at hy
    obtain ⟨c, hc⟩ := hy
    have key : vbool w = vbool (y.den (atS ss fl) φ) := key
    rw [hb', hc] at key
    simp only [vbool_bool] at key
    rw [hb', hc, key]
/-- At one value of a variable. -/
theorem evS_at {ρ : Nat → Value} {φ : Nat → List Value → List Value} {cx : Cx} {D : List (Nat × Def)} (F : Fits cx.Γ cx.S ρ φ) (C : CtSound cx φ) (H : DS φ D) {n N : Nat} {x : E} {sp : List Sp} {v : Nat} {m : Int} (hv : v < N) (hm : ρ v = .int .i64 m)
    (hsp : (sp.all fun p => (cx.Γ.getD p.v .any == .int .i64) && Nat.blt p.v N) = true) (h : evS cx D n x sp ((varsE N).set v (.int .i64 m)) [] = true) : x.den (asV ρ φ (varsE N)) φ = .bool true := by
  have hs : asV ρ φ ((varsE N).set v (.int .i64 m)) = asV ρ φ (varsE N) := asV_set ((asV_vars _ _ hv).trans hm)
  have hq : ∀ p ∈ sp, cx.Γ.getD p.v .any = .int .i64 ∧ p.v < N := by
    intro p hp
    have := List.all_eq_true.1 hsp p hp
    rw [Bool.and_eq_true] at this
    refine ⟨eq_of_beq this.1, ?_⟩
    have := this.2
    simp only [Nat.blt] at this
    exact Nat.lt_of_succ_le (Nat.le_of_ble_eq_true this)
  have := evS_true F C H sp _ [] (fun p hp => (hq p hp).1) (fun p hp => by rw [hs]; exact asV_vars _ _ (hq p hp).2) (fun _ hq => by simp at hq) h
  rwa [hs] at this
/-- With no case. -/
theorem evS_all {ρ : Nat → Value} {φ : Nat → List Value → List Value} {cx : Cx} {D : List (Nat × Def)} (F : Fits cx.Γ cx.S ρ φ) (C : CtSound cx φ) (H : DS φ D) {n N : Nat} {x : E} {sp : List Sp} {fs : Facts} (hf : fs.hold ρ φ)
    (hsp : (sp.all fun p => (cx.Γ.getD p.v .any == .int .i64) && Nat.blt p.v N) = true) (h : evS cx D n x sp (varsE N) fs = true) : x.den (asV ρ φ (varsE N)) φ = .bool true := by
  have hq : ∀ p ∈ sp, cx.Γ.getD p.v .any = .int .i64 ∧ p.v < N := by
    intro p hp
    have := List.all_eq_true.1 hsp p hp
    rw [Bool.and_eq_true] at this
    refine ⟨eq_of_beq this.1, ?_⟩
    have := this.2
    simp only [Nat.blt] at this
    exact Nat.lt_of_succ_le (Nat.le_of_ble_eq_true this)
  exact evS_true F C H sp _ fs (fun p hp => (hq p hp).1) (fun p hp => asV_vars _ _ (hq p hp).2) hf h
/-- A term by all ways, and behind each of them some truths that name it as the variable behind the others. -/
def keysK (cx : Cx) (D : List (Nat × Def)) (n : Nat) (as ys : List E) : KK := fun r fs => match r with
  | [w] => ys.all fun y => ev cx D n (.e y (as ++ [w])) fs (yes cx)
  | _ => false
def evK (cx : Cx) (D : List (Nat × Def)) (n : Nat) (x : E) (as : List E) (fs : Facts) (ys : List E) : Bool := ev cx D n (.e x as) fs (keysK cx D n as ys)
theorem evK_true {ρ : Nat → Value} {φ : Nat → List Value → List Value} {cx : Cx} {D : List (Nat × Def)} (F : Fits cx.Γ cx.S ρ φ) (C : CtSound cx φ) (H : DS φ D) {n : Nat} {x : E} {as : List E} {fs : Facts} {ys : List E} (hf : fs.hold ρ φ) (h : evK cx D n x as fs ys = true) :
    ∃ w : E, w.den ρ φ = x.den (asV ρ φ as) φ ∧ ∀ y ∈ ys, y.den (asV ρ φ (as ++ [w])) φ = .bool true := by
  obtain ⟨es, fs', h1, h2, h3⟩ := ev_sound F C H n _ _ _ hf h
  unfold keysK at h1
  split at h1
  · rename_i w
    refine ⟨w, by simpa [Task.vals] using h3, fun y hy => ?_⟩
    exact ev_true F C H h2 (List.all_eq_true.1 h1 y hy)
  · exact absurd h1 (by simp)
theorem l4 {cx : Cx} {D : List (Nat × Def)} {n : Nat} {x : E} {r : List Sp} {as : List E} {fs : Facts} {v : Nat} {a b c d : Int} (h1 : evS cx D n x r (as.set v (.int .i64 a)) fs = true) (h2 : evS cx D n x r (as.set v (.int .i64 b)) fs = true) (h3 : evS cx D n x r (as.set v (.int .i64 c)) fs = true) (h4 : evS cx D n x r (as.set v (.int .i64 d)) fs = true)
    (h5 : evS cx D n x r as ([(.cmp .eql (.var v) (.int .i64 a), false), (.cmp .eql (.var v) (.int .i64 b), false), (.cmp .eql (.var v) (.int .i64 c), false), (.cmp .eql (.var v) (.int .i64 d), false)] ++ fs) = true) : evS cx D n x (.l v [a, b, c, d] :: r) as fs = true := by
  simp only [evS, List.all_cons, List.all_nil, List.map_cons, List.map_nil, h1, h2, h3, h4, h5, Bool.and_true]
end Go.SX
