/- Layer 23: the laid tables; its closing example answers true: its run is carried out by the kernel over them, strings.Fields by its contract. -/
import Derived.Test.YthcncbbnjbhdkaaGreatDoorProg
import Derived.Test.YthcncbbnjbhdkaaGreatDoorShelf
import Derived.Test.YthcncbbnjbhdkaaGreatDoorCXqa
import Derived.Lib.LaidTab
import Derived.KernelRfl
import Derived.Test.YthcncbbnjbhdkaaGreatDoorLq
import Derived.Test.YthcncbbnjbhdkaaGreatDoorCXlw
namespace Go.Lib
open Go
def rowsData {H : Type} (k : IntKind) (l : List (Int × Int)) : DataW H := .agg (l.map fun p => .agg [.lit (.int k p.1), .lit (.int k p.2)])
def rowsFlat : List (Int × Int) → List Int
  | [] => []
  | p :: l => p.1 :: p.2 :: rowsFlat l
theorem rowsFlat_get : ∀ (l : List (Int × Int)) (i : Nat), (rowsFlat l)[i]? = (l[i / 2]?).map fun p => if i % 2 = 0 then p.1 else p.2
  | [], i => by simp [rowsFlat]
  | p :: l, 0 => by simp [rowsFlat]
  | p :: l, 1 => by simp [rowsFlat]
  | p :: l, i + 2 => by
    have h1 : (i + 2) / 2 = i / 2 + 1 := by omega
    have h2 : (i + 2) % 2 = i % 2 := by omega
    rw [h1, h2]
    show (rowsFlat l)[i]? = _
    rw [rowsFlat_get l i, List.getElem?_cons_succ]
/-- A row of two numbers. -/
theorem pair_of {H : Type} {enc : TypeId × Value → H} {P : Program} {w : World} {base : Nat} {sp : Nat → Bool} {held : Bool} {fuel : Nat} {e : TypeId} {fs : Array Field} {f0 f1 : Field} {k : IntKind} {cs : List Value} {a b : Int} {p : List MemPlace}
    (he : P.underlying e = some (.struct fs)) (hfs : fs.toList = [f0, f1]) (o0 : f0.offset = 0) (o1 : f1.offset = 1) (h0 : P.underlying f0.type = some (.int k)) (h1 : P.underlying f1.type = some (.int k)) (c0 : P.cellsOf f0.type = 1) (c1 : P.cellsOf f1.type = 1) (hce : P.cellsOf e = 2)
    (h : DataW.trod enc P w base sp held fuel e cs = some (.agg [.lit (.int k a), .lit (.int k b)], p)) : cs = [.int k a, .int k b] := by
  cases fuel with
  | zero => simp [DataW.trod] at h
  | succ fuel =>
    simp only [DataW.trod, he, hce] at h
    split at h
    · rename_i hl
      obtain ⟨xs, hm, hx⟩ := Option.map_eq_some_iff.1 h
      rw [hfs] at hm
      have hxs : xs.map (·.1) = [(.lit (.int k a) : DataW H), .lit (.int k b)] := by
        have := congrArg Prod.fst hx
        simpa using this
      obtain ⟨y0, g0, q0⟩ := mapM_at hm 0 f0 rfl
      obtain ⟨y1, g1, q1⟩ := mapM_at hm 1 f1 rfl
      obtain ⟨z0, r0, s0, _⟩ := DataW.trod_int h0 q0
      obtain ⟨z1, r1, s1, _⟩ := DataW.trod_int h1 q1
      have e0 : (xs.map (·.1))[0]? = some y0.1 := by rw [List.getElem?_map, g0]; rfl
      have e1 : (xs.map (·.1))[1]? = some y1.1 := by rw [List.getElem?_map, g1]; rfl
      rw [hxs] at e0 e1
      simp only [List.getElem?_cons_zero, List.getElem?_cons_succ, Option.some.injEq] at e0 e1
      have k0 : z0 = a := by
        have := e0.trans (by rw [s0])
        simpa using this.symm
      have k1 : z1 = b := by
        have := e1.trans (by rw [s1])
        simpa using this.symm
      subst k0 k1
      rw [o0, c0] at r0
      rw [o1, c1] at r1
      match cs, hl with
      | [x, y], _ =>
        simp at r0 r1
        rw [r0, r1]
    · cases h
theorem tabIs_rows {P : Program} {W : World} {name : String} {k : IntKind} {l : List (Int × Int)} {rest : List (String × DataW Unit)} {g : Nat} {t e : TypeId} {n : Nat} {fs : Array Field} {f0 f1 : Field}
    (hg : P.globalNamed name = some g) (hty : (P.globals[g]?).map (·.type) = some t) (ht : P.underlying t = some (.array n e)) (he : P.underlying e = some (.struct fs)) (hfs : fs.toList = [f0, f1]) (o0 : f0.offset = 0) (o1 : f1.offset = 1) (h0 : P.underlying f0.type = some (.int k)) (h1 : P.underlying f1.type = some (.int k)) (c0 : P.cellsOf f0.type = 1) (c1 : P.cellsOf f1.type = 1) (hce : P.cellsOf e = 2) (hct : P.cellsOf t = n * 2)
    (h : laidMet P ((name, rowsData k l) :: rest) W) : TabIs P W name k (rowsFlat l) := by
  obtain ⟨ps, ⟨g', t', cs, fuel, p, q, hg', ht', hvar, hd, _, _⟩, _⟩ := h
  obtain rfl := Option.some.inj (hg.symm.trans hg')
  obtain rfl := Option.some.inj (hty.symm.trans ht')
  unfold TabIs
  rw [hvar]
  congr 1
  apply Array.ext'
  show cs.toList = (rowsFlat l).map fun z => Value.int k z
  generalize cs.toList = cs at hd
  cases fuel with
  | zero => simp [DataW.trod] at hd
  | succ fuel =>
    simp only [DataW.trod, ht, hce, hct] at hd
    split at hd
    · rename_i hl
      obtain ⟨xs, hm, hx⟩ := Option.map_eq_some_iff.1 hd
      have hxs : xs.map (·.1) = l.map fun p => (DataW.agg [.lit (.int k p.1), .lit (.int k p.2)] : DataW Unit) := by
        have := congrArg Prod.fst hx
        simpa [rowsData] using this
      have hxl : xs.length = n := by simpa using mapM_length hm
      have hll : l.length = n := by
        have := congrArg List.length hxs
        simp at this
        omega
      apply List.ext_getElem?
      intro i
      rw [List.getElem?_map, rowsFlat_get]
      by_cases hi : i / 2 < n
      · obtain ⟨b, hb, hf⟩ := mapM_at hm (i / 2) (i / 2) (by simp [hi])
        have h2 : (xs.map (·.1))[i / 2]? = some b.1 := by simp [hb]
        rw [hxs, List.getElem?_map, List.getElem?_eq_getElem (by omega)] at h2
        simp only [Option.map_some, Option.some.injEq] at h2
        obtain ⟨d, pl⟩ := b
        simp only at h2
        subst h2
        have := pair_of he hfs o0 o1 h0 h1 c0 c1 hce hf
        rw [List.getElem?_eq_getElem (l := l) (by omega)]
        have h3 : ((cs.drop (i / 2 * 2)).take 2)[i % 2]? = cs[i]? := by
          rw [List.getElem?_take, if_pos (Nat.mod_lt _ (by decide)), List.getElem?_drop, show i / 2 * 2 + i % 2 = i by omega]
        rw [← h3, this]
        have : i % 2 = 0 ∨ i % 2 = 1 := by omega
        rcases this with h | h <;> simp [h]
      · rw [List.getElem?_eq_none (by omega), List.getElem?_eq_none (by omega)]
        rfl
    · cases hd
end Go.Lib
namespace Go.Proofs.YthcncbbnjbhdkaaGreatDoor
open Go Go.Proofs Go.RowKit Go.CX Go.SX
def rowsP : List (Int × Int) := [(0, 0), (5, 0), (6, 0), (9, 0), (10, 0), (11, 0), (19, 0), (21, 0), (22, 0), (23, 0), (24, 0), (25, 0), (26, 0), (27, 0), (8, 1), (8, 2), (8, 10)]
def rowsL : List Int := [0, 0, 5, 0, 6, 0, 9, 0, 10, 0, 11, 0, 19, 0, 21, 0, 22, 0, 23, 0, 24, 0, 25, 0, 26, 0, 27, 0, 8, 1, 8, 2, 8, 10]
def rowsV : Vw := ⟨2, 276, 5961435402259919231721560215455071471301257577073964506688684880148407218233858160924792641928226447918378481691996186751572580683161745131009637079006181212485222583765690861264838722193005606169840356933640405887868020968624886268066286664566178914470769033733673190647736221399149967718373303608141002400409213494652908481882607275328307109851044573180350834014980743991206229696450410334750249253709748331298474572165015358034532779758648144565489819105853005902957760999568566760814801840920483218219296726076836977143281351528016443166595928350528916184593826821012370404420110664553467093979623281783814312053900706500296478556160, []⟩
def asciiL : List Int := [0, 0, 0, 0, 0, 0, 0, 0, 0, 1, 1, 1, 1, 1, 0, 0, 0, 0, 0, 0, 0, 0, 0, 0, 0, 0, 0, 0, 0, 0, 0, 0, 1, 0, 0, 0, 0, 0, 0, 0, 0, 0, 0, 0, 0, 0, 0, 0, 0, 0, 0, 0, 0, 0, 0, 0, 0, 0, 0, 0, 0, 0, 0, 0, 0, 0, 0, 0, 0, 0, 0, 0, 0, 0, 0, 0, 0, 0, 0, 0, 0, 0, 0, 0, 0, 0, 0, 0, 0, 0, 0, 0, 0, 0, 0, 0, 0, 0, 0, 0, 0, 0, 0, 0, 0, 0, 0, 0, 0, 0, 0, 0, 0, 0, 0, 0, 0, 0, 0, 0, 0, 0, 0, 0, 0, 0, 0, 0, 0, 0, 0, 0, 0, 0, 0, 0, 0, 0, 0, 0, 0, 0, 0, 0, 0, 0, 0, 0, 0, 0, 0, 0, 0, 0, 0, 0, 0, 0, 0, 0, 0, 0, 0, 0, 0, 0, 0, 0, 0, 0, 0, 0, 0, 0, 0, 0, 0, 0, 0, 0, 0, 0, 0, 0, 0, 0, 0, 0, 0, 0, 0, 0, 0, 0, 0, 0, 0, 0, 0, 0, 0, 0, 0, 0, 0, 0, 0, 0, 0, 0, 0, 0, 0, 0, 0, 0, 0, 0, 0, 0, 0, 0, 0, 0, 0, 0, 0, 0, 0, 0, 0, 0, 0, 0, 0, 0, 0, 0, 0, 0, 0, 0, 0, 0, 0, 0, 0, 0, 0, 0, 0, 0, 0, 0, 0, 0]
def asciiV : Vw := ⟨1, 2048, 32317006071311007300714876688669951960444102669715484032130345427524655138867890893197201411522913463688717960921898019494119559150490921095088152386448283120630877367300996091750197750389652106796057638384067568276792218642619756161838094338476170470581645852036305042887575891541065808607552399123930385521914333389668342420684974786564569494856176035326322058077834298234944667669666285452284568411603071606778661647522676111596522617172005554539921292629409162714363290550457223540202805469973092075247389724280500083808311699562656809771106754039414985896334328332185032416588958318708213567516445418012054388736, []⟩
def pow10L : List Int := [1, 10, 100, 1000, 10000, 100000, 1000000, 10000000, 100000000, 1000000000, 10000000000, 100000000000, 1000000000000, 10000000000000, 100000000000000, 1000000000000000, 10000000000000000, 100000000000000000, 1000000000000000000, 10000000000000000000]
def pow10V : Vw := ⟨4, 163, 11284302696536965525117808974377902259991303490748277851633340419809029354894163539364733534990555824014925834598620091354349452801441542742124132228236141162706766231558880050278751979602102939464204514917749194192222636720534671573617812980308532674542573921166558619044131670562494064101634729320337924814042578427490812296875309011449941339882483440092659151474512738227297462517761, []⟩
def bru32L : List Int := [0, 1, 28, 2, 29, 14, 24, 3, 30, 22, 20, 15, 25, 17, 4, 8, 31, 27, 13, 23, 21, 19, 16, 7, 26, 12, 18, 6, 11, 5, 10, 9]
def bru32V : Vw := ⟨5, 256, 15767175685834183835934298259973079793293177615118965814828510599114482368455335967211043125935992801473127272698435781752722189466411665892914463111412635366163216508243209175876652655245583540379724727697078281533211949827629062877384608316694354886391433315255382322659850039533755858513496519007356648629187903770284344635160431021045398470458870868009405060236885821007376526282235981737147644796957369882704196206444863653574441710277972025879051927117170696362143320019302631975886044796253342304023076326905948190009817108874681439520726598627829285317638791312432170011719706270829763362816, []⟩
def bru64L : List Int := [0, 1, 56, 2, 57, 49, 28, 3, 61, 58, 42, 50, 38, 29, 17, 4, 62, 47, 59, 36, 45, 43, 51, 22, 53, 39, 33, 30, 24, 18, 12, 5, 63, 55, 48, 27, 60, 41, 37, 16, 46, 35, 44, 21, 52, 32, 23, 11, 54, 26, 40, 15, 34, 20, 31, 10, 25, 14, 19, 9, 13, 8, 7, 6]
def bru64V : Vw := ⟨6, 512, 339698608244353742984467933645908204048975764294561783361928321938346870609654264994246834523029969603775189172418431391672198308316550096565398151848851926235425311065581584669528638392482755304312073933111189192203472561965459194686647630553017314562301912289584224464925814564852777495474693836530192714332899146381262412965102889509908010741649094956437865778174231470075945161657663046483674669801511402819501479420001263172674823243335544331556985872267976840699336650794224537276639301650714675441770947691805563116200010607533147745128962561839746893596766312646955848006317712509794321650803817043079960693918101195015118356184582231211689166929832703380930503253050751313640754794264820174815563109552947071384552542372274230151325719569186368671787239312261641632186957272822954901364872439914903038234233398725811602430470737200159059715308379283891767420370885711577272194336182229821445419304008513816439745579219475353354579924534147451944513643039533637939774497001077939837495314930774285733885242054682633414091071800998032554197523520740304101357776073184368030183711610118371279565453035607807938216326314381790282805214246816996157066943212720484388317933472115876938332060029987857175460970496, []⟩
def vwA : List Vw := [rowsV, asciiV, pow10V, bru32V, bru64V]
/-- The tables stand as they are laid. -/
def TabsA (w : World) : Prop := Lib.TabIs Tryz.prog w "calque/sel.rows" .i64 rowsL ∧ Lib.TabIs Tryz.prog w "strings.asciiSpace" .u8 asciiL ∧ Lib.TabIs Tryz.prog w "internal/strconv.uint64pow10" .u64 pow10L ∧ Lib.TabIs Tryz.prog w "math/bits.deBruijn32tab" .u8 bru32L ∧ Lib.TabIs Tryz.prog w "math/bits.deBruijn64tab" .u8 bru64L
set_option maxRecDepth 100000 in
theorem TabsA.vw {w : World} (h : TabsA w) : ∀ v ∈ vwA, VwT v w := by
  obtain ⟨h1, h2, h3, h4, h5⟩ := h
  intro v hv
  simp only [vwA, List.mem_cons, List.not_mem_nil, or_false] at hv
  rcases hv with rfl | rfl | rfl | rfl | rfl
  · exact vwT_of h1 (by kernel_rfl) rfl rfl (by kernel_rfl)
  · exact vwT_of h2 (by kernel_rfl) rfl rfl (by kernel_rfl)
  · exact vwT_of h3 (by kernel_rfl) rfl rfl (by kernel_rfl)
  · exact vwT_of h4 (by kernel_rfl) rfl rfl (by kernel_rfl)
  · exact vwT_of h5 (by kernel_rfl) rfl rfl (by kernel_rfl)
def extA : ExtT := fieldsX 109
set_option maxRecDepth 100000 in
theorem awake_yes : answersT Tryz.prog vwA extA 3000 16 = true := by kernel_rfl
theorem names_ok : namesOk Tryz.prog = true := by kernel_rfl
theorem asciiL_is : asciiL = Lib.asciiSpaceTab := by kernel_rfl
theorem ext_ok {w : World} (h : TabsA w) : ExtOk ⟨w, vwA⟩ (cxT Tryz.prog vwA) (fun _ _ => []) extA :=
  fieldsX_ok (enters Tryz.func109 (c := Tryz.f109.body.getD .skip) (by kernel_rfl) (by kernel_rfl)) (asciiL_is ▸ h.2.1) fun s w hs ha ht => Tryz.strings_Fields s w hs ha ht
theorem awake_any (w : World) (h : TabsA w) : Calls Tryz.prog 16 #[] w fun e w' => e = .returned (.bool true) ∧ Below w.heap.size w w' := calls_trueT names_ok awake_yes w h.vw (ext_ok h)
end Go.Proofs.YthcncbbnjbhdkaaGreatDoor

/- Layer 23: the immediates of layer 19 as symbols: what both Encodes answer. -/
namespace Go.Proofs.YthcncbbnjbhdkaaGreatDoor
open Go Go.Proofs Go.RowKit Go.CX Go.SX
open Lg (Enc EncE EncR EncRE agree)

/-- what both Encodes of layer 19 answer -/
noncomputable def encP (v : Int) : Int × Bool := open Classical in if h : ∃ p : Int × Bool, Enc v p.1 p.2 ∧ 0 ≤ p.1 ∧ p.1 ≤ 4294967295 then Classical.choose h else (0, false)
theorem encP_range (v : Int) : 0 ≤ (encP v).1 ∧ (encP v).1 ≤ 4294967295 := by
  unfold encP
  split
  · rename_i h; exact (Classical.choose_spec h).2
  · exact ⟨by decide, by decide⟩
theorem enc_one {v c c' : Int} {ok ok' : Bool} (h : Enc v c ok) (h' : Enc v c' ok') : c = c' ∧ ok = ok' := by
  rcases h with ⟨rfl, rfl, h⟩ | ⟨h0, rfl, t, ht, hw, first, rfl⟩ <;> rcases h' with ⟨rfl, rfl, h'⟩ | ⟨h0', rfl, t', ht', hw', first', rfl⟩
  · exact ⟨rfl, rfl⟩
  · exfalso
    rcases h with h | ⟨_, h⟩
    · exact h0' h
    · exact h t' ht' hw'
  · exfalso
    rcases h' with h' | ⟨_, h'⟩
    · exact h0 h'
    · exact h' t ht hw
  · have : t = t' := by
      by_cases a : t < t'
      · exact absurd hw (first' t a)
      · by_cases b : t' < t
        · exact absurd hw' (first t' b)
        · omega
    subst this; exact ⟨rfl, rfl⟩
theorem encP_is {v c : Int} {ok : Bool} (hv : Cq.U64 v) (h : Enc v c ok) : (c, ok) = encP v := by
  have hr : 0 ≤ c ∧ c ≤ 4294967295 := by
    cases ok
    · rw [h.no]; exact ⟨by decide, by decide⟩
    · have := (h.yes hv).1; omega
  have hex : ∃ p : Int × Bool, Enc v p.1 p.2 ∧ 0 ≤ p.1 ∧ p.1 ≤ 4294967295 := ⟨(c, ok), h, hr⟩
  unfold encP
  rw [dif_pos hex]
  have := enc_one h (Classical.choose_spec hex).1
  exact Prod.ext this.1 this.2
theorem least (p : Nat → Prop) : ∀ n, (∃ t, t < n ∧ p t) → ∃ t, t < n ∧ p t ∧ ∀ k, k < t → ¬ p k
  | 0, ⟨t, h, _⟩ => absurd h (by omega)
  | n + 1, ⟨t, h, hp⟩ => by
    by_cases g : ∃ t, t < n ∧ p t
    · obtain ⟨t, h1, h2⟩ := least p n g
      exact ⟨t, by omega, h2⟩
    · have : t = n := by
        by_cases e : t < n
        · exact absurd ⟨t, e, hp⟩ g
        · omega
      subst this
      exact ⟨t, h, hp, fun k hk hq => g ⟨k, hk, hq⟩⟩
theorem enc_exists (v : Int) : ∃ c ok, Enc v c ok := by
  by_cases h0 : v = 0
  · exact ⟨0, false, Or.inl ⟨rfl, rfl, Or.inl h0⟩⟩
  · by_cases g : ∃ t : Nat, t < Lg.szO v.toNat ∧ Lg.TW (Lg.szO v.toNat) (Lg.cnt v) t = v
    · obtain ⟨t, h1, h2, h3⟩ := least (fun t => Lg.TW (Lg.szO v.toNat) (Lg.cnt v) t = v) _ g
      exact ⟨_, true, Or.inr ⟨h0, rfl, t, h1, h2, h3, rfl⟩⟩
    · exact ⟨0, false, Or.inl ⟨rfl, rfl, Or.inr ⟨h0, fun t ht e => g ⟨t, ht, e⟩⟩⟩⟩
theorem encP_isR {v c : Int} {ok : Bool} (hv : Cq.U64 v) (h : EncR v c ok) : (c, ok) = encP v := by
  obtain ⟨c', ok', he⟩ := enc_exists v
  obtain ⟨rfl, rfl⟩ := agree hv he h
  exact encP_is hv he
/-- The symbol: thirteen bits of a word. -/
noncomputable def phS : Nat → List Value → List Value
  | 4, fl => [.int .u32 (encP (vint (fl.getD 0 undef))).1, .bool (encP (vint (fl.getD 0 undef))).2]
  | _, _ => []
def syS : List (Nat × List So) := [(4, [.int .u32, .bool])]
theorem fitS : ∀ f j args, (symS syS f j).has ((phS f args).getD j undef) := by
  intro f j args
  match f with
  | 4 =>
    match j with
    | 0 => exact ⟨_, rfl, (encP_range _).1, (encP_range _).2⟩
    | 1 => exact ⟨_, rfl⟩
    | j + 2 => exact trivial
  | 0 => exact trivial
  | 1 => exact trivial
  | 2 => exact trivial
  | 3 => exact trivial
  | f + 5 => exact trivial
theorem enc_ext {ws : Base} {cx : Cx} {φ : Nat → List Value → List Value} (hP : cx.P = Tryz.prog) (h4 : ∀ fl, φ 4 fl = phS 4 fl) : ExtOk ws cx φ (conX2 cx ⟨45, 4, [(false, [.int .u64])]⟩) := by
  refine conX2_ok ⟨by rw [hP]; exact enters Tryz.func45 (c := Tryz.f45.body.getD .skip) (by kernel_rfl) (by kernel_rfl), ?_⟩
  rw [hP]
  intro w' xs fl hb hp
  match xs, hp with
  | [x], ⟨f1, f2, hf, hs, hx, h2⟩ =>
    have h2 : f2 = [] := h2
    subst h2
    rw [List.append_nil] at hf
    subst hf
    have hx : fl = [x] := hx
    subst hx
    obtain ⟨v, rfl, g1, g2⟩ := hs.1
    have hv : Cq.U64 v := ⟨g1, by have : v ≤ 18446744073709551615 := g2; omega⟩
    refine (encode_any v hv w').mono ?_
    rintro e w'' ⟨⟨c, ok, rfl, he⟩, hd⟩
    have hq := encP_is hv he
    refine ⟨?_, hd.below⟩
    rw [h4]
    show _ = Ending.returned (.tuple #[.int .u32 (encP v).1, .bool (encP v).2])
    rw [← hq]
theorem renc_ext {ws : Base} {cx : Cx} {φ : Nat → List Value → List Value} (hP : cx.P = Tryz.prog) (h4 : ∀ fl, φ 4 fl = phS 4 fl) : ExtOk ws cx φ (conX2 cx ⟨48, 4, [(false, [.int .u64])]⟩) := by
  refine conX2_ok ⟨by rw [hP]; exact enters Tryz.func48 (c := Tryz.f48.body.getD .skip) (by kernel_rfl) (by kernel_rfl), ?_⟩
  rw [hP]
  intro w' xs fl hb hp
  match xs, hp with
  | [x], ⟨f1, f2, hf, hs, hx, h2⟩ =>
    have h2 : f2 = [] := h2
    subst h2
    rw [List.append_nil] at hf
    subst hf
    have hx : fl = [x] := hx
    subst hx
    obtain ⟨v, rfl, g1, g2⟩ := hs.1
    have hv : Cq.U64 v := ⟨g1, by have : v ≤ 18446744073709551615 := g2; omega⟩
    refine (rencode_any v hv w').mono ?_
    rintro e w'' ⟨⟨c, ok, rfl, he⟩, hd⟩
    have hq := encP_isR hv he
    refine ⟨?_, hd⟩
    rw [h4]
    show _ = Ending.returned (.tuple #[.int .u32 (encP v).1, .bool (encP v).2])
    rw [← hq]
end Go.Proofs.YthcncbbnjbhdkaaGreatDoor
