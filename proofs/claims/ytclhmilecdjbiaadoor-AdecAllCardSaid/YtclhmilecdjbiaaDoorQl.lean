/- strconv.FormatUint to the base ten: the number's decimal numeral. The laid tables that the walks of a64 read. -/
import Derived.Test.YtclhmilecdjbiaaDoorRows
import Derived.Test.YtclhmilecdjbiaaDoorShelf
import Derived.WalkKit
import Derived.WalkLawsBesides
import Derived.WalkSpells
import Derived.LoopTactic
import Derived.Lib.Hide
import Derived.Lib.AppendIntMem
import Derived.Deep.QuietTactic
import Derived.BigQuiet
import Derived.Below
import Derived.Test.YtclhmilecdjbiaaDoorProg
import Derived.Test.YtclhmilecdjbiaaDoorCXqa
import Derived.KernelRfl
import Derived.Test.YtclhmilecdjbiaaDoorLq
import Derived.Test.YtclhmilecdjbiaaDoorLw
import Derived.Test.YtclhmilecdjbiaaDoorCXlw
namespace Go.Proofs.YtclhmilecdjbiaaDoor
open Go.RowKit Go.Sort
theorem grow_below (w : World) (k : Nat) (os : Array Obj) : Below w.heap.size w (grow (w.drewN k) os) := by
  refine ⟨rfl, rfl, rfl, ?_, fun i hi => ?_⟩
  · show w.heap.size ≤ (w.heap ++ os).size
    rw [Array.size_append]; omega
  · show (w.heap ++ os)[i]? = _
    rw [Array.getElem?_append_left hi]
theorem sliceA (W : World) (b : Nat) (n : Nat) (hn : n ≤ 24) : (Instr.sliceAt 127 (.pointer (some ⟨b, 0, none⟩)) none (some (.int .i64 (n : Int))) none).run Tryd.prog W = .ok (.slice (some ⟨b, 0, none⟩) n 24) W := by
  rw [run_sliceAt_array_h W 127 ⟨b, 0, none⟩ (by simp [Program.arrayLen, Program.elem, Tryd.underlying127]) .i64 (n : Int) (by omega) (by
    rw [show Tryd.prog.arrayLen 127 = 24 by simp [Program.arrayLen, Tryd.underlying127]]; omega)]
  go_simp
set_option maxRecDepth 100000 in
theorem iformatUint_any (u : Nat) (hu : u < 18446744073709551616) (w : World) (htab : Lib.TabIs Tryd.prog w "internal/strconv.uint64pow10" .u64 Lib.pow10Tab) :
    Calls Tryd.prog 85 #[.int .u64 u, .int .i64 10] w fun e w' => e = .returned (.string ⟨(Lib.decDigits u).toArray⟩) ∧ Below w.heap.size w w' := by
  by_cases hi : u < 100
  · have hi' : (u : Int) < 100 := by omega
    go_enter Tryd.func85, Tryd.ntmps85
    go_wp2_with fail
    refine (Tryd.internal_strconv_small u hi _).mono ?_; rintro e w' ⟨rfl, rfl⟩
    go_wp2_with fail
    go_ret
    exact ⟨rfl, Below.refl _ _⟩
  · have hi' : (100 : Int) ≤ u := by omega
    have hu1 : 1 ≤ u := by omega
    have hnd20 : Lib.nDigits u ≤ 20 := by have := Lib.numDigits_eq u hu1 hu; split at this <;> omega
    have hsl := fun W => sliceA W w.heap.size (Lib.nDigits u) (by omega)
    have hH0 := Lib.holds_zero0 w 127 (Lib.nDigits u) (by omega)
    have hfmt := Tryd.internal_strconv_formatBase10 w.heap.size 0 24 u (Array.replicate (Lib.nDigits u) 0) (w.alloc (.cells Lib.zeros24 127)) hH0 (by rw [Array.size_replicate]; exact Lib.lt_pow_nDigits u) hu (by rw [Array.size_replicate]; omega)
    rw [Array.size_replicate] at hfmt
    have HH0 := Lib.hid hH0
    clear hH0 hi
    go_enter Tryd.func85, Tryd.ntmps85
    go_wp2_with fail
    refine (Tryd.internal_strconv_numDigits u hu1 hu _ (Lib.tabIs_alloc htab _)).mono ?_; rintro e w' ⟨rfl, rfl⟩
    go_wp2_with fail
    refine hfmt.mono ?_
    rintro e w' ⟨rfl, k, v', dk, rfl, hF⟩
    have hcv : (convert 129 9 (.slice (some ⟨w.heap.size, 0, none⟩) (Lib.nDigits u) 24)).run Tryd.prog ((putRow (fun (b : UInt8) => Value.int .u8 (b.toNat : Int)) (w.alloc (.cells Lib.zeros24 127)) w.heap.size 0 dk).drewN k) = .ok (.string ⟨(Lib.decDigits u).toArray⟩) ((putRow (fun (b : UInt8) => Value.int .u8 (b.toNat : Int)) (w.alloc (.cells Lib.zeros24 127)) w.heap.size 0 dk).drewN k) := by
      have h := run_convert_bytes_back (P := Tryd.prog) ((putRow (fun (b : UInt8) => Value.int .u8 (b.toNat : Int)) (w.alloc (.cells Lib.zeros24 127)) w.heap.size 0 dk).drewN k) 129 9 5 ⟨w.heap.size, 0, none⟩ 24 (Lib.decDigits u) Tryd.underlying129 Tryd.underlying5 Tryd.underlying9 (fun j hj => by
        rw [Lib.row_is_numeral hF j hj, Lib.add_plain, World.cell?_drewN]
        exact cell?_putRow (fun (b : UInt8) => Value.int .u8 (b.toNat : Int)) _ w.heap.size 0 _ dk HH0.out (by rw [hF.size, Array.size_replicate]) j (by rw [hF.size]; rw [Lib.decDigits_length] at hj; exact hj))
      rw [Lib.decDigits_length] at h
      exact h
    go_wp2
    go_ret
    obtain ⟨os, eo⟩ := Lib.fin_at w (.cells Lib.zeros24 127) dk k 0
    exact ⟨rfl, by rw [eo]; exact grow_below _ _ _⟩
theorem formatUint_any (u : Nat) (hu : u < 18446744073709551616) (w : World) (htab : Lib.TabIs Tryd.prog w "internal/strconv.uint64pow10" .u64 Lib.pow10Tab) :
    Calls Tryd.prog 72 #[.int .u64 u, .int .i64 10] w fun e w' => e = .returned (.string ⟨(Lib.decDigits u).toArray⟩) ∧ Below w.heap.size w w' := by
  go_enter Tryd.func72, Tryd.ntmps72
  go_wp2_with fail
  refine (iformatUint_any u hu _ htab).mono ?_; rintro e w' ⟨rfl, b⟩
  have B := Lib.hid b
  clear b
  go_wp2_with fail
  go_ret
  exact ⟨rfl, B.out⟩
end Go.Proofs.YtclhmilecdjbiaaDoor
/- Layer 20's closing example answers true: its run is carried out by the kernel over the laid tables, strings.Fields by its contract. -/
namespace Go.Proofs.YtclhmilecdjbiaaDoor
open Go Go.Proofs Go.RowKit Go.CX Go.SX
def basesL : List Int := [0, 2432696320, 3506438144, 2969567232, 4043309056, 2332033024, 3405774848, 2868903936, 3942645760, 2315255808, 2852126720, 3388997632, 3925868544, 2449473536, 2986344448, 3523215360, 3531603968, 2457862144, 4068474880, 2600468480, 2600501248, 2613083136, 2604694528, 2596276224, 2596277248, 2596282368, 2596283392, 2596284416, 2596285440, 3544186880, 2470445056, 2592079872, 2592080896, 960495616, 956301312, 952090624, 144702464, 140508160, 134282240, 3573756095, 335544320, 1409286144, 3019898880, 3036676096, 3592355840, 3556769793, 3558866944, 3573751839]
def basesV : Vw := ⟨0, 386, 1125515160120268125591293722438330481340355054085106826412785454724725524824143994888924829015793662554590615914435433842655967383264029879440332394482588048070642730433516267673363665400716258004651559843325320287200378338243773911750715351191399951879004803767909416730608891449368738472115098674820609420689459699020335139111867267063790433245957745687248948105302141045019638456468046143356075708103136146373995690642854191214158257350420168930802723330577384668842785288539007558318255672322684334315342662269729582483504311575648135033634479290859215270228783970706323943025524761533915354867111973473844707270767995534390468435731108625987670164849965358827743742778003403727247382813559656303795891860849332313001867103452967205811036276310752414057640037959137106372211333521850671754222557574655731494935814834370219273294252493435749309251231496160816618069050460311118468425669862107245072512800885047296, []⟩
def asciiL : List Int := [0, 0, 0, 0, 0, 0, 0, 0, 0, 1, 1, 1, 1, 1, 0, 0, 0, 0, 0, 0, 0, 0, 0, 0, 0, 0, 0, 0, 0, 0, 0, 0, 1, 0, 0, 0, 0, 0, 0, 0, 0, 0, 0, 0, 0, 0, 0, 0, 0, 0, 0, 0, 0, 0, 0, 0, 0, 0, 0, 0, 0, 0, 0, 0, 0, 0, 0, 0, 0, 0, 0, 0, 0, 0, 0, 0, 0, 0, 0, 0, 0, 0, 0, 0, 0, 0, 0, 0, 0, 0, 0, 0, 0, 0, 0, 0, 0, 0, 0, 0, 0, 0, 0, 0, 0, 0, 0, 0, 0, 0, 0, 0, 0, 0, 0, 0, 0, 0, 0, 0, 0, 0, 0, 0, 0, 0, 0, 0, 0, 0, 0, 0, 0, 0, 0, 0, 0, 0, 0, 0, 0, 0, 0, 0, 0, 0, 0, 0, 0, 0, 0, 0, 0, 0, 0, 0, 0, 0, 0, 0, 0, 0, 0, 0, 0, 0, 0, 0, 0, 0, 0, 0, 0, 0, 0, 0, 0, 0, 0, 0, 0, 0, 0, 0, 0, 0, 0, 0, 0, 0, 0, 0, 0, 0, 0, 0, 0, 0, 0, 0, 0, 0, 0, 0, 0, 0, 0, 0, 0, 0, 0, 0, 0, 0, 0, 0, 0, 0, 0, 0, 0, 0, 0, 0, 0, 0, 0, 0, 0, 0, 0, 0, 0, 0, 0, 0, 0, 0, 0, 0, 0, 0, 0, 0, 0, 0, 0, 0, 0, 0, 0, 0, 0, 0, 0, 0]
def asciiV : Vw := ⟨1, 2048, 32317006071311007300714876688669951960444102669715484032130345427524655138867890893197201411522913463688717960921898019494119559150490921095088152386448283120630877367300996091750197750389652106796057638384067568276792218642619756161838094338476170470581645852036305042887575891541065808607552399123930385521914333389668342420684974786564569494856176035326322058077834298234944667669666285452284568411603071606778661647522676111596522617172005554539921292629409162714363290550457223540202805469973092075247389724280500083808311699562656809771106754039414985896334328332185032416588958318708213567516445418012054388736, []⟩
def pow10L : List Int := [1, 10, 100, 1000, 10000, 100000, 1000000, 10000000, 100000000, 1000000000, 10000000000, 100000000000, 1000000000000, 10000000000000, 100000000000000, 1000000000000000, 10000000000000000, 100000000000000000, 1000000000000000000, 10000000000000000000]
def pow10V : Vw := ⟨3, 163, 11284302696536965525117808974377902259991303490748277851633340419809029354894163539364733534990555824014925834598620091354349452801441542742124132228236141162706766231558880050278751979602102939464204514917749194192222636720534671573617812980308532674542573921166558619044131670562494064101634729320337924814042578427490812296875309011449941339882483440092659151474512738227297462517761, []⟩
def bru32L : List Int := [0, 1, 28, 2, 29, 14, 24, 3, 30, 22, 20, 15, 25, 17, 4, 8, 31, 27, 13, 23, 21, 19, 16, 7, 26, 12, 18, 6, 11, 5, 10, 9]
def bru32V : Vw := ⟨4, 256, 15767175685834183835934298259973079793293177615118965814828510599114482368455335967211043125935992801473127272698435781752722189466411665892914463111412635366163216508243209175876652655245583540379724727697078281533211949827629062877384608316694354886391433315255382322659850039533755858513496519007356648629187903770284344635160431021045398470458870868009405060236885821007376526282235981737147644796957369882704196206444863653574441710277972025879051927117170696362143320019302631975886044796253342304023076326905948190009817108874681439520726598627829285317638791312432170011719706270829763362816, []⟩
def bru64L : List Int := [0, 1, 56, 2, 57, 49, 28, 3, 61, 58, 42, 50, 38, 29, 17, 4, 62, 47, 59, 36, 45, 43, 51, 22, 53, 39, 33, 30, 24, 18, 12, 5, 63, 55, 48, 27, 60, 41, 37, 16, 46, 35, 44, 21, 52, 32, 23, 11, 54, 26, 40, 15, 34, 20, 31, 10, 25, 14, 19, 9, 13, 8, 7, 6]
def bru64V : Vw := ⟨5, 512, 339698608244353742984467933645908204048975764294561783361928321938346870609654264994246834523029969603775189172418431391672198308316550096565398151848851926235425311065581584669528638392482755304312073933111189192203472561965459194686647630553017314562301912289584224464925814564852777495474693836530192714332899146381262412965102889509908010741649094956437865778174231470075945161657663046483674669801511402819501479420001263172674823243335544331556985872267976840699336650794224537276639301650714675441770947691805563116200010607533147745128962561839746893596766312646955848006317712509794321650803817043079960693918101195015118356184582231211689166929832703380930503253050751313640754794264820174815563109552947071384552542372274230151325719569186368671787239312261641632186957272822954901364872439914903038234233398725811602430470737200159059715308379283891767420370885711577272194336182229821445419304008513816439745579219475353354579924534147451944513643039533637939774497001077939837495314930774285733885242054682633414091071800998032554197523520740304101357776073184368030183711610118371279565453035607807938216326314381790282805214246816996157066943212720484388317933472115876938332060029987857175460970496, []⟩
def vwA : List Vw := [basesV, asciiV, pow10V, bru32V, bru64V]
/-- The tables stand as they are laid. -/
def TabsA (w : World) : Prop := Lib.TabIs Tryd.prog w "calque/a64.bases" .u32 basesL ∧ Lib.TabIs Tryd.prog w "strings.asciiSpace" .u8 asciiL ∧ Lib.TabIs Tryd.prog w "internal/strconv.uint64pow10" .u64 pow10L ∧ Lib.TabIs Tryd.prog w "math/bits.deBruijn32tab" .u8 bru32L ∧ Lib.TabIs Tryd.prog w "math/bits.deBruijn64tab" .u8 bru64L
set_option maxRecDepth 100000 in
theorem TabsA.vw {w : World} (h : TabsA w) : ∀ v ∈ vwA, VwT v w := by
  obtain ⟨h1, h2, h3, h4, h5⟩ := h
  intro v hv
  simp only [vwA, List.mem_cons, List.not_mem_nil, or_false] at hv
  rcases hv with rfl | rfl | rfl | rfl | rfl
  · exact vwT_of h1 (by kernel_rfl) rfl rfl (by kernel_rfl)
  · exact vwT_of h2 (by kernel_rfl) rfl rfl (by kernel_rfl)
  · exact vwT_of h3 (by kernel_rfl) rfl rfl (by kernel_rfl)
  · exact vwT_of h4 (by kernel_rfl) rfl rfl (by kernel_rfl)
  · exact vwT_of h5 (by kernel_rfl) rfl rfl (by kernel_rfl)
def extA : ExtT := fieldsX 37
theorem names_ok : namesOk Tryd.prog = true := by kernel_rfl
theorem asciiL_is : asciiL = Lib.asciiSpaceTab := by kernel_rfl
theorem ext_ok {w : World} (h : TabsA w) : ExtOk ⟨w, vwA⟩ (cxT Tryd.prog vwA) (fun _ _ => []) extA :=
  fieldsX_ok (enters Tryd.func37 (c := Tryd.f37.body.getD .skip) (by kernel_rfl) (by kernel_rfl)) (asciiL_is ▸ h.2.1) fun s w hs ha ht => Tryd.strings_Fields s w hs ha ht
end Go.Proofs.YtclhmilecdjbiaaDoor
/- What the walks of a64 call by contract: texts of numbers, the immediates of layer 19; as symbols. -/
namespace Go.Proofs.YtclhmilecdjbiaaDoor
open Go Go.Proofs Go.RowKit Go.CX Go.SX
open Lg (Enc EncE EncR EncRE agree)
theorem dec_len {u : Nat} (h : u < 18446744073709551616) : (Lib.decDigits u).length ≤ 20 := by
  by_cases h0 : u = 0
  · subst h0; rw [Lib.decDigits, dif_pos (by omega)]; simp
  · rw [Lib.decDigits_length]; have := Lib.numDigits_eq u (by omega) h; split at this <;> omega
theorem itoa_len {n : Int} (h : -9223372036854775808 ≤ n ∧ n ≤ 9223372036854775807) : (Lib.itoa n).length ≤ 21 := by
  by_cases h0 : 0 ≤ n
  · obtain ⟨u, rfl⟩ := Int.eq_ofNat_of_zero_le h0
    have := dec_len (u := u) (by omega)
    rw [Lib.itoa_nonneg]; omega
  · obtain ⟨u, rfl⟩ : ∃ u : Nat, n = -(u : Int) := ⟨n.natAbs, by omega⟩
    have := dec_len (u := u) (by omega)
    rw [Lib.itoa_neg u (by omega), List.length_cons]; omega
/-- what both Encodes of layer 19 answer -/
noncomputable def encP (v : Int) : Int × Bool := open Classical in if h : ∃ p : Int × Bool, Enc v p.1 p.2 ∧ 0 ≤ p.1 ∧ p.1 ≤ 4294967295 then Classical.choose h else (0, false)
theorem encP_range (v : Int) : 0 ≤ (encP v).1 ∧ (encP v).1 ≤ 4294967295 := by
  unfold encP
  split
  · rename_i h; exact (Classical.choose_spec h).2
  · exact ⟨by decide, by decide⟩
theorem enc_one {v c c' : Int} {ok ok' : Bool} (h : Enc v c ok) (h' : Enc v c' ok') : c = c' ∧ ok = ok' := by
  rcases h with ⟨rfl, rfl, h⟩ | ⟨h0, rfl, t, ht, hw, first, rfl⟩ <;> rcases h' with ⟨rfl, rfl, h'⟩ | ⟨h0', rfl, t', ht', hw', first', rfl⟩
  · exact ⟨rfl, rfl⟩
  · exfalso
    rcases h with h | ⟨_, h⟩
    · exact h0' h
    · exact h t' ht' hw'
  · exfalso
    rcases h' with h' | ⟨_, h'⟩
    · exact h0 h'
    · exact h' t ht hw
  · have : t = t' := by
      by_cases a : t < t'
      · exact absurd hw (first' t a)
      · by_cases b : t' < t
        · exact absurd hw' (first t' b)
        · omega
    subst this; exact ⟨rfl, rfl⟩
theorem encP_is {v c : Int} {ok : Bool} (hv : Cq.U64 v) (h : Enc v c ok) : (c, ok) = encP v := by
  have hr : 0 ≤ c ∧ c ≤ 4294967295 := by
    cases ok
    · rw [h.no]; exact ⟨by decide, by decide⟩
    · have := (h.yes hv).1; omega
  have hex : ∃ p : Int × Bool, Enc v p.1 p.2 ∧ 0 ≤ p.1 ∧ p.1 ≤ 4294967295 := ⟨(c, ok), h, hr⟩
  unfold encP
  rw [dif_pos hex]
  have := enc_one h (Classical.choose_spec hex).1
  exact Prod.ext this.1 this.2
theorem least (p : Nat → Prop) : ∀ n, (∃ t, t < n ∧ p t) → ∃ t, t < n ∧ p t ∧ ∀ k, k < t → ¬ p k
  | 0, ⟨t, h, _⟩ => absurd h (by omega)
  | n + 1, ⟨t, h, hp⟩ => by
    by_cases g : ∃ t, t < n ∧ p t
    · obtain ⟨t, h1, h2⟩ := least p n g
      exact ⟨t, by omega, h2⟩
    · have : t = n := by
        by_cases e : t < n
        · exact absurd ⟨t, e, hp⟩ g
        · omega
      subst this
      exact ⟨t, h, hp, fun k hk hq => g ⟨k, hk, hq⟩⟩
theorem enc_exists (v : Int) : ∃ c ok, Enc v c ok := by
  by_cases h0 : v = 0
  · exact ⟨0, false, Or.inl ⟨rfl, rfl, Or.inl h0⟩⟩
  · by_cases g : ∃ t : Nat, t < Lg.szO v.toNat ∧ Lg.TW (Lg.szO v.toNat) (Lg.cnt v) t = v
    · obtain ⟨t, h1, h2, h3⟩ := least (fun t => Lg.TW (Lg.szO v.toNat) (Lg.cnt v) t = v) _ g
      exact ⟨_, true, Or.inr ⟨h0, rfl, t, h1, h2, h3, rfl⟩⟩
    · exact ⟨0, false, Or.inl ⟨rfl, rfl, Or.inr ⟨h0, fun t ht e => g ⟨t, ht, e⟩⟩⟩⟩
theorem encP_isR {v c : Int} {ok : Bool} (hv : Cq.U64 v) (h : EncR v c ok) : (c, ok) = encP v := by
  obtain ⟨c', ok', he⟩ := enc_exists v
  obtain ⟨rfl, rfl⟩ := agree hv he h
  exact encP_is hv he
/-- what the symbols mean: 1 a number's text, 2 a number's without sign, 4 thirteen bits of a word -/
noncomputable def phE : Nat → List Value → List Value
  | 1, fl => [.string ⟨(Lib.itoa (IntKind.i64.wrap (vint (fl.getD 0 undef)))).toArray⟩]
  | 2, fl => [.string ⟨(Lib.decDigits (IntKind.u64.wrap (vint (fl.getD 0 undef))).toNat).toArray⟩]
  | 4, fl => [.int .u32 (encP (vint (fl.getD 0 undef))).1, .bool (encP (vint (fl.getD 0 undef))).2]
  | _, _ => []
def syE : List (Nat × List So) := [(1, [.str]), (2, [.str]), (4, [.int .u32, .bool])]
theorem fitE : ∀ f j args, (symS syE f j).has ((phE f args).getD j undef) := by
  intro f j args
  match f with
  | 1 =>
    cases j with
    | zero =>
      refine ⟨_, rfl, ?_⟩
      have := itoa_len (n := IntKind.i64.wrap (vint (args.getD 0 undef))) (by rw [IntKind.wrap_i64]; omega)
      show (Lib.itoa _).toArray.size ≤ _
      rw [List.size_toArray]; omega
    | succ j => exact trivial
  | 2 =>
    cases j with
    | zero =>
      refine ⟨_, rfl, ?_⟩
      have := dec_len (u := (IntKind.u64.wrap (vint (args.getD 0 undef))).toNat) (by rw [IntKind.wrap_u64]; omega)
      show (Lib.decDigits _).toArray.size ≤ _
      rw [List.size_toArray]; omega
    | succ j => exact trivial
  | 4 =>
    match j with
    | 0 => exact ⟨_, rfl, (encP_range _).1, (encP_range _).2⟩
    | 1 => exact ⟨_, rfl⟩
    | j + 2 => exact trivial
  | 0 => exact trivial
  | 3 => exact trivial
  | f + 5 => exact trivial
def ssE : List So := [.int .i64, .int .i64, .int .i64, .int .i64, .int .i64, .int .i64, .int .u64, .int .i64, .int .i64, .int .i64, .int .i64]
/-- The context: an instruction's eleven cells. -/
noncomputable def cxE : Cx := ⟨Tryd.prog, ssE, [], vwA, syE⟩
noncomputable def extE : ExtT := orX (orX (numX cxE 38 1 (.int .i64) []) (orX (numX cxE 72 2 (.int .u64) [.int .i64 10]) (numX cxE 75 1 (.int .i64) [.int .i64 10])))
  (orX (fieldsX 37) (orX (conX2 cxE ⟨74, 4, [(false, [.int .u64])]⟩) (conX2 cxE ⟨35, 4, [(false, [.int .u64])]⟩)))
theorem TabsA.same {w w' : World} (h : TabsA w) (hb : ∀ k, k < w.heap.size → w'.heap[k]? = w.heap[k]?) : TabsA w' := by
  have one : ∀ {nm : String} {k : IntKind} {zs : List Int}, Lib.TabIs Tryd.prog w nm k zs → Lib.TabIs Tryd.prog w' nm k zs := by
    intro nm k zs h
    unfold Lib.TabIs World.var? at *
    cases hg : Tryd.prog.globalNamed nm with
    | none => rw [hg] at h; simp at h
    | some g =>
      rw [hg] at h
      simp only [Option.bind_some] at h ⊢
      have hlt : g < w.heap.size := by
        cases hq : w.heap[g]? with
        | none => rw [hq] at h; simp at h
        | some o => exact (Array.getElem?_eq_some_iff.1 hq).1
      rw [hb g hlt]
      exact h
  obtain ⟨h1, h2, h3, h4, h5⟩ := h
  exact ⟨one h1, one h2, one h3, one h4, one h5⟩
theorem pow10L_is : pow10L = Lib.pow10Tab := by kernel_rfl
theorem TabsA.pow {w : World} (h : TabsA w) : Lib.TabIs Tryd.prog w "internal/strconv.uint64pow10" .u64 Lib.pow10Tab := pow10L_is ▸ h.2.2.1
theorem extE_ok {w : World} (h : TabsA w) : ExtOk ⟨w, vwA⟩ cxE phE extE := by
  refine orX_ok (orX_ok (numX_ok (enters Tryd.func38 (c := Tryd.f38.body.getD .skip) (by kernel_rfl) (by kernel_rfl)) ?_)
      (orX_ok (numX_ok (enters Tryd.func72 (c := Tryd.f72.body.getD .skip) (by kernel_rfl) (by kernel_rfl)) ?_)
        (numX_ok (enters Tryd.func75 (c := Tryd.f75.body.getD .skip) (by kernel_rfl) (by kernel_rfl)) ?_)))
    (orX_ok (fieldsX_ok (enters Tryd.func37 (c := Tryd.f37.body.getD .skip) (by kernel_rfl) (by kernel_rfl)) (asciiL_is ▸ h.2.1) fun s w hs ha ht => Tryd.strings_Fields s w hs ha ht)
      (orX_ok (conX2_ok ⟨enters Tryd.func74 (c := Tryd.f74.body.getD .skip) (by kernel_rfl) (by kernel_rfl), ?_⟩)
        (conX2_ok ⟨enters Tryd.func35 (c := Tryd.f35.body.getD .skip) (by kernel_rfl) (by kernel_rfl), ?_⟩)))
  · rintro w' v hb ⟨n, rfl, h1, h2⟩
    refine (Tryd.strconv_Itoa n h1 h2 w' (h.same hb).pow).mono ?_
    rintro e w'' ⟨rfl, k, os, rfl⟩
    refine ⟨?_, grow_below _ _ _⟩
    show _ = Ending.returned (.string ⟨(Lib.itoa (IntKind.i64.wrap n)).toArray⟩)
    rw [IntWalk.i64_in n ⟨h1, h2⟩]
  · rintro w' v hb ⟨n, rfl, h1, h2⟩
    obtain ⟨u, rfl⟩ := Int.eq_ofNat_of_zero_le (show 0 ≤ n from h1)
    have h2 : (u : Int) ≤ 18446744073709551615 := h2
    refine (formatUint_any u (by omega) w' (h.same hb).pow).mono ?_
    rintro e w'' ⟨rfl, hbl⟩
    refine ⟨?_, hbl⟩
    show _ = Ending.returned (.string ⟨(Lib.decDigits (IntKind.u64.wrap (u : Int)).toNat).toArray⟩)
    rw [IntWalk.u64_in (u : Int) ⟨by omega, by omega⟩]; rfl
  · rintro w' v hb ⟨n, rfl, h1, h2⟩
    refine (Tryd.strconv_FormatInt_10 n h1 h2 w' (h.same hb).pow).mono ?_
    rintro e w'' ⟨rfl, k, os, rfl⟩
    refine ⟨?_, grow_below _ _ _⟩
    show _ = Ending.returned (.string ⟨(Lib.itoa (IntKind.i64.wrap n)).toArray⟩)
    rw [IntWalk.i64_in n ⟨h1, h2⟩]
  · intro w' xs fl hb hp
    match xs, hp with
    | [x], ⟨f1, f2, hf, hs, hx, h2⟩ =>
      have h2 : f2 = [] := h2
      subst h2
      rw [List.append_nil] at hf
      subst hf
      have hx : fl = [x] := hx
      subst hx
      obtain ⟨v, rfl, g1, g2⟩ := hs.1
      have hv : Cq.U64 v := ⟨g1, by have : v ≤ 18446744073709551615 := g2; omega⟩
      refine (encode_any v hv w').mono ?_
      rintro e w'' ⟨⟨c, ok, rfl, he⟩, hd⟩
      have hq := encP_is hv he
      refine ⟨?_, hd.below⟩
      show _ = Ending.returned (.tuple #[.int .u32 (encP v).1, .bool (encP v).2])
      rw [← hq]
  · intro w' xs fl hb hp
    match xs, hp with
    | [x], ⟨f1, f2, hf, hs, hx, h2⟩ =>
      have h2 : f2 = [] := h2
      subst h2
      rw [List.append_nil] at hf
      subst hf
      have hx : fl = [x] := hx
      subst hx
      obtain ⟨v, rfl, g1, g2⟩ := hs.1
      have hv : Cq.U64 v := ⟨g1, by have : v ≤ 18446744073709551615 := g2; omega⟩
      refine (rencode_any v hv w').mono ?_
      rintro e w'' ⟨⟨c, ok, rfl, he⟩, hd⟩
      have hq := encP_isR hv he
      refine ⟨?_, hd⟩
      show _ = Ending.returned (.tuple #[.int .u32 (encP v).1, .bool (encP v).2])
      rw [← hq]
end Go.Proofs.YtclhmilecdjbiaaDoor
/- Whether numbers have so many bits: of the code and of the document. -/
namespace Go.Proofs.YtclhmilecdjbiaaDoor
open Go.RowKit
open Cq (U32 U64 I64 inF field withF onesF fieldN withN ones fitsU fits)
theorem fits_any (v n : Int) (hv : I64 v) (hn : I64 n) (W : World) : Calls Tryd.prog 76 #[.int .i64 v, .int .i64 n] W
    fun e W' => e = .returned (.bool (fits v n)) ∧ W = W' := by
  unfold I64 at hn
  by_cases h1 : n < 1
  · rw [show fits v n = false by unfold fits; rw [decide_eq_false (by omega)]; rfl]
    go_enter Tryd.func76, Tryd.ntmps76
    go_wp2
    go_ret
    exact ⟨rfl, rfl⟩
  · by_cases h2 : 64 < n
    · rw [show fits v n = false by unfold fits; rw [decide_eq_false (by omega)]; rfl]
      have h1' := Int.not_lt.mp h1
      clear h1
      go_enter Tryd.func76, Tryd.ntmps76
      go_wp2
      go_ret
      exact ⟨rfl, rfl⟩
    · obtain ⟨k, rfl⟩ : ∃ k : Nat, n = (k : Int) + 1 := ⟨(n - 1).toNat, by omega⟩
      have hk : k ≤ 63 := by omega
      have HF : Hid (fits v (k + 1) = (v / 2 ^ k == 0 || v / 2 ^ k == -1)) := by
        show fits v (k + 1) = _
        rw [Cq.fits_code hv]; unfold fits; rw [decide_eq_true (by omega), Bool.true_and, show ((k : Int) + 1 - 1).toNat = k from by omega]
      have h1' := Int.not_lt.mp h1
      have h2' := Int.not_lt.mp h2
      clear h1 h2 hn
      by_cases hz : v / 2 ^ k = 0
      · have hz1 : (v / 2 ^ k == 0) = true := by simpa using hz
        go_enter Tryd.func76, Tryd.ntmps76
        go_wp2
        go_ret
        exact ⟨by rw [HF.out, hz1]; rfl, rfl⟩
      · have hz1 : (v / 2 ^ k == 0) = false := by simpa using hz
        clear hz
        go_enter Tryd.func76, Tryd.ntmps76
        go_wp2
        go_ret
        exact ⟨by rw [HF.out, hz1]; rfl, rfl⟩
theorem fitsU_at (w : World) (v : Int) (k : Nat) (h0 : 0 ≤ v) (h1 : v ≤ 18446744073709551615) (k0 : 0 < k) (k1 : k < 63) : Calls Tryd.prog 73 #[.int .u64 v, .int .i64 (Int.ofNat k)] w fun e w' => e = .returned (.bool (decide (v < 2 ^ k))) ∧ Below w.heap.size w w' := by
  refine (fitsU_any v (Int.ofNat k) ⟨h0, by omega⟩ ⟨by have : (0 : Int) ≤ Int.ofNat k := Int.natCast_nonneg k; omega, by have : Int.ofNat k = (k : Int) := rfl; omega⟩ w).mono ?_
  rintro e w' ⟨rfl, rfl⟩
  refine ⟨?_, Below.refl _ _⟩
  congr 2
  unfold fitsU
  have hp : (0 : Int) < 2 ^ k := Int.pow_pos (by omega)
  rw [decide_eq_true (show 1 ≤ Int.ofNat k ∧ Int.ofNat k ≤ 64 by simp; omega), Bool.true_and, show (Int.ofNat k).toNat = k from rfl]
  apply decide_eq_decide.2
  constructor
  · intro h
    have := Int.lt_ediv_add_one_mul_self v hp
    rw [h] at this; omega
  · intro h
    exact Int.ediv_eq_zero_of_lt h0 h
theorem fits_at (w : World) (v : Int) (k : Nat) (h0 : -9223372036854775808 ≤ v) (h1 : v ≤ 9223372036854775807) (hk : k = 21 ∨ k = 28) : Calls Tryd.prog 76 #[.int .i64 v, .int .i64 (Int.ofNat k)] w fun e w' => e = .returned (.bool (decide (-(2 : Int) ^ (k - 1) ≤ v ∧ v < 2 ^ (k - 1)))) ∧ Below w.heap.size w w' := by
  refine (fits_any v (Int.ofNat k) ⟨h0, h1⟩ ⟨by rcases hk with rfl | rfl <;> decide, by rcases hk with rfl | rfl <;> decide⟩ w).mono ?_
  rintro e w' ⟨rfl, rfl⟩
  refine ⟨?_, Below.refl _ _⟩
  congr 2
  unfold fits
  rcases hk with rfl | rfl
  · rw [decide_eq_true (by decide), Bool.true_and]
    apply decide_eq_decide.2
    show v / 2 ^ 20 = v / 9223372036854775808 ↔ -(2 : Int) ^ 20 ≤ v ∧ v < 2 ^ 20
    omega
  · rw [decide_eq_true (by decide), Bool.true_and]
    apply decide_eq_decide.2
    show v / 2 ^ 27 = v / 9223372036854775808 ↔ -(2 : Int) ^ 27 ≤ v ∧ v < 2 ^ 27
    omega
theorem rfits_at (w : World) (v : Int) (k : Nat) (h0 : -9223372036854775808 ≤ v) (h1 : v ≤ 9223372036854775807) (hk : k = 21 ∨ k = 28) : Calls Tryd.prog 36 #[.int .i64 v, .int .i64 (Int.ofNat k)] w fun e w' => e = .returned (.bool (decide (-(2 : Int) ^ (k - 1) ≤ v ∧ v < 2 ^ (k - 1)))) ∧ Below w.heap.size w w' := by
  rcases hk with rfl | rfl
  · show Calls Tryd.prog 36 #[.int .i64 v, .int .i64 21] w fun e w' => e = .returned (.bool (decide (-1048576 ≤ v ∧ v < 1048576))) ∧ Below w.heap.size w w'
    by_cases h843 : v < -1048576
    · rw [show decide (-1048576 ≤ v ∧ v < 1048576) = false by simp; omega]
      have c2 : v < 0 := by omega
      have c3 : 1048576 ≤ -(v + 1) := by omega
      go_enter Tryd.func36, Tryd.ntmps36
      go_wp2
      go_ret
      exact ⟨congrArg (fun b => Ending.returned (.bool b)) (decide_eq_false (by omega)), Below.refl _ _⟩
    by_cases h761 : v < 0
    · rw [show decide (-1048576 ≤ v ∧ v < 1048576) = true by simp; omega]
      have c3 : -(v + 1) < 1048576 := by omega
      have c4 : 0 ≤ -(v + 1) := by omega
      go_enter Tryd.func36, Tryd.ntmps36
      go_wp2
      go_ret
      exact ⟨rfl, Below.refl _ _⟩
    by_cases h759 : v < 1048576
    · rw [show decide (-1048576 ≤ v ∧ v < 1048576) = true by simp; omega]
      have c2 : 0 ≤ v := by omega
      go_enter Tryd.func36, Tryd.ntmps36
      go_wp2
      go_ret
      exact ⟨rfl, Below.refl _ _⟩
    rw [show decide (-1048576 ≤ v ∧ v < 1048576) = false by simp; omega]
    have c2 : 0 ≤ v := by omega
    have c3 : 1048576 ≤ v := by omega
    go_enter Tryd.func36, Tryd.ntmps36
    go_wp2
    go_ret
    exact ⟨rfl, Below.refl _ _⟩
  · show Calls Tryd.prog 36 #[.int .i64 v, .int .i64 28] w fun e w' => e = .returned (.bool (decide (-134217728 ≤ v ∧ v < 134217728))) ∧ Below w.heap.size w w'
    by_cases h7 : v < -134217728
    · rw [show decide (-134217728 ≤ v ∧ v < 134217728) = false by simp; omega]
      have c2 : v < 0 := by omega
      have c3 : 134217728 ≤ -(v + 1) := by omega
      go_enter Tryd.func36, Tryd.ntmps36
      go_wp2
      go_ret
      exact ⟨congrArg (fun b => Ending.returned (.bool b)) (decide_eq_false (by omega)), Below.refl _ _⟩
    by_cases h761 : v < 0
    · rw [show decide (-134217728 ≤ v ∧ v < 134217728) = true by simp; omega]
      have c3 : -(v + 1) < 134217728 := by omega
      have c4 : 0 ≤ -(v + 1) := by omega
      go_enter Tryd.func36, Tryd.ntmps36
      go_wp2
      go_ret
      exact ⟨rfl, Below.refl _ _⟩
    by_cases h721 : v < 134217728
    · rw [show decide (-134217728 ≤ v ∧ v < 134217728) = true by simp; omega]
      have c2 : 0 ≤ v := by omega
      go_enter Tryd.func36, Tryd.ntmps36
      go_wp2
      go_ret
      exact ⟨rfl, Below.refl _ _⟩
    rw [show decide (-134217728 ≤ v ∧ v < 134217728) = false by simp; omega]
    have c2 : 0 ≤ v := by omega
    have c3 : 134217728 ≤ v := by omega
    go_enter Tryd.func36, Tryd.ntmps36
    go_wp2
    go_ret
    exact ⟨rfl, Below.refl _ _⟩
end Go.Proofs.YtclhmilecdjbiaaDoor
/- Which instructions there may be: the code and the document answer alike; what carries it out. -/
namespace Go.Proofs.YtclhmilecdjbiaaDoor
open Go Go.Proofs Go.RowKit Go.CX Go.SX
noncomputable def extF : ExtT := orX extE (orX (fitsUX cxE 73) (orX (fitsX cxE 76) (fitsX cxE 36)))
theorem extF_ok {w : World} (h : TabsA w) : ExtOk ⟨w, vwA⟩ cxE phE extF :=
  orX_ok (extE_ok h) (orX_ok (fitsUX_ok (enters Tryd.func73 (c := Tryd.f73.body.getD .skip) (by kernel_rfl) (by kernel_rfl)) fun w v k h0 h1 k0 k1 => fitsU_at w v k h0 h1 k0 k1)
    (orX_ok (fitsX_ok (enters Tryd.func76 (c := Tryd.f76.body.getD .skip) (by kernel_rfl) (by kernel_rfl)) fun w v k h0 h1 hk => fits_at w v k h0 h1 hk)
      (fitsX_ok (enters Tryd.func36 (c := Tryd.f36.body.getD .skip) (by kernel_rfl) (by kernel_rfl)) fun w v k h0 h1 hk => rfits_at w v k h0 h1 hk)))
def rhoE (fl : List Value) : Nat → Value := fun i => fl.getD i undef
theorem fitsE {fl : List Value} (hs : All2 So.has ssE fl) : Fits cxE.Γ cxE.S (rhoE fl) phE := ⟨fun i => all2_get hs i, fitE⟩
end Go.Proofs.YtclhmilecdjbiaaDoor
/- Thirteen bits of a word. -/
namespace Go.Proofs.YtclhmilecdjbiaaDoor
open Go Go.Proofs Go.RowKit Go.CX Go.SX Lg
theorem code_13 {n q t : Nat} (hs : isSz (n : Int) = true) (hn : n ≤ 64) (hq : q + 1 < n) (ht : t < n) : code n q t < 8192 := by
  have : n = 2 ∨ n = 4 ∨ n = 8 ∨ n = 16 ∨ n = 32 ∨ n = 64 := by
    have : ∀ n : Nat, n < 65 → isSz (n : Int) = true → n = 2 ∨ n = 4 ∨ n = 8 ∨ n = 16 ∨ n = 32 ∨ n = 64 := by decide +kernel
    exact this n (by omega) hs
  unfold code
  rcases this with h | h | h | h | h | h <;> subst h <;> split <;> omega
theorem encP_13 {v : Int} (hv : Cq.U64 v) : 0 ≤ (encP v).1 ∧ (encP v).1 < 8192 := by
  obtain ⟨c, ok, h⟩ := enc_exists v
  rw [← encP_is hv h]
  rcases h with ⟨rfl, _, _⟩ | ⟨h0, _, t, ht, hw, _, rfl⟩
  · exact ⟨Int.le_refl 0, (by decide : (0 : Int) < 8192)⟩
  · have ⟨hs, h1, h2, h4, e, _, _, ha⟩ := found hv h0 hw
    have h64 := sz_dvd hs
    have l := code_13 (n := szO v.toNat) (q := cnt v - 1) (t := t) hs h64.2.2 (by omega) ht
    exact ⟨by omega, by omega⟩
/-- The fact that operations 13 to 15 want. -/
theorem enc13_hold {fl : List Value} (hs : All2 So.has ssE fl) : Facts.hold (rhoE fl) phE [(.cmp .lss (.conv .u64 (.app 4 0 (toL [.var 6]))) (.int .u64 8192), true)] := by
  have h6 : ∃ n, rhoE fl 6 = .int .u64 n ∧ 0 ≤ n ∧ n ≤ 18446744073709551615 := all2_get hs 6
  obtain ⟨n, h6, hn⟩ := h6
  have hr := encP_13 (v := n) ⟨hn.1, by omega⟩
  intro p hp
  cases List.mem_singleton.mp hp
  show Value.bool (icmp .lss (IntKind.u64.wrap (encP (vint (rhoE fl 6))).1) 8192) = .bool true
  rw [h6]
  show Value.bool (icmp .lss (IntKind.u64.wrap (encP n).1) 8192) = .bool true
  rw [IntKind.wrap_u64]
  congr 1
  exact decide_eq_true (by omega)
end Go.Proofs.YtclhmilecdjbiaaDoor
/- May: from runs at cases to every instruction. -/
namespace Go.Proofs.YtclhmilecdjbiaaDoor
open Go Go.Proofs Go.RowKit Go.CX Go.SX
noncomputable def esW (op w : Nat) : List E := .int .i64 (Int.ofNat op) :: .int .i64 (Int.ofNat w) :: (List.range 9).map fun i => .var (i + 2)
noncomputable def esV (op : Nat) : List E := .int .i64 (Int.ofNat op) :: (List.range 10).map fun i => .var (i + 1)
noncomputable def esA : List E := (List.range 11).map .var
/-- the fact that width is not k -/
noncomputable def notW (k : Nat) : E × Bool := (.cmp .eql (.var 1) (.int .i64 (Int.ofNat k)), false)
noncomputable def f13 : E × Bool := (.cmp .lss (.conv .u64 (.app 4 0 (toL [.var 6]))) (.int .u64 8192), true)
noncomputable def immLt (k : Nat) : E × Bool := (.cmp .lss (.var 6) (.int .u64 (Int.ofNat k)), true)
noncomputable def immGt (k : Nat) : E × Bool := (.cmp .lss (.int .u64 (Int.ofNat k)) (.var 6), true)
noncomputable def opLt (k : Nat) : E × Bool := (.cmp .lss (.var 0) (.int .i64 (Int.ofNat k)), true)
noncomputable def opGt (k : Nat) : E × Bool := (.cmp .lss (.int .i64 (Int.ofNat k)) (.var 0), true)
theorem a2c {α β : Type} {P : α → β → Prop} {s : α} {ss : List α} {fl : List β} (h : All2 P (s :: ss) fl) : ∃ x xs, fl = x :: xs ∧ P s x ∧ All2 P ss xs := by
  cases fl with
  | nil => exact h.elim
  | cons x xs => exact ⟨x, xs, rfl, h.1, h.2⟩
theorem cells11 {fl : List Value} (hs : All2 So.has ssE fl) : ∃ (o w : Int) (a b c d : Value) (v : Int) (e f g h : Value), fl = [.int .i64 o, .int .i64 w, a, b, c, d, .int .u64 v, e, f, g, h] := by
  obtain ⟨x0, l0, rfl, ⟨o, rfl, _⟩, t0⟩ := a2c hs
  obtain ⟨x1, l1, rfl, ⟨w, rfl, _⟩, t1⟩ := a2c t0
  obtain ⟨a, l2, rfl, _, t2⟩ := a2c t1
  obtain ⟨b, l3, rfl, _, t3⟩ := a2c t2
  obtain ⟨c, l4, rfl, _, t4⟩ := a2c t3
  obtain ⟨d, l5, rfl, _, t5⟩ := a2c t4
  obtain ⟨x6, l6, rfl, ⟨v, rfl, _⟩, t6⟩ := a2c t5
  obtain ⟨e, l7, rfl, _, t7⟩ := a2c t6
  obtain ⟨f, l8, rfl, _, t8⟩ := a2c t7
  obtain ⟨g, l9, rfl, _, t9⟩ := a2c t8
  obtain ⟨h, l10, rfl, _, t10⟩ := a2c t9
  cases l10 with
  | nil => exact ⟨o, w, a, b, c, d, v, e, f, g, h, rfl⟩
  | cons _ _ => exact t10.elim
theorem hold_nil {ρ : Nat → Value} {φ : Nat → List Value → List Value} : Facts.hold ρ φ [] := fun _ h => absurd h (List.not_mem_nil)
theorem hold_cons {ρ : Nat → Value} {φ : Nat → List Value → List Value} (p : E × Bool) {fs : Facts} (h : p.1.den ρ φ = .bool p.2) (hf : Facts.hold ρ φ fs) : Facts.hold ρ φ (p :: fs) := by
  intro q hq
  rcases List.mem_cons.mp hq with rfl | hq
  · exact h
  · exact hf q hq
theorem dTrue {p : Prop} [Decidable p] (h : p) : Value.bool (decide p) = .bool true := by rw [decide_eq_true h]
theorem dFalse {p : Prop} [Decidable p] (h : ¬ p) : Value.bool (decide p) = .bool false := by rw [decide_eq_false h]
end Go.Proofs.YtclhmilecdjbiaaDoor
/- Digits of the document: a number's decimal numeral. -/
namespace Go.Proofs.YtclhmilecdjbiaaDoor
open Go.RowKit
theorem dec_len0 {u : Nat} (h : u < 18446744073709551616) : (Lib.decDigits u).length ≤ 20 := by
  by_cases h0 : u = 0
  · subst h0; rw [Lib.decDigits, dif_pos (by omega)]; simp
  · rw [Lib.decDigits_length]; have := Lib.numDigits_eq u (by omega) h; split at this <;> omega
theorem dig_lit {r : Nat} (h : r < 10) : ({ data := #[48, 49, 50, 51, 52, 53, 54, 55, 56, 57] } : ByteArray).extract r (r + 1) = ⟨(Lib.decDigits r).toArray⟩ := by
  rw [Lib.decDigits_one h]
  have : r = 0 ∨ r = 1 ∨ r = 2 ∨ r = 3 ∨ r = 4 ∨ r = 5 ∨ r = 6 ∨ r = 7 ∨ r = 8 ∨ r = 9 := by omega
  rcases this with rfl | rfl | rfl | rfl | rfl | rfl | rfl | rfl | rfl | rfl <;> rfl
theorem dig_more {u : Nat} (h : ¬ u < 10) : (⟨(Lib.decDigits (u / 10)).toArray⟩ : ByteArray) ++ (⟨(Lib.decDigits (u % 10)).toArray⟩ : ByteArray) = ⟨(Lib.decDigits u).toArray⟩ := by
  rw [Lib.decDigits_one (Nat.mod_lt u (by decide))]
  conv => rhs; rw [Lib.decDigits, dif_neg h]
  apply ByteArray.ext
  rw [ByteArray.data_append]
  simp
set_option maxRecDepth 100000 in
theorem digits_any (n : Nat) : ∀ u : Nat, u < n → u < 18446744073709551616 → ∀ W : World, Calls Tryd.prog 59 #[.int .u64 (u : Int)] W fun e W' => e = .returned (.string ⟨(Lib.decDigits u).toArray⟩) ∧ W = W' := by
  induction n with
  | zero => intro u h; omega
  | succ n ih =>
    intro u hn hu W
    have hd := dig_lit (Nat.mod_lt u (show 10 > 0 by decide))
    by_cases h : u < 10
    · have h' : (u : Int) < 10 := by omega
      rw [Nat.mod_eq_of_lt h] at hd
      have HD := Lib.hid hd
      clear hd
      have hm : u % 10 = u := Nat.mod_eq_of_lt h
      go_enter Tryd.func59, Tryd.ntmps59
      go_wp2_with fail
      go_ret
      exact ⟨congrArg (fun s => Ending.returned (.string s)) (by first | exact HD.out | (rw [hm]; exact HD.out)), rfl⟩
    · have h' : (10 : Int) ≤ u := by omega
      have hl := dec_len0 (u := u / 10) (by omega)
      have hi := ih (u / 10) (by omega) (by omega) W
      rw [show ((u / 10 : Nat) : Int) = (u : Int) / 10 by omega] at hi
      have hmore := dig_more h
      rw [← hd] at hmore
      have HD := Lib.hid hmore
      clear hd hmore
      go_enter Tryd.func59, Tryd.ntmps59
      go_wp2_with fail
      refine hi.mono ?_
      rintro e w ⟨rfl, rfl⟩
      go_wp2_with fail
      all_goals first
        | (exfalso; omega)
        | (go_ret; exact ⟨congrArg (fun s => Ending.returned (.string s)) HD.out, rfl⟩)
set_option maxRecDepth 100000 in
theorem Digits_any (n : Int) (h0 : -9223372036854775808 ≤ n) (h1 : n ≤ 9223372036854775807) (W : World) : Calls Tryd.prog 39 #[.int .i64 n] W fun e W' => e = .returned (.string ⟨(Lib.itoa n).toArray⟩) ∧ W = W' := by
  by_cases hn : n < 0
  · obtain ⟨u, rfl⟩ : ∃ u : Nat, n = -(u : Int) := ⟨n.natAbs, by omega⟩
    have hi := digits_any (u + 1) u (by omega) (by omega) W
    have hl := dec_len0 (u := u) (by omega)
    rw [show (u : Int) = -(-(u : Int) + 1) + 1 by omega] at hi
    have HD : Hid ((⟨#[45]⟩ : ByteArray) ++ (⟨(Lib.decDigits u).toArray⟩ : ByteArray) = ⟨(Lib.itoa (-(u : Int))).toArray⟩) := Lib.hid (by
      rw [Lib.itoa_neg u (by omega)]
      apply ByteArray.ext
      rw [ByteArray.data_append]
      simp)
    go_enter Tryd.func39, Tryd.ntmps39
    go_wp2_with fail
    refine hi.mono ?_
    rintro e w ⟨rfl, rfl⟩
    go_wp2_with fail
    all_goals first
      | (exfalso; omega)
      | (go_ret; exact ⟨congrArg (fun s => Ending.returned (.string s)) HD.out, rfl⟩)
  · obtain ⟨u, rfl⟩ := Int.eq_ofNat_of_zero_le (show 0 ≤ n by omega)
    have hi := digits_any (u + 1) u (by omega) (by omega) W
    rw [Lib.itoa_nonneg]
    have hn' : (0 : Int) ≤ u := by omega
    clear hn
    go_enter Tryd.func39, Tryd.ntmps39
    go_wp2_with fail
    refine hi.mono ?_
    rintro e w ⟨rfl, rfl⟩
    go_wp2_with fail
    go_ret
    exact ⟨rfl, rfl⟩
end Go.Proofs.YtclhmilecdjbiaaDoor
/- Which fields an operation has, as the document says: carried out by the kernel for each operation and each question. -/
namespace Go.Proofs.YtclhmilecdjbiaaDoor
open Go Go.Proofs Go.RowKit Go.CX Go.SX
/-- the document's letters -/
def refL : Nat → List UInt8
  | 1 | 2 => [101, 98, 105]
  | 3 | 4 => [100, 98, 105]
  | 5 | 6 | 7 | 8 | 9 | 10 | 11 | 12 => [100, 110, 109, 115]
  | 13 | 14 | 15 => [101, 110, 108]
  | 16 | 17 | 18 => [100, 119, 104]
  | 19 | 20 => [100, 110, 109, 97]
  | 21 | 22 | 23 | 24 | 25 | 26 | 27 | 28 => [100, 110, 109]
  | 29 | 30 => [100, 110, 115, 114]
  | 31 | 32 => [100, 110, 109, 99]
  | 33 | 34 => [100, 98, 117, 122]
  | 35 | 36 | 37 => [100, 98, 122]
  | 38 => [100, 98, 116, 122]
  | 39 => [102]
  | 40 => [106]
  | 41 => [107, 103]
  | 42 | 43 => [100, 103]
  | 44 => [110]
  | 45 | 46 => [119]
  | _ => []
def hasB (k : Nat) (s : List UInt8) : Bool := (refL k).any fun c => s.any fun b => Nat.beq b.toNat c.toNat
def nameB (k : Nat) : List UInt8 := A64.name k
set_option maxRecDepth 100000
theorem rows_run : ((List.range 47).all fun k => rowRun Tryd.prog 1000 18 nameB refL A64.base (k + 1)) = true := by kernel_rfl
theorem row_any (k : Nat) (h0 : 1 ≤ k) (h1 : k ≤ 47) (w : World) : Calls Tryd.prog 18 #[.int .i64 (Int.ofNat k)] w fun e w' => e = .returned (.agg #[strOf (nameB k), .int .u64 (Int.ofNat (A64.base k)), strOf (refL k)]) ∧ Below w.heap.size w w' := by
  obtain ⟨j, rfl⟩ : ∃ j, k = j + 1 := ⟨k - 1, by omega⟩
  exact rowRun_ok names_ok (List.all_eq_true.1 rows_run j (List.mem_range.2 (by omega))) w
theorem refL_len (k : Nat) : (refL k).length ≤ 4 := by
  unfold refL; split <;> decide
/-- one of the letters -/
def hit (c : UInt8) (s : List UInt8) : Bool := s.any fun b => Nat.beq b.toNat c.toNat
theorem hit_succ {c b : UInt8} {s : List UInt8} {m : Nat} (h : s[m]? = some b) : hit c (s.take (m + 1)) = (hit c (s.take m) || Nat.beq b.toNat c.toNat) := by
  unfold hit; rw [List.take_add_one, h, List.any_append]; simp
theorem nbeq_no {a b : Nat} (h : ¬ a = b) : Nat.beq a b = false := by
  cases hq : Nat.beq a b
  · rfl
  · exact absurd (Nat.eq_of_beq_eq_true hq) h
theorem hits_succ {c : UInt8} {f s : List UInt8} {m : Nat} (h : f[m]? = some c) : (f.take (m + 1)).any (fun c => hit c s) = ((f.take m).any (fun c => hit c s) || hit c s) := by
  rw [List.take_add_one, h, List.any_append]; simp
theorem row_field (W : World) (a b c : Value) : (Instr.field 44 (.agg #[a, b, c]) 2).run Tryd.prog W = .ok c W := by
  simp [Instr.field, underlying, Tryd.underlying44, asAgg, part]
theorem str_index (W : World) {fb : ByteArray} {f : List UInt8} {j : Nat} {c : UInt8} (h : fb = ⟨f.toArray⟩) (hc : f[j]? = some c) : (Instr.index 9 (.string fb) (.int .i64 (j : Int))).run Tryd.prog W = .ok (.int .u8 (c.toNat : Int)) W := by
  subst h
  obtain ⟨hj, rfl⟩ := List.getElem?_eq_some_iff.1 hc
  have hs : j < (⟨f.toArray⟩ : ByteArray).size := by show j < f.toArray.size; rw [List.size_toArray]; exact hj
  have e : (⟨f.toArray⟩ : ByteArray)[j]? = some f[j] := by
    rw [getElem?_pos (⟨f.toArray⟩ : ByteArray) j hs]
    rfl
  have ha : (asIntOf (.int .i64 (j : Int))).run Tryd.prog W = .ok (.i64, (j : Int)) W := rfl
  simp [Instr.index, underlying, Tryd.underlying9, ha, e]
set_option maxHeartbeats 4000000 in
theorem has_any (k : Nat) (s : List UInt8) (h0 : 1 ≤ k) (h1 : k ≤ 47) (hs : s.length ≤ 100) (w : World) : Calls Tryd.prog 34 #[.int .i64 (k : Int), strOf s] w fun e w' => e = .returned (.bool (hasB k s)) ∧ Below w.heap.size w w' := by
  have hr := row_any k h0 h1 w
  have hasE : hasB k s = (refL k).any (fun c => hit c s) := rfl
  rw [hasE]
  have hfl := refL_len k
  obtain ⟨f, hf⟩ : ∃ f, f = refL k := ⟨_, rfl⟩
  rw [← hf] at hr hfl ⊢
  obtain ⟨n, hn⟩ : ∃ n, n = f.length := ⟨_, rfl⟩
  obtain ⟨m, hm⟩ : ∃ m, m = s.length := ⟨_, rfl⟩
  have hfz : (⟨f.toArray⟩ : ByteArray).size = n := by rw [hn]; exact List.size_toArray
  have hsz : (⟨s.toArray⟩ : ByteArray).size = m := by rw [hm]; exact List.size_toArray
  obtain ⟨fb, hfb⟩ : ∃ fb : ByteArray, fb = ⟨f.toArray⟩ := ⟨_, rfl⟩
  obtain ⟨sb, hsb⟩ : ∃ sb : ByteArray, sb = ⟨s.toArray⟩ := ⟨_, rfl⟩
  unfold strOf at *
  rw [← hfb] at hfz hr
  rw [← hsb] at hsz ⊢
  generalize Value.int IntKind.u64 (Int.ofNat (A64.base k)) = v1 at hr
  generalize Value.string ⟨(nameB k).toArray⟩ = v0 at hr
  have HR := Lib.hid hr
  have HF := Lib.hid hfb
  have HS := Lib.hid hsb
  have HN := Lib.hid hn
  have HM := Lib.hid hm
  rw [← hn] at hfl
  rw [← hm] at hs
  clear hr hf hasE hfb hsb hn hm
  go_enter Tryd.func34, Tryd.ntmps34
  go_wp2_with fail
  refine HR.out.mono ?_; rintro e w2 ⟨rfl, hb2⟩
  have HB2 := Lib.hid hb2
  clear hb2
  have hfld := row_field w2 v0 v1 (.string fb)
  go_wp2_with fail
  go_loopw [6, 7] (fun i _ wr => ∃ j : Nat, j ≤ n ∧ i = .int .i64 j ∧ (f.take j).any (fun c => hit c s) = false ∧ Below w.heap.size w wr) (fun i _ _ => n - (intOf i).toNat)
  case atStart => exact ⟨0, Nat.zero_le _, rfl, rfl, HB2.out⟩
  case round =>
    obtain ⟨j, hj, rfl, hno, hbr⟩ := hrel
    have HBR := Lib.hid hbr
    have HNO := Lib.hid hno
    clear hbr hno
    by_cases hlt : j < n
    · obtain ⟨c, hc⟩ : ∃ c, f[j]? = some c := ⟨_, List.getElem?_eq_getElem (by have := HN.out; omega)⟩
      have HC := Lib.hid hc
      have hjn : (j : Int) < n := by omega
      clear hc
      go_wp2_with fail
      go_loopw [7] (fun i wr => ∃ l : Nat, l ≤ m ∧ i = .int .i64 l ∧ hit c (s.take l) = false ∧ Below w.heap.size w wr) (fun i _ => m - (intOf i).toNat)
      case atStart => exact ⟨0, Nat.zero_le _, rfl, rfl, HBR.out⟩
      case round =>
        obtain ⟨l, hl, rfl, hno2, hb3⟩ := hrel
        have HB3 := Lib.hid hb3
        have HNO2 := Lib.hid hno2
        clear hb3 hno2
        by_cases hlm : l < m
        · obtain ⟨b, hb⟩ : ∃ b, s[l]? = some b := ⟨_, List.getElem?_eq_getElem (by have := HM.out; omega)⟩
          have HB := Lib.hid hb
          have hlm' : (l : Int) < m := by omega
          have i1 := fun W => str_index W HF.out HC.out
          have i2 := fun W => str_index W HS.out HB.out
          clear hb
          by_cases he : c.toNat = b.toNat
          · have ht : ((c.toNat : Int) == (b.toNat : Int)) = true := by rw [beq_iff_eq]; exact_mod_cast he
            have HE := Lib.hid he
            clear he
            go_wp2_with fail
            go_region
            go_wp2_with fail
            go_ret
            refine ⟨?_, by first | exact HB3.out | exact HB3.out.drew⟩
            have h1 : hit c (s.take (l + 1)) = true := by rw [hit_succ HB.out, HE.out]; simp
            have h2 : hit c s = true := by obtain ⟨x, hx, hp⟩ := List.any_eq_true.1 h1; exact List.any_eq_true.2 ⟨x, List.mem_of_mem_take hx, hp⟩
            have h3 : f.any (fun c => hit c s) = true := List.any_eq_true.2 ⟨c, List.mem_of_getElem? HC.out, h2⟩
            rw [h3]
            rfl
          · have ht : ((c.toNat : Int) == (b.toNat : Int)) = false := by rw [beq_eq_false_iff_ne]; exact_mod_cast he
            have HE : Hid (¬ b.toNat = c.toNat) := Lib.hid fun h => he h.symm
            clear he
            go_wp2_with fail
            go_region
            go_wp2_with fail
            go_roundw
            case rel => exact ⟨l + 1, by omega, by go_num, by rw [hit_succ HB.out, HNO2.out, nbeq_no HE.out]; rfl, by first | exact HB3.out | exact HB3.out.drew⟩
            case measure => simp [intOf]; omega
        · obtain rfl : l = m := by omega
          go_wp2_with fail
          go_roundw
          case rel => exact ⟨j + 1, by omega, by go_num, by rw [hits_succ HC.out, HNO.out]; have := HNO2.out; rw [List.take_of_length_le (by have := HM.out; omega)] at this; rw [this]; rfl, HB3.out⟩
          case measure => simp [intOf]; omega
    · obtain rfl : j = n := by omega
      go_wp2_with fail
      go_ret
      refine ⟨?_, HBR.out⟩
      have := HNO.out
      rw [List.take_of_length_le (by have := HN.out; omega)] at this
      rw [this]
      rfl
end Go.Proofs.YtclhmilecdjbiaaDoor
/- Layer 20: what is asked of an instruction, of the code's and the document's May, Encode and Show at once: what carries it out. -/
namespace Go.Proofs.YtclhmilecdjbiaaDoor
open Go Go.Proofs Go.RowKit Go.CX Go.SX
noncomputable def extG : ExtT := orX extF (orX (numX cxE 39 1 (.int .i64) []) (hasX 34 1 47 100 hasB))
theorem extG_ok {w : World} (h : TabsA w) : ExtOk ⟨w, vwA⟩ cxE phE extG := by
  refine orX_ok (extF_ok h) (orX_ok (numX_ok (enters Tryd.func39 (c := Tryd.f39.body.getD .skip) (by kernel_rfl) (by kernel_rfl)) ?_)
    (hasX_ok (enters Tryd.func34 (c := Tryd.f34.body.getD .skip) (by kernel_rfl) (by kernel_rfl)) fun w k s h0 h1 hs => has_any k s h0 h1 hs w))
  rintro w' v hb ⟨n, rfl, h1, h2⟩
  refine (Digits_any n h1 h2 w').mono ?_
  rintro e w'' ⟨rfl, rfl⟩
  refine ⟨?_, Below.refl _ _⟩
  show _ = Ending.returned (.string ⟨(Lib.itoa (IntKind.i64.wrap n)).toArray⟩)
  rw [IntWalk.i64_in n ⟨h1, h2⟩]
def argsG (op m : Nat) : List CX.SV := [.one ⟨true, (A64.cellsE op m).map .e⟩]
noncomputable def mayG (f op m : Nat) : Bool := mayC cxE extG 3000 0 f (argsG op m) 60 (A64.start13 op m) (A64.conds op m)
noncomputable def wordK (op m : Nat) (fs : Facts) : CX.SV → Bool
  | .tup [⟨false, [.e e]⟩, ⟨false, [.e (.int .i64 (.ofNat 0))]⟩] => isWord cxE fs e (A64.const op m) (A64.fds op m)
  | _ => false
noncomputable def wordK1 (op m : Nat) (fs : Facts) : CX.SV → Bool
  | .one ⟨false, [.e e]⟩ => isWord cxE fs e (A64.const op m) (A64.fds op m)
  | _ => false
noncomputable def textK (op m : Nat) (fs : Facts) : CX.SV → Bool
  | .one ⟨false, [c]⟩ => isText cxE fs c (A64.text op m)
  | _ => false
noncomputable def endG (f op m : Nat) (K : Facts → CX.SV → Bool) : Bool := endsC cxE extG 3000 0 f (argsG op m) 60 (addAll cxE (A64.conds op m) (A64.start13 op m)) K
/-- All six at once. -/
noncomputable def instG (op m : Nat) : Bool := mayG 11 op m && mayG 12 op m && endG 10 op m (wordK op m) && endG 16 op m (wordK1 op m) &&
  endG 13 op m (textK op m) && endG 14 op m (textK op m)
/-- An instruction that may never be, by facts. -/
noncomputable def noG (es : List E) (fs : Facts) : Bool := mayC cxE extG 3000 0 11 [.one ⟨true, es.map .e⟩] 60 fs [(.bool false, true)] && mayC cxE extG 3000 0 12 [.one ⟨true, es.map .e⟩] 60 fs [(.bool false, true)]
def AllI : List (Nat × Nat) → Prop
  | [] => True
  | p :: l => instG p.1 p.2 = true ∧ AllI l
theorem allI_mem : ∀ {l : List (Nat × Nat)} {p : Nat × Nat}, AllI l → p ∈ l → instG p.1 p.2 = true
  | _ :: l, p, h, hp => by
    rcases List.mem_cons.1 hp with rfl | hp
    · exact h.1
    · exact allI_mem h.2 hp
/-- The width is none of these. -/
def widths (op : Nat) : List Nat := if A64.acc op then [1, 2, 4, 8] else [8]
noncomputable def notWs (op : Nat) : Facts := (widths op).map notW
def AllN : List Nat → Prop
  | [] => True
  | k :: l => noG (esV k) (notWs k) = true ∧ AllN l
theorem allN_mem : ∀ {l : List Nat} {k : Nat}, AllN l → k ∈ l → noG (esV k) (notWs k) = true
  | _ :: l, k, h, hk => by
    rcases List.mem_cons.1 hk with rfl | hk
    · exact h.1
    · exact allN_mem h.2 hk
end Go.Proofs.YtclhmilecdjbiaaDoor
