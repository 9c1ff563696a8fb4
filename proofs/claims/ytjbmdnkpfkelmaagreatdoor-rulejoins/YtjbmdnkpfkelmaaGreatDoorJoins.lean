/- Proved: caesurakeep.RuleJoins returns true for any two texts (the tied card RuleJoinsCardSaid): the rules of two files without classes, one behind the other, are the rules of both. Conditions: those of the given card alone (the tables math/bits.deBruijn32tab, deBruijn64tab and internal/strconv.uint64pow10, and strconv's two errors, as the program's text lays them). -/
import Derived.Test.YtjbmdnkpfkelmaaGreatDoorJoinTopAB
import Derived.Test.YtjbmdnkpfkelmaaGreatDoorCards
import Derived.Test.YtjbmdnkpfkelmaaGreatDoorTie
import Derived.ProofKit
import Derived.OpenShut
import Derived.Deep.DeepHandedRow
import Derived.Deep.DeepWitnessRowRef
import Derived.Deep.DeepLaidRun
import Derived.Lib.LaidTab
import Derived.Lib.LaidU8
import Derived.LaidHandle
namespace Go.Proofs.YtjbmdnkpfkelmaaGreatDoor
open Go.ChangeShapes Go.WideShapes Go.ChangeAt Go.RowKit Go.Shelf

namespace Joins
def t32 : List Int := [0, 1, 28, 2, 29, 14, 24, 3, 30, 22, 20, 15, 25, 17, 4, 8, 31, 27, 13, 23, 21, 19, 16, 7, 26, 12, 18, 6, 11, 5, 10, 9]
def t64 : List Int := [0, 1, 56, 2, 57, 49, 28, 3, 61, 58, 42, 50, 38, 29, 17, 4, 62, 47, 59, 36, 45, 43, 51, 22, 53, 39, 33, 30, 24, 18, 12, 5, 63, 55, 48, 27, 60, 41, 37, 16, 46, 35, 44, 21, 52, 32, 23, 11, 54, 26, 40, 15, 34, 20, 31, 10, 25, 14, 19, 9, 13, 8, 7, 6]
def tp10 : List Int := [1, 10, 100, 1000, 10000, 100000, 1000000, 10000000, 100000000, 1000000000, 10000000000, 100000000000, 1000000000000, 10000000000000, 100000000000000, 1000000000000000, 10000000000000000, 100000000000000000, 1000000000000000000, 10000000000000000000]

/-- The variables' names. -/
def nameAt (k : Nat) : String := Rows.ruleJoinsRow.named.getD k ""

theorem own : ownKnob Tryz.prog.godebug = none := by kernel_rfl
theorem g64 : Tryz.prog.globalNamed (nameAt 5) = some 3 := by kernel_rfl
theorem gS : Tryz.prog.globalNamed (nameAt 1) = some 4 := by kernel_rfl
theorem gR : Tryz.prog.globalNamed (nameAt 2) = some 5 := by kernel_rfl
theorem gP : Tryz.prog.globalNamed (nameAt 3) = some 1 := by kernel_rfl
theorem gSType : (Tryz.prog.globals[4]?).map (·.type) = some 28 := by kernel_rfl
theorem gRType : (Tryz.prog.globals[5]?).map (·.type) = some 28 := by kernel_rfl
theorem g64Type : (Tryz.prog.globals[3]?).map (·.type) = some 131 := by kernel_rfl
theorem gPType : (Tryz.prog.globals[1]?).map (·.type) = some 118 := by kernel_rfl
theorem cells64 : Tryz.prog.cellsOf 131 = 64 := by kernel_rfl
theorem cellsP : Tryz.prog.cellsOf 118 = 20 := by kernel_rfl
theorem cells5' : Tryz.prog.cellsOf 5 = 1 := by kernel_rfl
theorem cells20' : Tryz.prog.cellsOf 98 = 1 := by kernel_rfl
theorem data64 : (Rows.laid_math_bits_deBruijn64tab : DataW Unit) = Lib.tabData .u8 t64 := by kernel_rfl
theorem dataP : (Rows.laid_internal_strconv_uint64pow10 : DataW Unit) = Lib.tabData .u64 Lib.pow10Tab := by kernel_rfl

theorem met {W : World} (h : laidMetH Tryz.prog Rows.ruleJoinsRow.laid W) : laidMet Tryz.prog Rows.ruleJoinsRow.laid W := h

/-- A table of numbers on the list. -/
theorem tab_of {W : World} {l : List (String × DataW Unit)} (h : laidMet Tryz.prog l W) {n : String} {g : Nat} {t e : TypeId} {k : Nat} {ik : IntKind} {zs : List Int} {d : DataW Unit} (hm : (n, d) ∈ l) (hd : d = Lib.tabData ik zs)
    (hg : Tryz.prog.globalNamed n = some g) (ht : (Tryz.prog.globals[g]?).map (·.type) = some t) (hu : Tryz.prog.underlying t = some (.array k e)) (hu2 : Tryz.prog.underlying e = some (.int ik)) (hce : Tryz.prog.cellsOf e = 1) (hc : Tryz.prog.cellsOf t = k) : Lib.TabIs Tryz.prog W n ik zs := by
  obtain ⟨g', t', cs, fuel, p, e1, e2, e3, e4⟩ := Lib.laidMet.reads h hm
  rw [hd] at e4
  obtain rfl := Option.some.inj (hg.symm.trans e1)
  obtain rfl := Option.some.inj (ht.symm.trans e2)
  have hcs := Lib.cells_of_tab (k := ik) (zs := zs) hu hu2 hce hc e4
  unfold Lib.TabIs
  rw [e3, ← hcs]

theorem iface_at {W : World} {l : List (String × DataW Unit)} (h : laidMet Tryz.prog l W) {n : String} {g : Nat} {nm : String} {d D : DataW Unit} (hm : (n, D) ∈ l) (hD : D = .iface nm d)
    (hg : Tryz.prog.globalNamed n = some g) (ht : (Tryz.prog.globals[g]?).map (·.type) = some 28) : ∃ t p, W.cell? ⟨g, 0, none⟩ = some (.iface t p) := by
  obtain ⟨g', t, cs, fuel, p, e1, e2, e3, e4⟩ := Lib.laidMet.reads h (n := n) (d := D) hm
  rw [hD] at e4
  obtain rfl := Option.some.inj (hg.symm.trans e1)
  obtain rfl := Option.some.inj (ht.symm.trans e2)
  obtain ⟨_, u, v, hcs, _, _⟩ := iface_of_trod Tryz.underlying28 e4
  have hc := World.var?_cell hg e3 0
  have hk : cs[0]? = some (.iface u v) := by
    rw [← Array.getElem?_toList, hcs]
    rfl
  exact ⟨u, v, hc.trans hk⟩

set_option maxRecDepth 100000 in
/-- bytealg.MaxLen holds some number, whatever the world is. -/
theorem ml_of_shape {W : World} (h : W.ShapedOpen Tryz.prog) : ML W := by
  obtain ⟨cs, hh, hs, hr⟩ := h.1 0 #[.int .i64 0] 3 (of_decide_eq_true (by kernel_rfl)) (by kernel_rfl)
  obtain ⟨ts, hts, _, hall⟩ := hr (by kernel_rfl)
  obtain rfl := Option.some.inj ((show Tryz.prog.cellTypes Tryz.prog.depth 3 = some [3] by kernel_rfl).symm.trans hts)
  have h1 : 0 < cs.size := by rw [hs]; decide
  obtain ⟨u, hu, hok⟩ := hall 0 cs[0] (by simp [h1])
  obtain rfl : 3 = u := by simpa using hu
  have hcell : W.cell? ⟨0, 0, none⟩ = some cs[0] := by simp [World.cell?, hh, h1]
  unfold ML
  rw [hcell]
  unfold Cell.ok at hok
  rw [Tryz.underlying3] at hok
  cases hv : cs[0] <;> rw [hv] at hok <;> simp at hok
  rename_i k n
  obtain ⟨rfl, _⟩ := hok
  exact ⟨n, rfl⟩

theorem tables {W : World} (h : laidMetH Tryz.prog Rows.ruleJoinsRow.laid W) (hsh : W.ShapedOpen Tryz.prog) : Q.PT W := by
  have h' : laidMet Tryz.prog [(nameAt 4, Rows.laid_math_bits_deBruijn32tab), (nameAt 5, Rows.laid_math_bits_deBruijn64tab), (nameAt 3, Rows.laid_internal_strconv_uint64pow10), (nameAt 2, Rows.laid_strconv_ErrRange), (nameAt 1, Rows.laid_strconv_ErrSyntax)] W := h
  have hz := tab_of h' (n := nameAt 5) (zs := t64) (by simp) data64 g64 g64Type Tryz.underlying131 Tryz.underlying5 cells5' cells64
  have hp := tab_of h' (n := nameAt 3) (zs := Lib.pow10Tab) (by simp) dataP gP gPType Tryz.underlying118 Tryz.underlying98 cells20' cellsP
  have hS := iface_at h' (n := nameAt 1) (D := Rows.laid_strconv_ErrSyntax) (by simp) rfl gS gSType
  have hR := iface_at h' (n := nameAt 2) (D := Rows.laid_strconv_ErrRange) (by simp) rfl gR gRType
  have hlt : 5 < W.heap.size := by obtain ⟨t, p, hc⟩ := hR; exact Q.cell_lt hc
  exact ⟨⟨hz.cell g64 15 (by decide), ⟨hS, hR⟩, ml_of_shape hsh, hlt⟩, hp⟩

theorem all (s u : ByteArray) (w : World) (hP : Q.PT w) : Calls Tryz.prog 3 #[.string s, .string u] w fun e w' => e = .returned (.bool true) ∧ Below w.heap.size w w' := by
  by_cases h : 200 < s.size ∨ 200 < u.size
  · exact Q.joins_early s u h w
  · exact Q.joins_main s u (by omega) (by omega) w hP

set_option maxRecDepth 100000 in
theorem contract (H : Type) (enc : TypeId × Value → H) (W : World) (base : Nat) (args : Array Value) (ds gs : List (DataW H)) (before : List MemPlace)
    (hval : ∀ (j : Nat) t v, Tryz.f3.params[j]? = some t → args[j]? = some v → Value.okWide Tryz.prog W .any base t v)
    (hW : DataW.Whole enc Tryz.prog Tryz.f3.params.toList Rows.ruleJoinsSpec.vars false W args.toList ds gs before) (hL : laidMetH Tryz.prog Rows.ruleJoinsRow.laid W) (hsh : W.ShapedOpen Tryz.prog) :
    Calls Tryz.prog 3 args W fun e W' => ∃ v, e = .returned v ∧ Rows.ruleJoinsSpec.post enc Tryz.prog Tryz.f3 false true false false W args v W' := by
  have hW' := hW
  obtain ⟨p, q, hA0, hV, rfl, hfz, hnd⟩ := hW
  have hA : DataW.TrodAll enc Tryz.prog W 0 (fun _ => true) true Tryz.f3.params.toList args.toList ds p := hA0
  rw [Tryz.params3] at hA hval
  obtain ⟨v0, vs0, d0, ds0, p0, q0, hargs, rfl, rfl, h0, r0⟩ := trodAll_cons hA
  obtain ⟨v1, vs1, d1, ds1, p1, q1, rfl, rfl, rfl, h1, r1⟩ := trodAll_cons r0
  obtain ⟨rfl, rfl, rfl⟩ := trodAll_nil r1
  obtain rfl : args = #[v0, v1] := by cases args; simp_all
  obtain ⟨rfl, rfl⟩ := trodVars_none hV
  obtain ⟨s, rfl, rfl, rfl, hs⟩ := Go.ChangeMaps.open_string Tryz.underlying9 (hval 0 9 v0 rfl rfl) h0
  obtain ⟨u, rfl, rfl, rfl, hu⟩ := Go.ChangeMaps.open_string Tryz.underlying9 (hval 1 9 v1 rfl rfl) h1
  clear hA0
  refine (all s u W (tables hL hsh)).mono fun e W' ⟨he, hb⟩ => ?_
  subst he
  exact ⟨_, rfl, _, _, _, [], _, [], hW', trodAll_cons_mk (shut_bool Tryz.underlying4 _) trodAll_mk0,
    trodAll_cons_mk (Go.ChangeMaps.shut_string Tryz.underlying9 hs) (trodAll_cons_mk (Go.ChangeMaps.shut_string Tryz.underlying9 hu) trodAll_mk0), rfl, hb.frame _, fun h => by cases h⟩

abbrev rangeS : ByteArray := { data := #[118, 97, 108, 117, 101, 32, 111, 117, 116, 32, 111, 102, 32, 114, 97, 110, 103, 101] }
abbrev syntaxS : ByteArray := { data := #[105, 110, 118, 97, 108, 105, 100, 32, 115, 121, 110, 116, 97, 120] }

noncomputable def low : Nat := (World.holding Tryz.prog default ⟨#[], #[], []⟩).heap.size
noncomputable def put (h : Array Obj) (g : Nat) (cs : Array Value) : Array Obj := h.modify g (fun | .cells _ t frozen => .cells cs t frozen | o => o)
noncomputable def bare0 (os : Os) : World := World.holding Tryz.prog os ⟨#[.cells #[.string rangeS] 147, .cells #[.string syntaxS] 147], #[], []⟩

/-- One world in which the tables and the errors are as they are laid. -/
noncomputable def start (os : Os) : World :=
  { bare0 os with heap := put (put (put (put (put (bare0 os).heap 2 (t32.map fun z => Value.int .u8 z).toArray) 3 (t64.map fun z => Value.int .u8 z).toArray) 1 (tp10.map fun z => Value.int .u64 z).toArray) 5 #[.iface 145 (.pointer (some ⟨low, 0, none⟩))]) 4 #[.iface 145 (.pointer (some ⟨low + 1, 0, none⟩))] }

abbrev args0 : Array Value := #[.string ⟨#[]⟩, .string ⟨#[]⟩]

theorem laid_met (os : Os) : laidMet Tryz.prog Rows.ruleJoinsRow.laid ((start os).forCall (fun _ _ => 0) ⟨#[], args0, []⟩).memory :=
  laidMet_of_run' 8 (by kernel_rfl) (by kernel_rfl)

theorem reads (os : Os) {H : Type} (enc : TypeId × Value → H) : ∃ places, DataW.whole enc Tryz.prog ((start os).forCall (fun _ _ => 0) ⟨#[], args0, []⟩).memory Tryz.f3.params.toList Rows.ruleJoinsSpec.vars false args0.toList 8 = some ([.lit (.string []), .lit (.string [])], [], places) :=
  ⟨[], by kernel_rfl⟩

set_option maxRecDepth 100000 in
theorem lifted (os : Os) (started : os.Started) (H : Type) (enc : TypeId × Value → H) (F : Stop.Interp) :
    ReturnsInHanded {} Tryz.checked os 3 .any ((OpenSpec.ofChange Rows.ruleJoinsSpec).preRow enc Tryz.prog Tryz.f3 Rows.ruleJoinsRow.domain false Rows.ruleJoinsRow.laid) (((OpenSpec.ofChange Rows.ruleJoinsSpec).at F).post enc Tryz.prog Tryz.f3 false true false false) := by
  obtain ⟨places, hx⟩ := reads os enc
  refine returnsInHanded_of_row (C := Tryz.checked) (s := OpenSpec.ofChange Rows.ruleJoinsSpec) own started (by kernel_rfl) Tryz.func3
    (witness_row_at (enc := enc) (C := Tryz.checked) false (start os) args0 rfl (by kernel_rfl) (by kernel_rfl) (by kernel_rfl)
      (OpenSpec.preRow_of_cond 8 hx (by kernel_rfl) (fun k hk => by cases hk) (by kernel_rfl) (laid_met os))) ?_
  intro W base args ds gs before hval hW _ _ _ hL hsh _
  exact contract H enc W base args ds gs before hval hW hL hsh

theorem said : Rows.RuleJoinsSaid :=
  OpenClaim.holds_of_cond 3 Tryz.f3 rfl rfl rfl rfl rfl rfl rfl ⟨rfl, rfl, rfl, rfl, rfl⟩ rfl rfl rfl rfl rfl (by kernel_rfl) Tryz.func3 (by kernel_rfl)
    (of_decide_eq_true (by kernel_rfl)) (by unfold Func.isWrapper; first | (rw [if_pos (by decide +kernel)]; kernel_rfl) | (rw [if_neg (by decide +kernel)]; exact ⟨rfl, rfl⟩))
    (fun os started H enc _ F => by rw [OpenClaim.pre_eq_preRow]; exact lifted os started H enc F)

theorem plain (f : FuncId) (fn : Func) (hf : Tryz.pinned.checked.prog.funcNamed Rows.ruleJoinsRow.func = some f) (hfn : Tryz.pinned.checked.prog.funcs[f]? = some fn) :
    true = Tryz.pinned.checked.prog.looks [] ∧ ∀ (j : Nat) t, fn.params[j]? = some t → Tryz.pinned.checked.prog.wantsStandIn t = false := by
  obtain rfl : f = 3 := Option.some.inj ((show Tryz.prog.funcNamed Rows.ruleJoinsRow.func = some 3 by kernel_rfl).symm.trans hf) |>.symm
  obtain rfl : fn = Tryz.f3 := (Option.some.inj (Tryz.func3.symm.trans hfn)).symm
  refine ⟨by kernel_rfl, fun j t ht => ?_⟩
  rw [Tryz.params3] at ht
  have hm : t = 9 := by simpa using Array.mem_of_getElem? ht
  subst hm
  exact (show Tryz.prog.wantsStandIn 9 = false by kernel_rfl)
end Joins

theorem ruleJoins_card : Rows.RuleJoinsCardSaid :=
  Claim7.holds_tied_plain_at .later [] _ _ _ _ Joins.said (fun _ h => by cases h) (by kernel_rfl) (fun _ h => by cases h) ruleJoins_row_tie rfl ⟨rfl, rfl⟩ (by kernel_rfl) rfl Joins.plain (by kernel_rfl)

end Go.Proofs.YtjbmdnkpfkelmaaGreatDoor
