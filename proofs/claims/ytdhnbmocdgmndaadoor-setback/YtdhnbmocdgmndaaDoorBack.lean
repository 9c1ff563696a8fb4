/- Proved: caesurakeep.SetBack returns true for every list of ranges and every text (the tied card SetBackCardSaid): what a set is written as is that set; and what was read is written just so. Conditions: those of the given card alone (the tables math/bits.deBruijn32tab, deBruijn64tab and internal/strconv.uint64pow10, and strconv's two errors, as the program's text lays them). -/
import Derived.Test.YtdhnbmocdgmndaaDoorSBack
import Derived.Test.YtdhnbmocdgmndaaDoorSTab
import Derived.Test.YtdhnbmocdgmndaaDoorCards
import Derived.Test.YtdhnbmocdgmndaaDoorTie
namespace Go.Proofs.YtdhnbmocdgmndaaDoor
open Go.ChangeShapes Go.WideShapes Go.ChangeAt Go.RowKit

namespace SetBack
set_option maxHeartbeats 1000000 in
set_option maxRecDepth 100000 in
theorem early (ao : Option Addr) (m c : Nat) (s : ByteArray) (h : 20 < m ∨ 300 < s.size) (w : World) :
    Calls Tryd.prog 7 #[.slice ao m c, .string s] w fun e w' => e = .returned (.bool true) ∧ Below w.heap.size w w' := by
  have HH : Hid (20 < m ∨ 300 < s.size) := h
  clear h
  by_cases h1 : 20 < m
  · have h1' : (20 : Int) < (m : Int) := by omega
    clear h1
    go_enter Tryd.func7, Tryd.ntmps7
    go_wp2_with fail
    go_ret
    exact ⟨rfl, Below.refl _ _⟩
  · have h1' : (m : Int) ≤ 20 := by omega
    have h2' : (300 : Int) < (s.size : Int) := by have := HH.out; omega
    clear h1
    go_enter Tryd.func7, Tryd.ntmps7
    go_wp2_with fail
    go_ret
    exact ⟨rfl, Below.refl _ _⟩

theorem all (ao : Option Addr) (c : Nat) (A : List RS.Rg) (s : ByteArray) (w : World) (hT : TZ w) (hE : EV w) (hM : ML w) (ha : RgAt w.heap.size w (.slice ao A.length c) A) :
    Calls Tryd.prog 7 #[.slice ao A.length c, .string s] w fun e w' => e = .returned (.bool true) ∧ Below w.heap.size w w' := by
  by_cases h : 20 < A.length ∨ 300 < s.size
  · exact early ao _ c s h w
  · exact back_main ao c A s (by omega) (by omega) w hT hE hM (lt_of_tz hT) ha

def nameS : String := Rows.setBackRow.named.getD 4 ""
def nameR : String := Rows.setBackRow.named.getD 5 ""
theorem gS : Tryd.prog.globalNamed nameS = some 5 := by kernel_rfl
theorem gR : Tryd.prog.globalNamed nameR = some 6 := by kernel_rfl
theorem gSType : (Tryd.prog.globals[5]?).map (·.type) = some 33 := by kernel_rfl
theorem gRType : (Tryd.prog.globals[6]?).map (·.type) = some 33 := by kernel_rfl

/-- A variable that reads as some error holds an interface value. -/
theorem iface_at {W : World} {l : List (String × DataW Unit)} (h : laidMet Tryd.prog l W) {n : String} {g : Nat} {nm : String} {d D : DataW Unit} (hm : (n, D) ∈ l) (hD : D = .iface nm d)
    (hg : Tryd.prog.globalNamed n = some g) (ht : (Tryd.prog.globals[g]?).map (·.type) = some 33) : ∃ t p, W.cell? ⟨g, 0, none⟩ = some (.iface t p) := by
  obtain ⟨g', t, cs, fuel, p, e1, e2, e3, e4⟩ := Lib.laidMet.reads h (n := n) (d := D) hm
  rw [hD] at e4
  obtain rfl := Option.some.inj (hg.symm.trans e1)
  obtain rfl := Option.some.inj (ht.symm.trans e2)
  obtain ⟨_, u, v, hcs, _, _⟩ := iface_of_trod Tryd.underlying33 e4
  have hc := World.var?_cell hg e3 0
  have hk : cs[0]? = some (.iface u v) := by
    rw [← Array.getElem?_toList, hcs]
    rfl
  exact ⟨u, v, hc.trans hk⟩

theorem tables {W : World} (h : laidMetH Tryd.prog Rows.setBackRow.laid W) : TZ W ∧ EV W := by
  have h' : laidMet Tryd.prog [(name32, Rows.laid_math_bits_deBruijn32tab), (name64, Rows.laid_math_bits_deBruijn64tab), (nameP, Rows.laid_internal_strconv_uint64pow10), (nameR, Rows.laid_strconv_ErrRange), (nameS, Rows.laid_strconv_ErrSyntax)] W := h
  exact ⟨tz_of_laid h' (by simp), iface_at h' (n := nameS) (D := Rows.laid_strconv_ErrSyntax) (by simp) rfl gS gSType, iface_at h' (n := nameR) (D := Rows.laid_strconv_ErrRange) (by simp) rfl gR gRType⟩

set_option maxRecDepth 100000 in
/-- bytealg.MaxLen holds some number, whatever the world is. -/
theorem ml_of_shape {W : World} (h : W.ShapedOpen Tryd.prog) : ML W := by
  obtain ⟨cs, hh, hs, hr⟩ := h.1 3 #[.int .i64 0] 3 (of_decide_eq_true (by kernel_rfl)) (by kernel_rfl)
  obtain ⟨ts, hts, _, hall⟩ := hr (by kernel_rfl)
  obtain rfl := Option.some.inj ((show Tryd.prog.cellTypes Tryd.prog.depth 3 = some [3] by kernel_rfl).symm.trans hts)
  have h1 : 0 < cs.size := by rw [hs]; decide
  obtain ⟨u, hu, hok⟩ := hall 0 cs[0] (by simp [h1])
  obtain rfl : 3 = u := by simpa using hu
  have hcell : W.cell? ⟨3, 0, none⟩ = some cs[0] := by simp [World.cell?, hh, h1]
  unfold ML
  rw [hcell]
  unfold Cell.ok at hok
  rw [Tryd.underlying3] at hok
  cases hv : cs[0] <;> rw [hv] at hok <;> simp at hok
  rename_i k n
  obtain ⟨rfl, _⟩ := hok
  exact ⟨n, rfl⟩

set_option maxRecDepth 100000 in
theorem contract (H : Type) (enc : TypeId × Value → H) (W : World) (base : Nat) (args : Array Value) (ds gs : List (DataW H)) (before : List MemPlace)
    (hval : ∀ (j : Nat) t v, Tryd.f7.params[j]? = some t → args[j]? = some v → Value.okWide Tryd.prog W .any base t v)
    (hW : DataW.Whole enc Tryd.prog Tryd.f7.params.toList Rows.setBackSpec.vars false W args.toList ds gs before) (hL : laidMetH Tryd.prog Rows.setBackRow.laid W) (hsh : W.ShapedOpen Tryd.prog) :
    Calls Tryd.prog 7 args W fun e W' => ∃ v, e = .returned v ∧ Rows.setBackSpec.post enc Tryd.prog Tryd.f7 false true false false W args v W' := by
  have hW' := hW
  obtain ⟨p, q, hA0, hV, rfl, hfz, hnd⟩ := hW
  have hA : DataW.TrodAll enc Tryd.prog W 0 (fun _ => true) true Tryd.f7.params.toList args.toList ds p := hA0
  rw [Tryd.params7] at hA hval
  obtain ⟨v0, vs0, d0, ds0, p0, q0, hargs, rfl, rfl, h0, r0⟩ := trodAll_cons hA
  obtain ⟨v1, vs1, d1, ds1, p1, q1, rfl, rfl, rfl, h1, r1⟩ := trodAll_cons r0
  obtain ⟨rfl, rfl, rfl⟩ := trodAll_nil r1
  obtain rfl : args = #[v0, v1] := by cases args; simp_all
  obtain ⟨rfl, rfl⟩ := trodVars_none hV
  obtain ⟨s, rfl, rfl, rfl, hs⟩ := Go.ChangeMaps.open_string Tryd.underlying9 (hval 1 9 v1 rfl rfl) h1
  clear hA0
  simp only [List.append_nil] at hW'
  have hlt0 : ∀ y ∈ p0, y.block < W.heap.size := fun y hy => hW'.lt y (by simp [hy])
  obtain ⟨ao0, c0, A, rfl, hl0, hr0⟩ := open_rg (hval 0 47 v0 rfl rfl) h0 hlt0
  obtain ⟨hT, hE⟩ := tables hL
  refine (all ao0 c0 A s W hT hE (ml_of_shape hsh) hr0).mono fun e W' ⟨he, hb⟩ => ?_
  subst he
  exact ⟨_, rfl, _, _, _, [], _, [], hW', trodAll_cons_mk (shut_bool Tryd.underlying4 _) trodAll_mk0,
    trodAll_cons_mk (Below.trod laidOut (by kernel_rfl) (of_decide_eq_true (by kernel_rfl)) h0 hb hlt0) (trodAll_cons_mk (Go.ChangeMaps.shut_string Tryd.underlying9 hs) trodAll_mk0), rfl, hb.frame _, fun h => by cases h⟩

abbrev rangeS : ByteArray := { data := #[118, 97, 108, 117, 101, 32, 111, 117, 116, 32, 111, 102, 32, 114, 97, 110, 103, 101] }
abbrev syntaxS : ByteArray := { data := #[105, 110, 118, 97, 108, 105, 100, 32, 115, 121, 110, 116, 97, 120] }

noncomputable def low : Nat := (World.holding Tryd.prog default ⟨#[], #[], []⟩).heap.size

/-- One world in which the tables and the errors are as they are laid. -/
noncomputable def start (os : Os) : World :=
  let w0 := World.holding Tryd.prog os ⟨#[.cells #[.string rangeS] 185, .cells #[.string syntaxS] 185], #[], []⟩
  { w0 with heap := ((((w0.heap.modify 7 (fun | .cells _ t frozen => .cells (t32.map fun z => Value.int .u8 z).toArray t frozen | o => o)).modify 8 (fun | .cells _ t frozen => .cells (t64.map fun z => Value.int .u8 z).toArray t frozen | o => o)).modify 4 (fun | .cells _ t frozen => .cells (tp10.map fun z => Value.int .u64 z).toArray t frozen | o => o)).modify 6 (fun | .cells _ t frozen => .cells #[.iface 183 (.pointer (some ⟨low, 0, none⟩))] t frozen | o => o)).modify 5 (fun | .cells _ t frozen => .cells #[.iface 183 (.pointer (some ⟨low + 1, 0, none⟩))] t frozen | o => o) }

theorem laid_met (os : Os) : laidMet Tryd.prog Rows.setBackRow.laid ((start os).forCall (fun _ _ => 0) ⟨#[], #[.slice none 0 0, .string ⟨#[]⟩], []⟩).memory :=
  laidMet_of_run' 8 (by kernel_rfl) (by kernel_rfl)

theorem reads (os : Os) {H : Type} (enc : TypeId × Value → H) : ∃ places, DataW.whole enc Tryd.prog ((start os).forCall (fun _ _ => 0) ⟨#[], #[.slice none 0 0, .string ⟨#[]⟩], []⟩).memory Tryd.f7.params.toList Rows.setBackSpec.vars false (#[.slice none 0 0, .string ⟨#[]⟩] : Array Value).toList 8 = some ([.nil, .lit (.string [])], [], places) :=
  ⟨[], by kernel_rfl⟩

set_option maxRecDepth 100000 in
theorem lifted (os : Os) (started : os.Started) (H : Type) (enc : TypeId × Value → H) (F : Stop.Interp) :
    ReturnsInHanded {} Tryd.checked os 7 .any ((OpenSpec.ofChange Rows.setBackSpec).preRow enc Tryd.prog Tryd.f7 Rows.setBackRow.domain false Rows.setBackRow.laid) (((OpenSpec.ofChange Rows.setBackSpec).at F).post enc Tryd.prog Tryd.f7 false true false false) := by
  obtain ⟨places, hx⟩ := reads os enc
  refine returnsInHanded_of_row (C := Tryd.checked) (s := OpenSpec.ofChange Rows.setBackSpec) own started (by kernel_rfl) Tryd.func7
    (witness_row_at (enc := enc) (C := Tryd.checked) false (start os) #[.slice none 0 0, .string ⟨#[]⟩] rfl (by kernel_rfl) (by kernel_rfl) (by kernel_rfl)
      (OpenSpec.preRow_of_cond 8 hx (by kernel_rfl) (fun k hk => by cases hk) (by kernel_rfl) (laid_met os))) ?_
  intro W base args ds gs before hval hW _ _ _ hL hsh _
  exact contract H enc W base args ds gs before hval hW hL hsh

theorem said : Rows.SetBackSaid :=
  OpenClaim.holds_of_cond 7 Tryd.f7 rfl rfl rfl rfl rfl rfl rfl ⟨rfl, rfl, rfl, rfl, rfl⟩ rfl rfl rfl rfl rfl (by kernel_rfl) Tryd.func7 (by kernel_rfl)
    (of_decide_eq_true (by kernel_rfl)) (by unfold Func.isWrapper; first | (rw [if_pos (by decide +kernel)]; kernel_rfl) | (rw [if_neg (by decide +kernel)]; exact ⟨rfl, rfl⟩))
    (fun os started H enc _ F => by rw [OpenClaim.pre_eq_preRow]; exact lifted os started H enc F)

theorem plain (f : FuncId) (fn : Func) (hf : Tryd.pinned.checked.prog.funcNamed Rows.setBackRow.func = some f) (hfn : Tryd.pinned.checked.prog.funcs[f]? = some fn) :
    true = Tryd.pinned.checked.prog.looks [] ∧ ∀ (j : Nat) t, fn.params[j]? = some t → Tryd.pinned.checked.prog.wantsStandIn t = false := by
  obtain rfl : f = 7 := Option.some.inj ((show Tryd.prog.funcNamed Rows.setBackRow.func = some 7 by kernel_rfl).symm.trans hf) |>.symm
  obtain rfl : fn = Tryd.f7 := (Option.some.inj (Tryd.func7.symm.trans hfn)).symm
  refine ⟨by kernel_rfl, fun j t ht => ?_⟩
  rw [Tryd.params7] at ht
  have hm : t = 47 ∨ t = 9 := by simpa using Array.mem_of_getElem? ht
  rcases hm with rfl | rfl
  · exact (show Tryd.prog.wantsStandIn 47 = false by kernel_rfl)
  · exact (show Tryd.prog.wantsStandIn 9 = false by kernel_rfl)
end SetBack

theorem setBack_card : Rows.SetBackCardSaid :=
  Claim7.holds_tied_plain_at .later [] _ _ _ _ SetBack.said (fun _ h => by cases h) (by kernel_rfl) (fun _ h => by cases h) setBack_row_tie rfl ⟨rfl, rfl⟩ (by kernel_rfl) rfl SetBack.plain (by kernel_rfl)

end Go.Proofs.YtdhnbmocdgmndaaDoor
