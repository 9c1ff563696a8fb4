/- Proved: caesurakeep.SetLaws returns true for every three lists of ranges and every number (the tied card SetLawsCardSaid): what is not either is neither; what is less one is with none of it; twice not is itself; parts of both are both; and one point is in just what tells so. Conditions: those of the given card alone (the tables math/bits.deBruijn32tab, deBruijn64tab and internal/strconv.uint64pow10 as the program's text lays them). -/
import Derived.Test.YtdhnbmocdgmndaaDoorSLaws
import Derived.Test.YtdhnbmocdgmndaaDoorSTab
import Derived.Test.YtdhnbmocdgmndaaDoorCards
import Derived.Test.YtdhnbmocdgmndaaDoorTie
namespace Go.Proofs.YtdhnbmocdgmndaaDoor
open Go.ChangeShapes Go.WideShapes Go.ChangeAt Go.RowKit

namespace SetLaws
set_option maxHeartbeats 1000000 in
set_option maxRecDepth 100000 in
theorem early (aoa aob aoc : Option Addr) (m n k ca cb cc : Nat) (p : Int) (h : 20 < m ∨ 20 < n ∨ 20 < k) (w : World) :
    Calls Tryd.prog 6 #[.slice aoa m ca, .slice aob n cb, .slice aoc k cc, .int .i64 p] w fun e w' => e = .returned (.bool true) ∧ Below w.heap.size w w' := by
  have hb := fun o => (Below.refl _ w).alloc (Nat.le_refl w.heap.size) o
  have HH : Hid (20 < m ∨ 20 < n ∨ 20 < k) := h
  clear h
  by_cases h1 : 20 < m
  · have h1' : (20 : Int) < (m : Int) := by omega
    clear h1
    go_enter Tryd.func6, Tryd.ntmps6
    go_wp2_with fail
    go_ret
    exact ⟨rfl, hb _⟩
  · have h1' : (m : Int) ≤ 20 := by omega
    by_cases h2 : 20 < n
    · have h2' : (20 : Int) < (n : Int) := by omega
      clear h1 h2
      go_enter Tryd.func6, Tryd.ntmps6
      go_wp2_with fail
      go_ret
      exact ⟨rfl, hb _⟩
    · have h2' : (n : Int) ≤ 20 := by omega
      have h3' : (20 : Int) < (k : Int) := by have := HH.out; omega
      clear h1 h2
      go_enter Tryd.func6, Tryd.ntmps6
      go_wp2_with fail
      go_ret
      exact ⟨rfl, hb _⟩

theorem all (aoa aob aoc : Option Addr) (ca cb cc : Nat) (A B C : List RS.Rg) (p : Int) (w : World) (hTZ : TZ w)
    (ha : RgAt w.heap.size w (.slice aoa A.length ca) A) (hb : RgAt w.heap.size w (.slice aob B.length cb) B) (hc : RgAt w.heap.size w (.slice aoc C.length cc) C) :
    Calls Tryd.prog 6 #[.slice aoa A.length ca, .slice aob B.length cb, .slice aoc C.length cc, .int .i64 p] w fun e w' => e = .returned (.bool true) ∧ Below w.heap.size w w' := by
  by_cases h : 20 < A.length ∨ 20 < B.length ∨ 20 < C.length
  · exact early aoa aob aoc _ _ _ ca cb cc p h w
  · exact laws_main aoa aob aoc ca cb cc A B C p (by omega) (by omega) (by omega) w hTZ (lt_of_tz hTZ) ha hb hc

theorem table {W : World} (h : laidMetH Tryd.prog Rows.setLawsRow.laid W) : TZ W := by
  have h' : laidMet Tryd.prog [(name32, Rows.laid_math_bits_deBruijn32tab), (name64, Rows.laid_math_bits_deBruijn64tab), (nameP, Rows.laid_internal_strconv_uint64pow10)] W := h
  exact tz_of_laid h' (by simp)

set_option maxRecDepth 100000 in
theorem contract (H : Type) (enc : TypeId × Value → H) (W : World) (base : Nat) (args : Array Value) (ds gs : List (DataW H)) (before : List MemPlace)
    (hval : ∀ (j : Nat) t v, Tryd.f6.params[j]? = some t → args[j]? = some v → Value.okWide Tryd.prog W .any base t v)
    (hW : DataW.Whole enc Tryd.prog Tryd.f6.params.toList Rows.setLawsSpec.vars false W args.toList ds gs before) (hL : laidMetH Tryd.prog Rows.setLawsRow.laid W) :
    Calls Tryd.prog 6 args W fun e W' => ∃ v, e = .returned v ∧ Rows.setLawsSpec.post enc Tryd.prog Tryd.f6 false true false false W args v W' := by
  have hW' := hW
  obtain ⟨p, q, hA0, hV, rfl, hfz, hnd⟩ := hW
  have hA : DataW.TrodAll enc Tryd.prog W 0 (fun _ => true) true Tryd.f6.params.toList args.toList ds p := hA0
  rw [Tryd.params6] at hA hval
  obtain ⟨v0, vs0, d0, ds0, p0, q0, hargs, rfl, rfl, h0, r0⟩ := trodAll_cons hA
  obtain ⟨v1, vs1, d1, ds1, p1, q1, rfl, rfl, rfl, h1, r1⟩ := trodAll_cons r0
  obtain ⟨v2, vs2, d2, ds2, p2, q2, rfl, rfl, rfl, h2, r2⟩ := trodAll_cons r1
  obtain ⟨v3, vs3, d3, ds3, p3, q3, rfl, rfl, rfl, h3, r3⟩ := trodAll_cons r2
  obtain ⟨rfl, rfl, rfl⟩ := trodAll_nil r3
  obtain rfl : args = #[v0, v1, v2, v3] := by cases args; simp_all
  obtain ⟨rfl, rfl⟩ := trodVars_none hV
  obtain ⟨x, rfl, rfl, rfl, hx⟩ := open_int Tryd.underlying3 (hval 3 3 v3 rfl rfl) h3
  clear hA0
  simp only [List.append_nil] at hW'
  have hlt0 : ∀ y ∈ p0, y.block < W.heap.size := fun y hy => hW'.lt y (by simp [hy])
  have hlt1 : ∀ y ∈ p1, y.block < W.heap.size := fun y hy => hW'.lt y (by simp [hy])
  have hlt2 : ∀ y ∈ p2, y.block < W.heap.size := fun y hy => hW'.lt y (by simp [hy])
  obtain ⟨ao0, c0, A, rfl, hl0, hr0⟩ := open_rg (hval 0 47 v0 rfl rfl) h0 hlt0
  obtain ⟨ao1, c1, B, rfl, hl1, hr1⟩ := open_rg (hval 1 47 v1 rfl rfl) h1 hlt1
  obtain ⟨ao2, c2, C, rfl, hl2, hr2⟩ := open_rg (hval 2 47 v2 rfl rfl) h2 hlt2
  refine (all ao0 ao1 ao2 c0 c1 c2 A B C x W (table hL) hr0 hr1 hr2).mono fun e W' ⟨he, hb⟩ => ?_
  subst he
  exact ⟨_, rfl, _, _, _, [], _, [], hW', trodAll_cons_mk (shut_bool Tryd.underlying4 _) trodAll_mk0,
    trodAll_cons_mk (Below.trod laidOut (by kernel_rfl) (of_decide_eq_true (by kernel_rfl)) h0 hb hlt0) (trodAll_cons_mk (Below.trod laidOut (by kernel_rfl) (of_decide_eq_true (by kernel_rfl)) h1 hb hlt1) (trodAll_cons_mk (Below.trod laidOut (by kernel_rfl) (of_decide_eq_true (by kernel_rfl)) h2 hb hlt2) (trodAll_cons_mk (shut_int Tryd.underlying3 hx) trodAll_mk0))), rfl, hb.frame _, fun h => by cases h⟩

theorem laid_met (os : Os) : laidMet Tryd.prog Rows.setLawsRow.laid (({ World.holding Tryd.prog os ⟨#[], #[], []⟩ with heap := (((World.holding Tryd.prog os ⟨#[], #[], []⟩).heap.modify 7 (fun | .cells _ t frozen => .cells (t32.map fun z => Value.int .u8 z).toArray t frozen | o => o)).modify 8 (fun | .cells _ t frozen => .cells (t64.map fun z => Value.int .u8 z).toArray t frozen | o => o)).modify 4 (fun | .cells _ t frozen => .cells (tp10.map fun z => Value.int .u64 z).toArray t frozen | o => o) } : World).forCall (fun _ _ => 0) ⟨#[], #[.slice none 0 0, .slice none 0 0, .slice none 0 0, .int .i64 0], []⟩).memory :=
  laidMet_of_run' 8 (by kernel_rfl) (by kernel_rfl)
theorem reads (os : Os) {H : Type} (enc : TypeId × Value → H) : ∃ places, DataW.whole enc Tryd.prog (({ World.holding Tryd.prog os ⟨#[], #[], []⟩ with heap := (((World.holding Tryd.prog os ⟨#[], #[], []⟩).heap.modify 7 (fun | .cells _ t frozen => .cells (t32.map fun z => Value.int .u8 z).toArray t frozen | o => o)).modify 8 (fun | .cells _ t frozen => .cells (t64.map fun z => Value.int .u8 z).toArray t frozen | o => o)).modify 4 (fun | .cells _ t frozen => .cells (tp10.map fun z => Value.int .u64 z).toArray t frozen | o => o) } : World).forCall (fun _ _ => 0) ⟨#[], #[.slice none 0 0, .slice none 0 0, .slice none 0 0, .int .i64 0], []⟩).memory Tryd.f6.params.toList Rows.setLawsSpec.vars false (#[.slice none 0 0, .slice none 0 0, .slice none 0 0, .int .i64 0] : Array Value).toList 8 = some ([.nil, .nil, .nil, .lit (.int .i64 0)], [], places) :=
  ⟨[], by kernel_rfl⟩

set_option maxRecDepth 100000 in
theorem lifted (os : Os) (started : os.Started) (H : Type) (enc : TypeId × Value → H) (F : Stop.Interp) :
    ReturnsInHanded {} Tryd.checked os 6 .any ((OpenSpec.ofChange Rows.setLawsSpec).preRow enc Tryd.prog Tryd.f6 Rows.setLawsRow.domain false Rows.setLawsRow.laid) (((OpenSpec.ofChange Rows.setLawsSpec).at F).post enc Tryd.prog Tryd.f6 false true false false) := by
  obtain ⟨places, hx⟩ := reads os enc
  refine returnsInHanded_of_row (C := Tryd.checked) (s := OpenSpec.ofChange Rows.setLawsSpec) own started (by kernel_rfl) Tryd.func6
    (witness_row_at (enc := enc) (C := Tryd.checked) false ({ World.holding Tryd.prog os ⟨#[], #[], []⟩ with heap := (((World.holding Tryd.prog os ⟨#[], #[], []⟩).heap.modify 7 (fun | .cells _ t frozen => .cells (t32.map fun z => Value.int .u8 z).toArray t frozen | o => o)).modify 8 (fun | .cells _ t frozen => .cells (t64.map fun z => Value.int .u8 z).toArray t frozen | o => o)).modify 4 (fun | .cells _ t frozen => .cells (tp10.map fun z => Value.int .u64 z).toArray t frozen | o => o) } : World) #[.slice none 0 0, .slice none 0 0, .slice none 0 0, .int .i64 0] rfl (by kernel_rfl) (by kernel_rfl) (by kernel_rfl)
      (OpenSpec.preRow_of_cond 8 hx (by kernel_rfl) (fun k hk => by cases hk) (by kernel_rfl) (laid_met os))) ?_
  intro W base args ds gs before hval hW _ _ _ hL _ _
  exact contract H enc W base args ds gs before hval hW hL

theorem said : Rows.SetLawsSaid :=
  OpenClaim.holds_of_cond 6 Tryd.f6 rfl rfl rfl rfl rfl rfl rfl ⟨rfl, rfl, rfl, rfl, rfl⟩ rfl rfl rfl rfl rfl (by kernel_rfl) Tryd.func6 (by kernel_rfl)
    (of_decide_eq_true (by kernel_rfl)) (by unfold Func.isWrapper; first | (rw [if_pos (by decide +kernel)]; kernel_rfl) | (rw [if_neg (by decide +kernel)]; exact ⟨rfl, rfl⟩))
    (fun os started H enc _ F => by rw [OpenClaim.pre_eq_preRow]; exact lifted os started H enc F)

theorem plain (f : FuncId) (fn : Func) (hf : Tryd.pinned.checked.prog.funcNamed Rows.setLawsRow.func = some f) (hfn : Tryd.pinned.checked.prog.funcs[f]? = some fn) :
    true = Tryd.pinned.checked.prog.looks [] ∧ ∀ (j : Nat) t, fn.params[j]? = some t → Tryd.pinned.checked.prog.wantsStandIn t = false := by
  obtain rfl : f = 6 := Option.some.inj ((show Tryd.prog.funcNamed Rows.setLawsRow.func = some 6 by kernel_rfl).symm.trans hf) |>.symm
  obtain rfl : fn = Tryd.f6 := (Option.some.inj (Tryd.func6.symm.trans hfn)).symm
  refine ⟨by kernel_rfl, fun j t ht => ?_⟩
  rw [Tryd.params6] at ht
  have hm : t = 47 ∨ t = 3 := by simpa using Array.mem_of_getElem? ht
  rcases hm with rfl | rfl
  · exact (show Tryd.prog.wantsStandIn 47 = false by kernel_rfl)
  · exact (show Tryd.prog.wantsStandIn 3 = false by kernel_rfl)
end SetLaws

theorem setLaws_card : Rows.SetLawsCardSaid :=
  Claim7.holds_tied_plain_at .later [] _ _ _ _ SetLaws.said (fun _ h => by cases h) (by kernel_rfl) (fun _ h => by cases h) setLaws_row_tie rfl ⟨rfl, rfl⟩ (by kernel_rfl) rfl SetLaws.plain (by kernel_rfl)

end Go.Proofs.YtdhnbmocdgmndaaDoor
