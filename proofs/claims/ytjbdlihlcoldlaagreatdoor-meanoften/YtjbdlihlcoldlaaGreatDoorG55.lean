/- Proved: caesurakeep.MeanOften returns true for any two texts and any place (the tied card MeanOftenCardSaid): forwards and backwards, for any pattern x of a right file and any text of at most 30 bytes, x at least 0 times is nothing or x and again, 2 times is x and x, at most once is x or nothing, at least once is any number of times and x, 1 to 3 times is x and at most 2 times: they stand at the same places, and so do they with the text's edge beside them. Conditions: those of the given card alone (math/bits' two deBruijn tables, internal/strconv.uint64pow10, utf.least, errors.errorType and strconv's two errors as the program's text lays them; internal/bytealg.MaxLen holds some number; bytealg's and reflectlite's entries are the model's). -/
import Derived.Test.YtjbdlihlcoldlaaGreatDoorG53
import Derived.Test.YtjbdlihlcoldlaaGreatDoorG54
import Derived.Test.YtjbdlihlcoldlaaGreatDoorG43
import Derived.Test.YtjbdlihlcoldlaaGreatDoorCards
import Derived.Test.YtjbdlihlcoldlaaGreatDoorTie
import Derived.Deep.DeepWitnessRowRef
import Derived.Deep.DeepLaidRun
namespace Go.Proofs.YtjbdlihlcoldlaaGreatDoor
open Go.ChangeShapes Go.WideShapes Go.ChangeAt Go.RowKit Go.Shelf

namespace MeanOften
theorem split {W : World} (h : laidMetH Tryz.prog Rows.meanOftenRow.laid W) : laidMet Tryz.prog Cd.rest W ∧ handlesMet Tryz.prog Cd.hand W := h

set_option maxRecDepth 100000 in
theorem contract (H : Type) (enc : TypeId × Value → H) (W : World) (base : Nat) (args : Array Value) (ds gs : List (DataW H)) (before : List MemPlace)
    (hval : ∀ (j : Nat) t v, Tryz.f7.params[j]? = some t → args[j]? = some v → Value.okWide Tryz.prog W .any base t v)
    (hW : DataW.Whole enc Tryz.prog Tryz.f7.params.toList Rows.meanOftenSpec.vars false W args.toList ds gs before) (hL : laidMetH Tryz.prog Rows.meanOftenRow.laid W) (hsh : W.ShapedOpen Tryz.prog) :
    Calls Tryz.prog 7 args W fun e W' => ∃ v, e = .returned v ∧ Rows.meanOftenSpec.post enc Tryz.prog Tryz.f7 false true false false W args v W' := by
  have hW' := hW
  obtain ⟨p, q, hA0, hV, rfl, hfz, hnd⟩ := hW
  have hA : DataW.TrodAll enc Tryz.prog W 0 (fun _ => true) true Tryz.f7.params.toList args.toList ds p := hA0
  rw [Tryz.params7] at hA hval
  obtain ⟨v0, vs0, d0, ds0, p0, q0, hargs, rfl, rfl, h0, r0⟩ := trodAll_cons hA
  obtain ⟨v1, vs1, d1, ds1, p1, q1, rfl, rfl, rfl, h1, r1⟩ := trodAll_cons r0
  obtain ⟨v2, vs2, d2, ds2, p2, q2, rfl, rfl, rfl, h2, r2⟩ := trodAll_cons r1
  obtain ⟨rfl, rfl, rfl⟩ := trodAll_nil r2
  obtain rfl : args = #[v0, v1, v2] := by cases args; simp_all
  obtain ⟨rfl, rfl⟩ := trodVars_none hV
  obtain ⟨s, rfl, rfl, rfl, hs⟩ := Go.ChangeMaps.open_string Tryz.underlying9 (hval 0 9 v0 rfl rfl) h0
  obtain ⟨u, rfl, rfl, rfl, hu⟩ := Go.ChangeMaps.open_string Tryz.underlying9 (hval 1 9 v1 rfl rfl) h1
  obtain ⟨is, rfl, rfl, rfl, hi⟩ := open_int Tryz.underlying3 (hval 2 3 v2 rfl rfl) h2
  clear hA0
  refine (M.oftenlaw_any s u is W (Cd.tables (split hL).1 (split hL).2 hsh)).mono fun e W' ⟨he, hb⟩ => ?_
  subst he
  exact ⟨_, rfl, _, _, _, [], _, [], hW', trodAll_cons_mk (shut_bool Tryz.underlying4 _) trodAll_mk0,
    trodAll_cons_mk (Go.ChangeMaps.shut_string Tryz.underlying9 hs) (trodAll_cons_mk (Go.ChangeMaps.shut_string Tryz.underlying9 hu) (trodAll_cons_mk (shut_int Tryz.underlying3 hi) trodAll_mk0)), rfl, hb.frame _, fun h => by cases h⟩

abbrev args0 : Array Value := #[.string ⟨#[]⟩, .string ⟨#[]⟩, .int .i64 0]

noncomputable abbrev mem0 (os : Os) : World := ((Cd.start os).forCall (fun _ _ => 0) ⟨#[], args0, []⟩).memory
theorem run1 (os : Os) : (DataW.laidRun Tryz.prog (mem0 os) 10 (Cd.rest.map (·.1))).map (·.1) = some Cd.rest := by kernel_rfl
theorem run2 (os : Os) : (DataW.laidRun Tryz.prog (mem0 os) 10 (Cd.rest.map (·.1))).map (fun x => nodupB (x.2.map MemPlace.codeOf)) = some true := by kernel_rfl
theorem run3 (os : Os) : (DataW.laidRun Tryz.prog (mem0 os) 10 (Cd.rest.map (·.1))).map (fun x => laidRowsB Tryz.prog (mem0 os) x.2) = some true := by kernel_rfl
theorem run4 (os : Os) : Cd.hand.all (handleAtB Tryz.prog (mem0 os)) = true := by kernel_rfl
theorem met0 (os : Os) : laidMet Tryz.prog Cd.rest (mem0 os) := laidMet_of_run3 10 (run1 os) (run2 os) (run3 os)
theorem laid_met (os : Os) : laidMetH Tryz.prog Rows.meanOftenRow.laid (mem0 os) := laidMetH_of_parts (l := Rows.meanOftenRow.laid) (met0 os) (run4 os)

theorem reads (os : Os) {H : Type} (enc : TypeId × Value → H) : ∃ places, DataW.whole enc Tryz.prog ((Cd.start os).forCall (fun _ _ => 0) ⟨#[], args0, []⟩).memory Tryz.f7.params.toList Rows.meanOftenSpec.vars false args0.toList 8 = some ([.lit (.string []), .lit (.string []), .lit (.int .i64 0)], [], places) :=
  ⟨[], by kernel_rfl⟩

set_option maxRecDepth 100000 in
theorem lifted (os : Os) (started : os.Started) (H : Type) (enc : TypeId × Value → H) (F : Stop.Interp) :
    ReturnsInHanded {} Tryz.checked os 7 .any ((OpenSpec.ofChange Rows.meanOftenSpec).preRow enc Tryz.prog Tryz.f7 Rows.meanOftenRow.domain false Rows.meanOftenRow.laid) (((OpenSpec.ofChange Rows.meanOftenSpec).at F).post enc Tryz.prog Tryz.f7 false true false false) := by
  obtain ⟨places, hx⟩ := reads os enc
  refine returnsInHanded_of_row (C := Tryz.checked) (s := OpenSpec.ofChange Rows.meanOftenSpec) Cd.own started (by kernel_rfl) Tryz.func7
    (witness_row_atRef (enc := enc) (C := Tryz.checked) false (Cd.start os) args0 rfl (by kernel_rfl) (by kernel_rfl) (by kernel_rfl)
      (OpenSpec.preRow_of_cond 8 hx (by kernel_rfl) (fun k hk => by cases hk) (by kernel_rfl) (laid_met os))) ?_
  intro W base args ds gs before hval hW _ _ _ hL hsh _
  exact contract H enc W base args ds gs before hval hW hL hsh

theorem said : Rows.MeanOftenSaid :=
  OpenClaim.holds_of_cond 7 Tryz.f7 rfl rfl rfl rfl rfl rfl rfl ⟨rfl, rfl, rfl, rfl, rfl⟩ rfl rfl rfl rfl rfl (by kernel_rfl) Tryz.func7 joined
    (of_decide_eq_true (by kernel_rfl)) (by unfold Func.isWrapper; first | (rw [if_pos (by decide +kernel)]; kernel_rfl) | (rw [if_neg (by decide +kernel)]; exact ⟨rfl, rfl⟩))
    (fun os started H enc _ F => by rw [OpenClaim.pre_eq_preRow]; exact lifted os started H enc F)

theorem plain (f : FuncId) (fn : Func) (hf : Tryz.pinned.checked.prog.funcNamed Rows.meanOftenRow.func = some f) (hfn : Tryz.pinned.checked.prog.funcs[f]? = some fn) :
    true = Tryz.pinned.checked.prog.looks [] ∧ ∀ (j : Nat) t, fn.params[j]? = some t → Tryz.pinned.checked.prog.wantsStandIn t = false := by
  obtain rfl : f = 7 := Option.some.inj ((show Tryz.prog.funcNamed Rows.meanOftenRow.func = some 7 by kernel_rfl).symm.trans hf) |>.symm
  obtain rfl : fn = Tryz.f7 := (Option.some.inj (Tryz.func7.symm.trans hfn)).symm
  refine ⟨by kernel_rfl, fun j t ht => ?_⟩
  rw [Tryz.params7] at ht
  have hm : t = 9 ∨ t = 3 := by have := Array.mem_of_getElem? ht; simp at this; omega
  rcases hm with rfl | rfl
  · exact (show Tryz.prog.wantsStandIn 9 = false by kernel_rfl)
  · exact (show Tryz.prog.wantsStandIn 3 = false by kernel_rfl)
end MeanOften

theorem meanOften_card : Rows.MeanOftenCardSaid :=
  Claim7.holds_tied_plain_at .later [] _ _ _ _ MeanOften.said (fun _ h => by cases h) (by kernel_rfl) (fun _ h => by cases h) meanOften_row_tie rfl ⟨rfl, rfl⟩ (by kernel_rfl) rfl MeanOften.plain (by kernel_rfl)

end Go.Proofs.YtjbdlihlcoldlaaGreatDoor
