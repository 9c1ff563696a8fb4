/- Proved: caesurakeep.MeanFirst returns true for any two texts and either verdict (the tied card MeanFirstCardSaid): a file whose first rule always stands breaks everywhere, or nowhere but at the ends; a rule twice is a rule once; breaks rise, from the beginning to the end. Conditions: those of the given card alone (math/bits' two deBruijn tables, internal/strconv.uint64pow10, utf.least, errors.errorType and strconv's two errors as the program's text lays them; internal/bytealg.MaxLen holds some number; bytealg's and reflectlite's entries are the model's). -/
import Derived.Test.YtjbdlihlcoldlaaGreatDoorG42
import Derived.Test.YtjbdlihlcoldlaaGreatDoorG43
import Derived.Test.YtjbdlihlcoldlaaGreatDoorCards
import Derived.Test.YtjbdlihlcoldlaaGreatDoorTie
import Derived.Deep.DeepWitnessRowRef
import Derived.Deep.DeepLaidRun
namespace Go.Proofs.YtjbdlihlcoldlaaGreatDoor
open Go.ChangeShapes Go.WideShapes Go.ChangeAt Go.RowKit Go.Shelf

namespace MeanFirst
theorem split {W : World} (h : laidMetH Tryz.prog Rows.meanFirstRow.laid W) : laidMet Tryz.prog Cd.rest W ∧ handlesMet Tryz.prog Cd.hand W := h

set_option maxRecDepth 100000 in
theorem contract (H : Type) (enc : TypeId × Value → H) (W : World) (base : Nat) (args : Array Value) (ds gs : List (DataW H)) (before : List MemPlace)
    (hval : ∀ (j : Nat) t v, Tryz.f4.params[j]? = some t → args[j]? = some v → Value.okWide Tryz.prog W .any base t v)
    (hW : DataW.Whole enc Tryz.prog Tryz.f4.params.toList Rows.meanFirstSpec.vars false W args.toList ds gs before) (hL : laidMetH Tryz.prog Rows.meanFirstRow.laid W) (hsh : W.ShapedOpen Tryz.prog) :
    Calls Tryz.prog 4 args W fun e W' => ∃ v, e = .returned v ∧ Rows.meanFirstSpec.post enc Tryz.prog Tryz.f4 false true false false W args v W' := by
  have hW' := hW
  obtain ⟨p, q, hA0, hV, rfl, hfz, hnd⟩ := hW
  have hA : DataW.TrodAll enc Tryz.prog W 0 (fun _ => true) true Tryz.f4.params.toList args.toList ds p := hA0
  rw [Tryz.params4] at hA hval
  obtain ⟨v0, vs0, d0, ds0, p0, q0, hargs, rfl, rfl, h0, r0⟩ := trodAll_cons hA
  obtain ⟨v1, vs1, d1, ds1, p1, q1, rfl, rfl, rfl, h1, r1⟩ := trodAll_cons r0
  obtain ⟨v2, vs2, d2, ds2, p2, q2, rfl, rfl, rfl, h2, r2⟩ := trodAll_cons r1
  obtain ⟨rfl, rfl, rfl⟩ := trodAll_nil r2
  obtain rfl : args = #[v0, v1, v2] := by cases args; simp_all
  obtain ⟨rfl, rfl⟩ := trodVars_none hV
  obtain ⟨s, rfl, rfl, rfl, hs⟩ := Go.ChangeMaps.open_string Tryz.underlying9 (hval 0 9 v0 rfl rfl) h0
  obtain ⟨u, rfl, rfl, rfl, hu⟩ := Go.ChangeMaps.open_string Tryz.underlying9 (hval 1 9 v1 rfl rfl) h1
  obtain ⟨is, rfl⟩ : ∃ b, v2 = .bool b := okWide_bool Tryz.underlying4 (hval 2 4 v2 rfl rfl)
  obtain ⟨fuel2, hf2⟩ := h2
  obtain ⟨b, e0, e1⟩ := DataW.trod_bool Tryz.underlying4 hf2
  obtain rfl : is = b := by simpa [Value.cells] using e0
  simp only [Prod.mk.injEq] at e1
  obtain ⟨rfl, rfl⟩ := e1
  clear hA0
  refine (M.first_any s u is W (Cd.tables (split hL).1 (split hL).2 hsh)).mono fun e W' ⟨he, hb⟩ => ?_
  subst he
  exact ⟨_, rfl, _, _, _, [], _, [], hW', trodAll_cons_mk (shut_bool Tryz.underlying4 _) trodAll_mk0,
    trodAll_cons_mk (Go.ChangeMaps.shut_string Tryz.underlying9 hs) (trodAll_cons_mk (Go.ChangeMaps.shut_string Tryz.underlying9 hu) (trodAll_cons_mk (shut_bool Tryz.underlying4 is) trodAll_mk0)), rfl, hb.frame _, fun h => by cases h⟩

abbrev args0 : Array Value := #[.string ⟨#[]⟩, .string ⟨#[]⟩, .bool false]

noncomputable abbrev mem0 (os : Os) : World := ((Cd.start os).forCall (fun _ _ => 0) ⟨#[], args0, []⟩).memory
theorem run1 (os : Os) : (DataW.laidRun Tryz.prog (mem0 os) 10 (Cd.rest.map (·.1))).map (·.1) = some Cd.rest := by kernel_rfl
theorem run2 (os : Os) : (DataW.laidRun Tryz.prog (mem0 os) 10 (Cd.rest.map (·.1))).map (fun x => nodupB (x.2.map MemPlace.codeOf)) = some true := by kernel_rfl
theorem run3 (os : Os) : (DataW.laidRun Tryz.prog (mem0 os) 10 (Cd.rest.map (·.1))).map (fun x => laidRowsB Tryz.prog (mem0 os) x.2) = some true := by kernel_rfl
theorem run4 (os : Os) : Cd.hand.all (handleAtB Tryz.prog (mem0 os)) = true := by kernel_rfl
theorem met0 (os : Os) : laidMet Tryz.prog Cd.rest (mem0 os) := laidMet_of_run3 10 (run1 os) (run2 os) (run3 os)
theorem laid_met (os : Os) : laidMetH Tryz.prog Rows.meanFirstRow.laid (mem0 os) := laidMetH_of_parts (l := Rows.meanFirstRow.laid) (met0 os) (run4 os)

theorem reads (os : Os) {H : Type} (enc : TypeId × Value → H) : ∃ places, DataW.whole enc Tryz.prog ((Cd.start os).forCall (fun _ _ => 0) ⟨#[], args0, []⟩).memory Tryz.f4.params.toList Rows.meanFirstSpec.vars false args0.toList 8 = some ([.lit (.string []), .lit (.string []), .lit (.bool false)], [], places) :=
  ⟨[], by kernel_rfl⟩

set_option maxRecDepth 100000 in
theorem lifted (os : Os) (started : os.Started) (H : Type) (enc : TypeId × Value → H) (F : Stop.Interp) :
    ReturnsInHanded {} Tryz.checked os 4 .any ((OpenSpec.ofChange Rows.meanFirstSpec).preRow enc Tryz.prog Tryz.f4 Rows.meanFirstRow.domain false Rows.meanFirstRow.laid) (((OpenSpec.ofChange Rows.meanFirstSpec).at F).post enc Tryz.prog Tryz.f4 false true false false) := by
  obtain ⟨places, hx⟩ := reads os enc
  refine returnsInHanded_of_row (C := Tryz.checked) (s := OpenSpec.ofChange Rows.meanFirstSpec) Cd.own started (by kernel_rfl) Tryz.func4
    (witness_row_atRef (enc := enc) (C := Tryz.checked) false (Cd.start os) args0 rfl (by kernel_rfl) (by kernel_rfl) (by kernel_rfl)
      (OpenSpec.preRow_of_cond 8 hx (by kernel_rfl) (fun k hk => by cases hk) (by kernel_rfl) (laid_met os))) ?_
  intro W base args ds gs before hval hW _ _ _ hL hsh _
  exact contract H enc W base args ds gs before hval hW hL hsh

theorem said : Rows.MeanFirstSaid :=
  OpenClaim.holds_of_cond 4 Tryz.f4 rfl rfl rfl rfl rfl rfl rfl ⟨rfl, rfl, rfl, rfl, rfl⟩ rfl rfl rfl rfl rfl (by kernel_rfl) Tryz.func4 (by kernel_rfl)
    (of_decide_eq_true (by kernel_rfl)) (by unfold Func.isWrapper; first | (rw [if_pos (by decide +kernel)]; kernel_rfl) | (rw [if_neg (by decide +kernel)]; exact ⟨rfl, rfl⟩))
    (fun os started H enc _ F => by rw [OpenClaim.pre_eq_preRow]; exact lifted os started H enc F)

theorem plain (f : FuncId) (fn : Func) (hf : Tryz.pinned.checked.prog.funcNamed Rows.meanFirstRow.func = some f) (hfn : Tryz.pinned.checked.prog.funcs[f]? = some fn) :
    true = Tryz.pinned.checked.prog.looks [] ∧ ∀ (j : Nat) t, fn.params[j]? = some t → Tryz.pinned.checked.prog.wantsStandIn t = false := by
  obtain rfl : f = 4 := Option.some.inj ((show Tryz.prog.funcNamed Rows.meanFirstRow.func = some 4 by kernel_rfl).symm.trans hf) |>.symm
  obtain rfl : fn = Tryz.f4 := (Option.some.inj (Tryz.func4.symm.trans hfn)).symm
  refine ⟨by kernel_rfl, fun j t ht => ?_⟩
  rw [Tryz.params4] at ht
  have hm : t = 9 ∨ t = 4 := by have := Array.mem_of_getElem? ht; simp at this; omega
  rcases hm with rfl | rfl
  · exact (show Tryz.prog.wantsStandIn 9 = false by kernel_rfl)
  · exact (show Tryz.prog.wantsStandIn 4 = false by kernel_rfl)
end MeanFirst

theorem meanFirst_card : Rows.MeanFirstCardSaid :=
  Claim7.holds_tied_plain_at .later [] _ _ _ _ MeanFirst.said (fun _ h => by cases h) (by kernel_rfl) (fun _ h => by cases h) meanFirst_row_tie rfl ⟨rfl, rfl⟩ (by kernel_rfl) rfl MeanFirst.plain (by kernel_rfl)

end Go.Proofs.YtjbdlihlcoldlaaGreatDoor
