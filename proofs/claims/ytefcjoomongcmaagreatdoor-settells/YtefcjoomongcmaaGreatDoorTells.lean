/- Proved: caesuralaw.SetTells returns true for all lists of ranges, every number and every text (the tied card SetTellsCardSaid): which sets may be, what any two come to, what is in one, how it is written, and which one any text is, is the document's own answer. Conditions: those of the given card alone (Go's tables and errors on the road, as the program's text lays them; unicode/utf8.first as the form's own pinned constant). -/
import Derived.Test.YtefcjoomongcmaaGreatDoorTellsA
import Derived.Test.YtefcjoomongcmaaGreatDoorCards
import Derived.Test.YtefcjoomongcmaaGreatDoorTie
import Derived.Deep.DeepWitnessRowRef
import Derived.Deep.DeepLaidRun
namespace Go.Proofs.YtefcjoomongcmaaGreatDoor
open Go.ChangeShapes Go.WideShapes Go.ChangeAt Go.RowKit Go.Shelf

namespace Tells
abbrev rangeS : ByteArray := { data := #[118, 97, 108, 117, 101, 32, 111, 117, 116, 32, 111, 102, 32, 114, 97, 110, 103, 101] }
abbrev syntaxS : ByteArray := { data := #[105, 110, 118, 97, 108, 105, 100, 32, 115, 121, 110, 116, 97, 120] }

noncomputable def low : Nat := (World.holding Tryz.prog default ⟨#[], #[], []⟩).heap.size
noncomputable def put (h : Array Obj) (g : Nat) (cs : Array Value) : Array Obj := h.modify g (fun | .cells _ t frozen => .cells cs t frozen | o => o)
noncomputable def bare0 (os : Os) : World :=
  World.holding Tryz.prog os ⟨#[.cells #[.string rangeS] 189, .cells #[.string syntaxS] 189, .cells (Lib.whiteT.map fun (z : Nat) => Value.int .u16 (z : Int)).toArray 152, .cells #[.slice (some ⟨low + 2, 0, none⟩) 7 7, .slice none 0 0, .int .i64 2] 149], #[], []⟩

/-- One world in which the tables and the errors are as they are laid. -/
noncomputable def start (os : Os) : World :=
  { bare0 os with heap := put (put (put (put (put (put (put (put (put (put (bare0 os).heap 9 (t32.map fun z => Value.int .u8 z).toArray) 10 (t64.map fun z => Value.int .u8 z).toArray) 4 (tp10.map fun z => Value.int .u64 z).toArray) 3 #[.iface 187 (.pointer (some ⟨low, 0, none⟩))]) 2 #[.iface 187 (.pointer (some ⟨low + 1, 0, none⟩))]) 1 #[.pointer (some ⟨low + 3, 0, none⟩)]) 0 (Lib.asciiSpaceTab.map fun z => Value.int .u8 z).toArray) 5 (Lib.firstTab.map fun z => Value.int .u8 z).toArray) 6 ((List.range 16).flatMap fun i => [Value.int .u8 (Lib.accLo i), Value.int .u8 (Lib.accHi i)]).toArray) 8 #[.iface 208 (.agg #[.pointer (some ⟨12, 35, none⟩)])] }

abbrev args0 : Array Value := #[.slice none 0 0, .slice none 0 0, .int .i64 0, .string ⟨#[]⟩]

noncomputable abbrev mem0 (os : Os) : World := ((start os).forCall (fun _ _ => 0) ⟨#[], args0, []⟩).memory
theorem run1 (os : Os) : (DataW.laidRun Tryz.prog (mem0 os) 10 (rest.map (·.1))).map (·.1) = some rest := by kernel_rfl
theorem run2 (os : Os) : (DataW.laidRun Tryz.prog (mem0 os) 10 (rest.map (·.1))).map (fun x => nodupB (x.2.map MemPlace.codeOf)) = some true := by kernel_rfl
theorem run3 (os : Os) : (DataW.laidRun Tryz.prog (mem0 os) 10 (rest.map (·.1))).map (fun x => laidRowsB Tryz.prog (mem0 os) x.2) = some true := by kernel_rfl
theorem run4 (os : Os) : [(nameAt 10, (Rows.laid_errors_errorType : DataW Unit))].all (handleAtB Tryz.prog (mem0 os)) = true := by kernel_rfl
theorem met0 (os : Os) : laidMet Tryz.prog rest (mem0 os) := laidMet_of_run3 10 (run1 os) (run2 os) (run3 os)
theorem laid_met (os : Os) : laidMetH Tryz.prog Rows.setTellsRow.laid (mem0 os) := laidMetH_of_parts (l := Rows.setTellsRow.laid) (met0 os) (run4 os)

theorem reads (os : Os) {H : Type} (enc : TypeId × Value → H) : ∃ places, DataW.whole enc Tryz.prog ((start os).forCall (fun _ _ => 0) ⟨#[], args0, []⟩).memory Tryz.f3.params.toList Rows.setTellsSpec.vars false args0.toList 8 = some ([.nil, .nil, .lit (.int .i64 0), .lit (.string [])], [], places) :=
  ⟨[], by kernel_rfl⟩

set_option maxRecDepth 100000 in
theorem lifted (os : Os) (started : os.Started) (H : Type) (enc : TypeId × Value → H) (F : Stop.Interp) :
    ReturnsInHanded {} Tryz.checked os 3 .any ((OpenSpec.ofChange Rows.setTellsSpec).preRow enc Tryz.prog Tryz.f3 Rows.setTellsRow.domain false Rows.setTellsRow.laid) (((OpenSpec.ofChange Rows.setTellsSpec).at F).post enc Tryz.prog Tryz.f3 false true false false) := by
  obtain ⟨places, hx⟩ := reads os enc
  refine returnsInHanded_of_row (C := Tryz.checked) (s := OpenSpec.ofChange Rows.setTellsSpec) own started (by kernel_rfl) Tryz.func3
    (witness_row_atRef (enc := enc) (C := Tryz.checked) false (start os) args0 rfl (by kernel_rfl) (by kernel_rfl) (by kernel_rfl)
      (OpenSpec.preRow_of_cond 8 hx (by kernel_rfl) (fun k hk => by cases hk) (by kernel_rfl) (laid_met os))) ?_
  intro W base args ds gs before hval hW _ _ _ hL hsh _
  exact contract H enc W base args ds gs before hval hW hL hsh

theorem said : Rows.SetTellsSaid :=
  OpenClaim.holds_of_cond 3 Tryz.f3 rfl rfl rfl rfl rfl rfl rfl ⟨rfl, rfl, rfl, rfl, rfl⟩ rfl rfl rfl rfl rfl (by kernel_rfl) Tryz.func3 (by kernel_rfl)
    (of_decide_eq_true (by kernel_rfl)) (by unfold Func.isWrapper; first | (rw [if_pos (by decide +kernel)]; kernel_rfl) | (rw [if_neg (by decide +kernel)]; exact ⟨rfl, rfl⟩))
    (fun os started H enc _ F => by rw [OpenClaim.pre_eq_preRow]; exact lifted os started H enc F)

theorem plain (f : FuncId) (fn : Func) (hf : Tryz.pinned.checked.prog.funcNamed Rows.setTellsRow.func = some f) (hfn : Tryz.pinned.checked.prog.funcs[f]? = some fn) :
    true = Tryz.pinned.checked.prog.looks [] ∧ ∀ (j : Nat) t, fn.params[j]? = some t → Tryz.pinned.checked.prog.wantsStandIn t = false := by
  obtain rfl : f = 3 := Option.some.inj ((show Tryz.prog.funcNamed Rows.setTellsRow.func = some 3 by kernel_rfl).symm.trans hf) |>.symm
  obtain rfl : fn = Tryz.f3 := (Option.some.inj (Tryz.func3.symm.trans hfn)).symm
  refine ⟨by kernel_rfl, fun j t ht => ?_⟩
  rw [Tryz.params3] at ht
  have hm : t = 22 ∨ t = 3 ∨ t = 9 := by have := Array.mem_of_getElem? ht; simp at this; omega
  rcases hm with rfl | rfl | rfl
  · exact (show Tryz.prog.wantsStandIn 22 = false by kernel_rfl)
  · exact (show Tryz.prog.wantsStandIn 3 = false by kernel_rfl)
  · exact (show Tryz.prog.wantsStandIn 9 = false by kernel_rfl)
end Tells

theorem setTells_card : Rows.SetTellsCardSaid :=
  Claim7.holds_tied_plain_at .later [] _ _ _ _ Tells.said (fun _ h => by cases h) (by kernel_rfl) (fun _ h => by cases h) setTells_row_tie rfl ⟨rfl, rfl⟩ (by kernel_rfl) rfl Tells.plain (by kernel_rfl)

end Go.Proofs.YtefcjoomongcmaaGreatDoor
