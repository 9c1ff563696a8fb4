/- Proved: caesuralaw.UtfReads returns true for every text and every list of integers (the tied card UtfReadsCardSaid): which units any bytes are, and what any code points are written as, or where one is none, is the document's own answer. Conditions: those of the given card alone (the tables utf.least, caesuraref.Fine and errors.errorType as the program's text lays them). -/
import Derived.Test.YtneemepjpeohbaaDoorReadsWalk
import Derived.Test.YtneemepjpeohbaaDoorArg
import Derived.Test.YtneemepjpeohbaaDoorCards
import Derived.Test.YtneemepjpeohbaaDoorTie
import Derived.LaidHandle
import Derived.Lib.LaidU8
namespace Go.Proofs.YtneemepjpeohbaaDoor
open Go.ChangeShapes Go.WideShapes Go.ChangeAt Go.RowKit

namespace Reads
def nameF : String := Rows.utfReadsRow.named.getD 1 ""
def nameE : String := Rows.utfReadsRow.named.getD 2 ""
theorem gF : Tryd.prog.globalNamed nameF = some 0 := by kernel_rfl
theorem gFType : (Tryd.prog.globals[0]?).map (·.type) = some 29 := by kernel_rfl
theorem cells29 : Tryd.prog.cellsOf 29 = 2 := by kernel_rfl
theorem cells27 : Tryd.prog.cellsOf 27 = 1 := by kernel_rfl
theorem gE : Tryd.prog.globalNamed nameE = some 2 := by kernel_rfl
theorem oneRow : ((List.range 125).filter fun t => Tryd.prog.rowNamed t [101, 114, 114, 111, 114]) = [33] := by kernel_rfl
theorem nTypes : Tryd.prog.types.size = 125 := by kernel_rfl

set_option maxRecDepth 100000 in
theorem handle {W : World} (h : laidMetH Tryd.prog Rows.utfReadsRow.laid W) : ET W := by
  have h' : laidMet Tryd.prog [(nameOf, Rows.laid_caesura_utf_least), (nameF, Rows.laid_caesura_caesuraref_Fine)] W ∧ handlesMet Tryd.prog [(nameE, Rows.laid_errors_errorType)] W := h
  obtain ⟨name, u, ty, e1, e2, e3, e4, e5⟩ := h'.2 _ (List.mem_singleton.2 rfl)
  have en : name = [101, 114, 114, 111, 114] := (Option.some.inj e1).symm
  subst en
  obtain rfl := Option.some.inj (Eq.trans (Eq.symm (b := some 84) (by kernel_rfl)) e2)
  have hm : ty ∈ (List.range 125).filter fun t => Tryd.prog.rowNamed t [101, 114, 114, 111, 114] := List.mem_filter.2 ⟨List.mem_range.2 (by rw [← nTypes]; exact e3), e4⟩
  rw [oneRow] at hm
  obtain rfl := List.mem_singleton.1 hm
  have hh : typeHandle Tryd.prog 33 = .pointer (some ⟨3, 33, none⟩) := by kernel_rfl
  rw [hh] at e5
  simpa [ET] using World.var?_cell gE e5 0

set_option maxRecDepth 100000 in
theorem tables {W : World} (h : laidMetH Tryd.prog Rows.utfReadsRow.laid W) : LE W ∧ FI W := by
  have h' : laidMet Tryd.prog [(nameOf, Rows.laid_caesura_utf_least), (nameF, Rows.laid_caesura_caesuraref_Fine)] W ∧ handlesMet Tryd.prog [(nameE, Rows.laid_errors_errorType)] W := h
  refine ⟨le_of_tab (Lib.tabIs_of_head (name := nameOf) gTab gTabType Tryd.underlying60 Tryd.underlying3 cells3' cells60 h'.1), ?_⟩
  obtain ⟨g, t, cs, fuel, p, e1, e2, e3, e4⟩ := Lib.laidMet.reads h'.1 (n := nameF) (d := Rows.laid_caesura_caesuraref_Fine) (by simp)
  obtain rfl := Option.some.inj (gF.symm.trans e1)
  obtain rfl := Option.some.inj (gFType.symm.trans e2)
  have hcs := Lib.ints_of_struct (k := .i64) (zs := [0, -1]) Tryd.underlying29 (fun i f hf => by
    match i, hf with
    | 0, hf => simp at hf; subst hf; exact ⟨Tryd.underlying27, rfl, cells27⟩
    | 1, hf => simp at hf; subst hf; exact ⟨Tryd.underlying3, rfl, cells3'⟩
    | i + 2, hf => simp at hf) cells29 e4
  obtain rfl : cs = #[.int .i64 0, .int .i64 (-1)] := by cases cs; simp_all
  have c0 := World.var?_cell gF e3 0
  have c1 := World.var?_cell gF e3 1
  exact ⟨by simpa using c0, by simpa using c1⟩

set_option maxRecDepth 100000 in
theorem contract (H : Type) (enc : TypeId × Value → H) (W : World) (base : Nat) (args : Array Value) (ds gs : List (DataW H)) (before : List MemPlace)
    (hval : ∀ (j : Nat) t v, Tryd.f3.params[j]? = some t → args[j]? = some v → Value.okWide Tryd.prog W .any base t v)
    (hW : DataW.Whole enc Tryd.prog Tryd.f3.params.toList Rows.utfReadsSpec.vars false W args.toList ds gs before) (hL : laidMetH Tryd.prog Rows.utfReadsRow.laid W) :
    Calls Tryd.prog 3 args W fun e W' => ∃ v, e = .returned v ∧ Rows.utfReadsSpec.post enc Tryd.prog Tryd.f3 false true false false W args v W' := by
  have hW' := hW
  obtain ⟨p, q, hA0, hV, rfl, hfz, hnd⟩ := hW
  have hA : DataW.TrodAll enc Tryd.prog W 0 (fun _ => true) true Tryd.f3.params.toList args.toList ds p := hA0
  rw [Tryd.params3] at hA hval
  obtain ⟨v0, vs0, d0, ds0, p0, q0, hargs, rfl, rfl, h0, r0⟩ := trodAll_cons hA
  obtain ⟨v1, vs1, d1, ds1, p1, q1, rfl, rfl, rfl, h1, r1⟩ := trodAll_cons r0
  obtain ⟨rfl, rfl, rfl⟩ := trodAll_nil r1
  obtain rfl : args = #[v0, v1] := by cases args; simp_all
  obtain ⟨rfl, rfl⟩ := trodVars_none hV
  obtain ⟨s, rfl, rfl, rfl, hs⟩ := Go.ChangeMaps.open_string Tryd.underlying9 (hval 0 9 v0 rfl rfl) h0
  clear hA0
  simp only [List.append_nil, List.nil_append] at hW'
  have hlt : ∀ x ∈ p1, x.block < W.heap.size := fun x hx => by simpa using hW'.lt x hx
  obtain ⟨ao, n, cap, zs, hv, hzn, hn, hl⟩ := open_list (hval 1 22 v1 rfl rfl) h1 hlt
  obtain ⟨hle, hfi⟩ := tables hL
  have het := handle hL
  refine (reads_any s v1 ao cap n zs hv hzn hs hn W hle hfi het (by have := lt_cell het; simpa using this) hl).mono fun e W' ⟨he, hb⟩ => ?_
  subst he
  exact ⟨_, rfl, _, _, _, [], [] ++ (p1 ++ []), [], hW', trodAll_cons_mk (shut_bool Tryd.underlying4 _) trodAll_mk0,
    trodAll_cons_mk (Go.ChangeMaps.shut_string Tryd.underlying9 hs) (trodAll_cons_mk (Below.trod laidOut (by kernel_rfl) (of_decide_eq_true (by kernel_rfl)) h1 hb hlt) trodAll_mk0), rfl, hb.frame _, fun h => by cases h⟩

theorem laid_met (os : Os) : laidMetH Tryd.prog Rows.utfReadsRow.laid (({ World.holding Tryd.prog os ⟨#[], #[], []⟩ with heap := (((World.holding Tryd.prog os ⟨#[], #[], []⟩).heap.modify 1 (fun | .cells _ t frozen => .cells #[.int .i64 0, .int .i64 128, .int .i64 2048, .int .i64 65536] t frozen | o => o)).modify 0 (fun | .cells _ t frozen => .cells #[.int .i64 0, .int .i64 (-1)] t frozen | o => o)).modify 2 (fun | .cells _ t frozen => .cells #[.iface 84 (.agg #[.pointer (some ⟨3, 33, none⟩)])] t frozen | o => o) } : World).forCall (fun _ _ => 0) ⟨#[], #[.string ⟨#[]⟩, .slice none 0 0], []⟩).memory :=
  laidMetH_of_parts (laidMet_of_run' 8 (by kernel_rfl) (by kernel_rfl)) (by kernel_rfl)
theorem reads (os : Os) {H : Type} (enc : TypeId × Value → H) : ∃ places, DataW.whole enc Tryd.prog (({ World.holding Tryd.prog os ⟨#[], #[], []⟩ with heap := (((World.holding Tryd.prog os ⟨#[], #[], []⟩).heap.modify 1 (fun | .cells _ t frozen => .cells #[.int .i64 0, .int .i64 128, .int .i64 2048, .int .i64 65536] t frozen | o => o)).modify 0 (fun | .cells _ t frozen => .cells #[.int .i64 0, .int .i64 (-1)] t frozen | o => o)).modify 2 (fun | .cells _ t frozen => .cells #[.iface 84 (.agg #[.pointer (some ⟨3, 33, none⟩)])] t frozen | o => o) } : World).forCall (fun _ _ => 0) ⟨#[], #[.string ⟨#[]⟩, .slice none 0 0], []⟩).memory Tryd.f3.params.toList Rows.utfReadsSpec.vars false (#[.string ⟨#[]⟩, .slice none 0 0] : Array Value).toList 8 = some ([.lit (.string []), .nil], [], places) :=
  ⟨[], by kernel_rfl⟩

set_option maxRecDepth 100000 in
theorem lifted (os : Os) (started : os.Started) (H : Type) (enc : TypeId × Value → H) (F : Stop.Interp) :
    ReturnsInHanded {} Tryd.checked os 3 .any ((OpenSpec.ofChange Rows.utfReadsSpec).preRow enc Tryd.prog Tryd.f3 Rows.utfReadsRow.domain false Rows.utfReadsRow.laid) (((OpenSpec.ofChange Rows.utfReadsSpec).at F).post enc Tryd.prog Tryd.f3 false true false false) := by
  obtain ⟨places, hx⟩ := reads os enc
  refine returnsInHanded_of_row (C := Tryd.checked) (s := OpenSpec.ofChange Rows.utfReadsSpec) own started (by kernel_rfl) Tryd.func3
    (witness_row_at (enc := enc) (C := Tryd.checked) false ({ World.holding Tryd.prog os ⟨#[], #[], []⟩ with heap := (((World.holding Tryd.prog os ⟨#[], #[], []⟩).heap.modify 1 (fun | .cells _ t frozen => .cells #[.int .i64 0, .int .i64 128, .int .i64 2048, .int .i64 65536] t frozen | o => o)).modify 0 (fun | .cells _ t frozen => .cells #[.int .i64 0, .int .i64 (-1)] t frozen | o => o)).modify 2 (fun | .cells _ t frozen => .cells #[.iface 84 (.agg #[.pointer (some ⟨3, 33, none⟩)])] t frozen | o => o) } : World) #[.string ⟨#[]⟩, .slice none 0 0] rfl (by kernel_rfl) (by kernel_rfl) (by kernel_rfl)
      (OpenSpec.preRow_of_cond 8 hx (by kernel_rfl) (fun k hk => by cases hk) (by kernel_rfl) (laid_met os))) ?_
  intro W base args ds gs before hval hW _ _ _ hL _ _
  exact contract H enc W base args ds gs before hval hW hL

theorem said : Rows.UtfReadsSaid :=
  OpenClaim.holds_of_cond 3 Tryd.f3 rfl rfl rfl rfl rfl rfl rfl ⟨rfl, rfl, rfl, rfl, rfl⟩ rfl rfl rfl rfl rfl (by kernel_rfl) Tryd.func3 (by kernel_rfl)
    (of_decide_eq_true (by kernel_rfl)) (by unfold Func.isWrapper; first | (rw [if_pos (by decide +kernel)]; kernel_rfl) | (rw [if_neg (by decide +kernel)]; exact ⟨rfl, rfl⟩))
    (fun os started H enc _ F => by rw [OpenClaim.pre_eq_preRow]; exact lifted os started H enc F)

theorem plain (f : FuncId) (fn : Func) (hf : Tryd.pinned.checked.prog.funcNamed Rows.utfReadsRow.func = some f) (hfn : Tryd.pinned.checked.prog.funcs[f]? = some fn) :
    true = Tryd.pinned.checked.prog.looks [] ∧ ∀ (j : Nat) t, fn.params[j]? = some t → Tryd.pinned.checked.prog.wantsStandIn t = false := by
  obtain rfl : f = 3 := Option.some.inj ((show Tryd.prog.funcNamed Rows.utfReadsRow.func = some 3 by kernel_rfl).symm.trans hf) |>.symm
  obtain rfl : fn = Tryd.f3 := (Option.some.inj (Tryd.func3.symm.trans hfn)).symm
  refine ⟨by kernel_rfl, fun j t ht => ?_⟩
  rw [Tryd.params3] at ht
  have hm : t = 9 ∨ t = 22 := by simpa using Array.mem_of_getElem? ht
  rcases hm with rfl | rfl
  · exact (show Tryd.prog.wantsStandIn 9 = false by kernel_rfl)
  · exact (show Tryd.prog.wantsStandIn 22 = false by kernel_rfl)
end Reads

theorem utfReads_card : Rows.UtfReadsCardSaid :=
  Claim7.holds_tied_plain_at .later [] _ _ _ _ Reads.said (fun _ h => by cases h) (by kernel_rfl) (fun _ h => by cases h) utfReads_row_tie rfl ⟨rfl, rfl⟩ (by kernel_rfl) rfl Reads.plain (by kernel_rfl)

end Go.Proofs.YtneemepjpeohbaaDoor
