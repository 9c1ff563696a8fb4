/- The laid tables, and lists of ranges that came in, opened. -/
import Derived.Test.YtdhnbmocdgmndaaDoorSPrint
import Derived.ProofKit
import Derived.OpenShut
import Derived.Deep.DeepHandedRow
import Derived.Deep.SlicePairs
import Derived.Lib.LaidTab
import Derived.Lib.LaidU8
namespace Go.Proofs.YtdhnbmocdgmndaaDoor
open Go.ChangeShapes Go.WideShapes Go.ChangeAt Go.RowKit

def t32 : List Int := [0, 1, 28, 2, 29, 14, 24, 3, 30, 22, 20, 15, 25, 17, 4, 8, 31, 27, 13, 23, 21, 19, 16, 7, 26, 12, 18, 6, 11, 5, 10, 9]
def t64 : List Int := [0, 1, 56, 2, 57, 49, 28, 3, 61, 58, 42, 50, 38, 29, 17, 4, 62, 47, 59, 36, 45, 43, 51, 22, 53, 39, 33, 30, 24, 18, 12, 5, 63, 55, 48, 27, 60, 41, 37, 16, 46, 35, 44, 21, 52, 32, 23, 11, 54, 26, 40, 15, 34, 20, 31, 10, 25, 14, 19, 9, 13, 8, 7, 6]
def tp10 : List Int := [1, 10, 100, 1000, 10000, 100000, 1000000, 10000000, 100000000, 1000000000, 10000000000, 100000000000, 1000000000000, 10000000000000, 100000000000000, 1000000000000000, 10000000000000000, 100000000000000000, 1000000000000000000, 10000000000000000000]

/-- The tables' names. -/
def nameP : String := Rows.setLawsRow.named.getD 0 ""
def name32 : String := Rows.setLawsRow.named.getD 1 ""
def name64 : String := Rows.setLawsRow.named.getD 2 ""

theorem own : ownKnob Tryd.prog.godebug = none := by kernel_rfl
theorem laidOut : laidOutB Tryd.prog = true := by kernel_rfl
theorem g64 : Tryd.prog.globalNamed name64 = some 8 := by kernel_rfl
theorem g64Type : (Tryd.prog.globals[8]?).map (·.type) = some 187 := by kernel_rfl
theorem cells187 : Tryd.prog.cellsOf 187 = 64 := by kernel_rfl
theorem cells5' : Tryd.prog.cellsOf 5 = 1 := by kernel_rfl
theorem cells3' : Tryd.prog.cellsOf 3 = 1 := by kernel_rfl
theorem cells53' : Tryd.prog.cellsOf 53 = 2 := by kernel_rfl

theorem lt_of_tz {W : World} (h : TZ W) : 8 < W.heap.size := by
  refine Nat.lt_of_not_le fun hle => ?_
  unfold TZ at h
  simp [World.cell?, Array.getElem?_eq_none hle] at h

set_option maxRecDepth 100000 in
/-- A list that bears the table of trailing zeros. -/
theorem tz_of_laid {W : World} {l : List (String × DataW Unit)} (h : laidMet Tryd.prog l W) (hm : (name64, Rows.laid_math_bits_deBruijn64tab) ∈ l) : TZ W := by
  obtain ⟨g, t, cs, fuel, p, e1, e2, e3, e4⟩ := Lib.laidMet.reads h (n := name64) (d := Rows.laid_math_bits_deBruijn64tab) hm
  obtain rfl := Option.some.inj (g64.symm.trans e1)
  obtain rfl := Option.some.inj (g64Type.symm.trans e2)
  have hcs := Lib.cells_of_tab (k := .u8) (zs := t64) Tryd.underlying187 Tryd.underlying5 cells5' cells187 e4
  have hc := World.var?_cell g64 e3 15
  have hk : cs[15]? = some (.int .u8 4) := by
    rw [← Array.getElem?_toList, hcs]
    rfl
  unfold TZ
  rw [hc, hk]

/-- The number in a value. -/
def numOf : Value → Int
  | .int _ n => n
  | _ => 0

set_option maxRecDepth 100000 in
theorem open_rg {H : Type} {enc : TypeId × Value → H} {W : World} {base : Nat} {v : Value} {d : DataW H} {ps : List MemPlace}
    (hval : Value.okWide Tryd.prog W .any base 47 v) (h : DataW.Trod enc Tryd.prog W 0 (fun _ => true) true 47 v d ps) (hlt : ∀ x ∈ ps, x.block < W.heap.size) :
    ∃ (ao : Option Addr) (cap : Nat) (s : List RS.Rg), v = .slice ao s.length cap ∧ s.length ≤ maxLen ∧ RgAt W.heap.size W v s := by
  obtain ⟨a0, len, cap, rfl⟩ := okWide_slice Tryd.underlying47 hval
  obtain ⟨fuel, hf⟩ := h
  rcases Deep.open_slice_pairs Tryd.underlying47 Tryd.underlying53 cells53' rfl rfl cells3' cells3' hf with ⟨hcs, hx⟩ | ⟨a, len', cap', m, n, V0, V1, D0, D1, P0, P1, hcs, _, hl, hm, hmm, hx, hcell⟩
  · simp [Value.cells] at hcs
    obtain ⟨rfl, rfl, rfl⟩ := hcs
    exact ⟨none, 0, [], rfl, Nat.zero_le _, ⟨none, 0, rfl, ⟨Nat.le_refl _, fun _ => rfl⟩, fun h => absurd rfl h⟩⟩
  · simp [Value.cells] at hcs
    obtain ⟨rfl, rfl, rfl⟩ := hcs
    simp only [Prod.mk.injEq] at hx
    obtain ⟨rfl, rfl⟩ := hx
    simp only [if_true] at hmm
    subst hmm
    have hlen : ((List.range len).map fun i => (numOf (V0 i), numOf (V1 i))).length = len := by simp
    refine ⟨some a, m, (List.range len).map fun i => (numOf (V0 i), numOf (V1 i)), by rw [hlen], by rw [hlen]; exact Nat.le_trans hl hm, some a, m, by rw [hlen], ⟨by rw [hlen]; exact hl, fun h => by cases h⟩, fun hne => ?_⟩
    have h0 : 0 < len := by rw [← hlen]; exact List.length_pos_iff.2 hne
    obtain ⟨b, off, spot⟩ := a
    have hspot : spot = none := by simpa [Addr.add] using World.cell?_spot (hcell 0 (by omega)).1
    subst hspot
    refine ⟨b, off, rfl, hlt (.cell b off) (List.mem_append.2 (.inl (MemPlace.mem_row.2 ⟨0, by omega, by simp⟩))), fun k hk => ?_⟩
    have hk' : k < len := by rw [hlen] at hk; exact hk
    obtain ⟨c0, c1, t0, t1⟩ := hcell k (by omega)
    obtain ⟨n0, e0, _, _⟩ := DataW.trod_int Tryd.underlying3 t0
    obtain ⟨n1, e1, _, _⟩ := DataW.trod_int Tryd.underlying3 t1
    simp at e0 e1
    rw [e0, add_plain] at c0
    rw [e1, add_plain] at c1
    rw [← Nat.add_assoc] at c1
    simp only [List.getElem_map, List.getElem_range, e0, e1, numOf]
    exact ⟨c0, c1⟩

end Go.Proofs.YtdhnbmocdgmndaaDoor
