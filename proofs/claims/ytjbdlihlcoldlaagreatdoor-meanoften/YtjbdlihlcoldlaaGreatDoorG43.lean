/- The tables of the given list, as the laws on mean look at them. -/
import Derived.Test.YtjbdlihlcoldlaaGreatDoorG42
import Derived.ProofKit
import Derived.OpenShut
import Derived.Deep.DeepHandedRow
import Derived.Lib.LaidTab
import Derived.Lib.LaidU8
import Derived.LaidHandle
namespace Go.Proofs.YtjbdlihlcoldlaaGreatDoor
open Go.ChangeShapes Go.WideShapes Go.ChangeAt Go.RowKit Go.Shelf

namespace Cd
def t32 : List Int := [0, 1, 28, 2, 29, 14, 24, 3, 30, 22, 20, 15, 25, 17, 4, 8, 31, 27, 13, 23, 21, 19, 16, 7, 26, 12, 18, 6, 11, 5, 10, 9]
def t64 : List Int := [0, 1, 56, 2, 57, 49, 28, 3, 61, 58, 42, 50, 38, 29, 17, 4, 62, 47, 59, 36, 45, 43, 51, 22, 53, 39, 33, 30, 24, 18, 12, 5, 63, 55, 48, 27, 60, 41, 37, 16, 46, 35, 44, 21, 52, 32, 23, 11, 54, 26, 40, 15, 34, 20, 31, 10, 25, 14, 19, 9, 13, 8, 7, 6]
def tp10 : List Int := [1, 10, 100, 1000, 10000, 100000, 1000000, 10000000, 100000000, 1000000000, 10000000000, 100000000000, 1000000000000, 10000000000000, 100000000000000, 1000000000000000, 10000000000000000, 100000000000000000, 1000000000000000000, 10000000000000000000]

/-- The variables' names. -/
def nameAt (k : Nat) : String := Rows.meanTurnedRow.named.getD k ""

theorem own : ownKnob Tryz.prog.godebug = none := by kernel_rfl
theorem g64 : Tryz.prog.globalNamed (nameAt 5) = some 3 := by kernel_rfl
theorem gL : Tryz.prog.globalNamed (nameAt 7) = some 0 := by kernel_rfl
theorem gS : Tryz.prog.globalNamed (nameAt 1) = some 6 := by kernel_rfl
theorem gR : Tryz.prog.globalNamed (nameAt 2) = some 7 := by kernel_rfl
theorem gE : Tryz.prog.globalNamed (nameAt 6) = some 1 := by kernel_rfl
theorem g64Type : (Tryz.prog.globals[3]?).map (·.type) = some 314 := by kernel_rfl
theorem gLType : (Tryz.prog.globals[0]?).map (·.type) = some 148 := by kernel_rfl
theorem gSType : (Tryz.prog.globals[6]?).map (·.type) = some 31 := by kernel_rfl
theorem gRType : (Tryz.prog.globals[7]?).map (·.type) = some 31 := by kernel_rfl
theorem cells64 : Tryz.prog.cellsOf 314 = 64 := by kernel_rfl
theorem cellsL : Tryz.prog.cellsOf 148 = 4 := by kernel_rfl
theorem cells5' : Tryz.prog.cellsOf 5 = 1 := by kernel_rfl
theorem cells3' : Tryz.prog.cellsOf 3 = 1 := by kernel_rfl
theorem data64 : (Rows.laid_math_bits_deBruijn64tab : DataW Unit) = Lib.tabData .u8 t64 := by kernel_rfl
theorem dataL : (Rows.laid_caesura_utf_least : DataW Unit) = Lib.tabData .i64 [0, 128, 2048, 65536] := by kernel_rfl
theorem oneRow : ((List.range 386).filter fun t => Tryz.prog.rowNamed t [101, 114, 114, 111, 114]) = [31] := by kernel_rfl
theorem nTypes : Tryz.prog.types.size = 386 := by kernel_rfl

/-- The list but for the handle. -/
def rest : List (String × DataW Unit) := [(nameAt 4, Rows.laid_math_bits_deBruijn32tab), (nameAt 5, Rows.laid_math_bits_deBruijn64tab), (nameAt 3, Rows.laid_internal_strconv_uint64pow10), (nameAt 7, Rows.laid_caesura_utf_least), (nameAt 2, Rows.laid_strconv_ErrRange), (nameAt 1, Rows.laid_strconv_ErrSyntax)]
def hand : List (String × DataW Unit) := [(nameAt 6, Rows.laid_errors_errorType)]

set_option maxRecDepth 100000 in
theorem handle {W : World} (h : handlesMet Tryz.prog hand W) : ET W := by
  obtain ⟨name, u, ty, e1, e2, e3, e4, e5⟩ := h _ (List.mem_singleton.2 rfl)
  have en : name = [101, 114, 114, 111, 114] := (Option.some.inj e1).symm
  subst en
  obtain rfl := Option.some.inj (Eq.trans (Eq.symm (b := some 255) (by kernel_rfl)) e2)
  have hm : ty ∈ (List.range 386).filter fun t => Tryz.prog.rowNamed t [101, 114, 114, 111, 114] := List.mem_filter.2 ⟨List.mem_range.2 (by rw [← nTypes]; exact e3), e4⟩
  rw [oneRow] at hm
  obtain rfl := List.mem_singleton.1 hm
  have hh : typeHandle Tryz.prog 31 = .pointer (some ⟨8, 31, none⟩) := by kernel_rfl
  rw [hh] at e5
  simpa [ET] using World.var?_cell gE e5 0

/-- A table of numbers on the list. -/
theorem tab_of {W : World} (h : laidMet Tryz.prog rest W) {n : String} {g : Nat} {t e : TypeId} {k : Nat} {ik : IntKind} {zs : List Int} {d : DataW Unit} (hm : (n, d) ∈ rest) (hd : d = Lib.tabData ik zs)
    (hg : Tryz.prog.globalNamed n = some g) (ht : (Tryz.prog.globals[g]?).map (·.type) = some t) (hu : Tryz.prog.underlying t = some (.array k e)) (hu2 : Tryz.prog.underlying e = some (.int ik)) (hce : Tryz.prog.cellsOf e = 1) (hc : Tryz.prog.cellsOf t = k) : Lib.TabIs Tryz.prog W n ik zs := by
  obtain ⟨g', t', cs, fuel, p, e1, e2, e3, e4⟩ := Lib.laidMet.reads h hm
  rw [hd] at e4
  obtain rfl := Option.some.inj (hg.symm.trans e1)
  obtain rfl := Option.some.inj (ht.symm.trans e2)
  have hcs := Lib.cells_of_tab (k := ik) (zs := zs) hu hu2 hce hc e4
  unfold Lib.TabIs
  rw [e3, ← hcs]

theorem iface_at {W : World} (h : laidMet Tryz.prog rest W) {n : String} {g : Nat} {nm : String} {d D : DataW Unit} (hm : (n, D) ∈ rest) (hD : D = .iface nm d)
    (hg : Tryz.prog.globalNamed n = some g) (ht : (Tryz.prog.globals[g]?).map (·.type) = some 31) : ∃ t p, W.cell? ⟨g, 0, none⟩ = some (.iface t p) := by
  obtain ⟨g', t, cs, fuel, p, e1, e2, e3, e4⟩ := Lib.laidMet.reads h (n := n) (d := D) hm
  rw [hD] at e4
  obtain rfl := Option.some.inj (hg.symm.trans e1)
  obtain rfl := Option.some.inj (ht.symm.trans e2)
  obtain ⟨_, u, v, hcs, _, _⟩ := iface_of_trod Tryz.underlying31 e4
  have hc := World.var?_cell hg e3 0
  have hk : cs[0]? = some (.iface u v) := by
    rw [← Array.getElem?_toList, hcs]
    rfl
  exact ⟨u, v, hc.trans hk⟩

set_option maxRecDepth 100000 in
/-- bytealg.MaxLen holds some number, whatever the world is. -/
theorem ml_of_shape {W : World} (h : W.ShapedOpen Tryz.prog) : ML W := by
  obtain ⟨cs, hh, hs, hr⟩ := h.1 2 #[.int .i64 0] 3 (of_decide_eq_true (by kernel_rfl)) (by kernel_rfl)
  obtain ⟨ts, hts, _, hall⟩ := hr (by kernel_rfl)
  obtain rfl := Option.some.inj ((show Tryz.prog.cellTypes Tryz.prog.depth 3 = some [3] by kernel_rfl).symm.trans hts)
  have h1 : 0 < cs.size := by rw [hs]; decide
  obtain ⟨u, hu, hok⟩ := hall 0 cs[0] (by simp [h1])
  obtain rfl : 3 = u := by simpa using hu
  have hcell : W.cell? ⟨2, 0, none⟩ = some cs[0] := by simp [World.cell?, hh, h1]
  unfold ML
  rw [hcell]
  unfold Cell.ok at hok
  rw [Tryz.underlying3] at hok
  cases hv : cs[0] <;> rw [hv] at hok <;> simp at hok
  rename_i k n
  obtain ⟨rfl, _⟩ := hok
  exact ⟨n, rfl⟩

theorem slot_is : ∀ i : Fin 64, t64.getD (M.slot i.val) 0 = ((i.val : Nat) : Int) := by decide

theorem tables {W : World} (h : laidMet Tryz.prog rest W) (hh : handlesMet Tryz.prog hand W) (hsh : W.ShapedOpen Tryz.prog) : M.MT W := by
  have hz := tab_of h (n := nameAt 5) (zs := t64) (by simp [rest]) data64 g64 g64Type Tryz.underlying314 Tryz.underlying5 cells5' cells64
  have hl := tab_of h (n := nameAt 7) (zs := [0, 128, 2048, 65536]) (by simp [rest]) dataL gL gLType Tryz.underlying148 Tryz.underlying3 cells3' cellsL
  have hS := iface_at h (n := nameAt 1) (D := Rows.laid_strconv_ErrSyntax) (by simp [rest]) rfl gS gSType
  have hR := iface_at h (n := nameAt 2) (D := Rows.laid_strconv_ErrRange) (by simp [rest]) rfl gR gRType
  have hlt : 7 < W.heap.size := by obtain ⟨t, p, hc⟩ := hR; exact lt_cell hc
  refine ⟨⟨hz.cell g64 15 (by decide), ⟨hS, hR⟩, ml_of_shape hsh, hlt⟩, handle hh, ⟨hl.cell gL 0 (by decide), hl.cell gL 1 (by decide), hl.cell gL 2 (by decide), hl.cell gL 3 (by decide)⟩, ?_, hlt⟩
  intro i hi
  have h1 := slot_is ⟨i, hi⟩
  have h2 : M.slot i < t64.length := M.slot_lt i
  have h3 := hz.cell g64 (M.slot i) h2
  rw [h3, h1]

abbrev rangeS : ByteArray := { data := #[118, 97, 108, 117, 101, 32, 111, 117, 116, 32, 111, 102, 32, 114, 97, 110, 103, 101] }
abbrev syntaxS : ByteArray := { data := #[105, 110, 118, 97, 108, 105, 100, 32, 115, 121, 110, 116, 97, 120] }

noncomputable def low : Nat := (World.holding Tryz.prog default ⟨#[], #[], []⟩).heap.size
noncomputable def put (h : Array Obj) (g : Nat) (cs : Array Value) : Array Obj := h.modify g (fun | .cells _ t frozen => .cells cs t frozen | o => o)
noncomputable def bare0 (os : Os) : World := World.holding Tryz.prog os ⟨#[.cells #[.string rangeS] 358, .cells #[.string syntaxS] 358], #[], []⟩

/-- One world in which the tables and the errors are as they are laid. -/
noncomputable def start (os : Os) : World :=
  { bare0 os with heap := put (put (put (put (put (put (put (bare0 os).heap 5 (t32.map fun z => Value.int .u8 z).toArray) 3 (t64.map fun z => Value.int .u8 z).toArray) 4 (tp10.map fun z => Value.int .u64 z).toArray) 0 #[.int .i64 0, .int .i64 128, .int .i64 2048, .int .i64 65536]) 7 #[.iface 356 (.pointer (some ⟨low, 0, none⟩))]) 6 #[.iface 356 (.pointer (some ⟨low + 1, 0, none⟩))]) 1 #[.iface 255 (.agg #[.pointer (some ⟨8, 31, none⟩)])] }

end Cd
end Go.Proofs.YtjbdlihlcoldlaaGreatDoor
