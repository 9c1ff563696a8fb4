/- What the given list of package-level variables says of the table of the least code points. -/
import Derived.Test.YtneemepjpeohbaaDoorLeaf
import Derived.ProofKit
import Derived.OpenShut
import Derived.Deep.DeepHandedRow
import Derived.Lib.LaidTab
namespace Go.Proofs.YtneemepjpeohbaaDoor
open Go.ChangeShapes Go.WideShapes Go.ChangeAt Go.RowKit

/-- The table's name. -/
def nameOf : String := Rows.utfAgainRow.named.headD ""

theorem own : ownKnob Tryd.prog.godebug = none := by kernel_rfl
theorem gTab : Tryd.prog.globalNamed nameOf = some 1 := by kernel_rfl
theorem gTabType : (Tryd.prog.globals[1]?).map (·.type) = some 60 := by kernel_rfl
theorem cells60 : Tryd.prog.cellsOf 60 = 4 := by kernel_rfl
theorem cells3' : Tryd.prog.cellsOf 3 = 1 := by kernel_rfl

theorem le_of_tab {W : World} (h : Lib.TabIs Tryd.prog W nameOf .i64 [0, 128, 2048, 65536]) : LE W :=
  ⟨h.cell gTab 0 (by decide), h.cell gTab 1 (by decide), h.cell gTab 2 (by decide), h.cell gTab 3 (by decide)⟩

theorem lt_of_le {W : World} (h : LE W) : 1 < W.heap.size := by
  refine Nat.lt_of_not_le fun hle => ?_
  have h1 := h.1
  simp [World.cell?, Array.getElem?_eq_none hle] at h1

end Go.Proofs.YtneemepjpeohbaaDoor
