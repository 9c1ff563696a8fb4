/- What the program forces of MeanOften's row. -/
import Derived.Test.YtjbdlihlcoldlaaGreatDoorG43
import Derived.Test.YtjbdlihlcoldlaaGreatDoorCards
import Derived.Test.YtjbdlihlcoldlaaGreatDoorTie
import Derived.Deep.DeepWitnessRowRef
import Derived.Deep.DeepLaidRun
namespace Go.Proofs.YtjbdlihlcoldlaaGreatDoor
open Go.ChangeShapes Go.WideShapes Go.ChangeAt Go.RowKit Go.Shelf

namespace MeanOften
/-! What the program forces of the row, limb by limb: in one piece the kernel wants 9.4 GB. -/
theorem inPlace7 : (Rows.meanOftenRow.inPlace == Tryz.pinned.checked.prog.inPlace 7) = true := by kernel_rfl
theorem unfollowed7 : (Rows.meanOftenRow.unfollowed == Tryz.pinned.checked.prog.unfollowed 7) = true := by kernel_rfl
theorem recurses7 : (Rows.meanOftenRow.recurses == Tryz.pinned.checked.prog.recurses 7) = true := by kernel_rfl
theorem named7 : (Rows.meanOftenRow.named == Tryz.pinned.checked.prog.varsNamed 7) = true := by kernel_rfl
theorem laidOut7 : laidOutB Tryz.pinned.checked.prog = true := by kernel_rfl
theorem joined : joinedFacts Tryz.pinned.checked.prog 7 Tryz.f7 (OpenSpec.ofChange Rows.meanOftenSpec).bare Rows.meanOftenRow = true := by
  unfold joinedFacts
  rw [inPlace7, unfollowed7, recurses7, named7, laidOut7]
  kernel_rfl

end MeanOften

end Go.Proofs.YtjbdlihlcoldlaaGreatDoor
