/- The library's contract of sort.Search, laid at this program. -/
import Derived.Shelf.SlSorted.Search
import Derived.Test.YtddjppkpgflbjaaDoorProg
namespace Go.Proofs
open Go.Shelf
def Tryd.searchL_ren : Go.Shelf.Ren := ⟨fun | 16 => 73 | n => n, fun | 3 => 3 | 35 => 88 | 4 => 4 | 38 => 119 | n => n, fun | n => n⟩
theorem Tryd.searchL : Go.Proofs.SlLaysO.n16 Tryd.prog Tryd.searchL_ren := {
  mixed := by kernel_rfl
  f16 := Tryd.func73.trans (congrArg some (by kernel_rfl))
  t3 := Tryd.underlying3
  a3 := Tryd.isAgg3
  z3 := Tryd.sizeOf3
  v3 := Tryd.zeroValue3
  t4 := Tryd.underlying4
  a4 := Tryd.isAgg4
  z4 := Tryd.sizeOf4
  v4 := Tryd.zeroValue4
  t35 := Tryd.underlying88
  a35 := Tryd.isAgg88
  z35 := Tryd.sizeOf88
  v35 := Tryd.zeroValue88
  t38 := Tryd.underlying119
  a38 := Tryd.isAgg119
  z38 := Tryd.sizeOf119
  v38 := Tryd.zeroValue119 }
end Go.Proofs
