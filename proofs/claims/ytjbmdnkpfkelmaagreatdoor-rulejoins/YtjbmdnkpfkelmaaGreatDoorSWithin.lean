/- The contract of set.within. -/
import Derived.Test.YtjbmdnkpfkelmaaGreatDoorSNot
import Derived.OneCell
namespace Go.Proofs.YtjbmdnkpfkelmaaGreatDoor
open Go.RowKit

theorem cell_new_rg (W : World) (a b : Int) : (W.alloc (Obj.cells #[Value.int IntKind.i64 a, Value.int IntKind.i64 b] 85)).cell? ⟨W.heap.size, 0, none⟩ = some (.int .i64 a) ∧ (W.alloc (Obj.cells #[Value.int IntKind.i64 a, Value.int IntKind.i64 b] 85)).cell? ⟨W.heap.size, 1, none⟩ = some (.int .i64 b) := by
  constructor <;> simp

end Go.Proofs.YtjbmdnkpfkelmaaGreatDoor
