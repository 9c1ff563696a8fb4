/- The library's contract of slices.Reverse at []int, laid at this program; a row of one's own, turned round. -/
import Derived.Shelf.Slices.Reverse
import Derived.Test.YtddjppkpgflbjaaDoorVmN
namespace Go.Proofs
open Go.Shelf
def Tryd.reverseL_ren : Go.Shelf.Ren := ⟨fun | 112 => 55 | n => n, fun | 0 => 0 | 3 => 3 | 4 => 4 | 28 => 29 | n => n, fun | n => n⟩
theorem Tryd.reverseL : Lays.n112 Tryd.prog Tryd.reverseL_ren := {
  mixed := by kernel_rfl
  f112 := Tryd.func55.trans (congrArg some (by kernel_rfl))
  t0 := Tryd.underlying0
  a0 := Tryd.isAgg0
  z0 := Tryd.sizeOf0
  v0 := Tryd.zeroValue0
  t3 := Tryd.underlying3
  a3 := Tryd.isAgg3
  z3 := Tryd.sizeOf3
  v3 := Tryd.zeroValue3
  t4 := Tryd.underlying4
  a4 := Tryd.isAgg4
  z4 := Tryd.sizeOf4
  v4 := Tryd.zeroValue4
  t28 := Tryd.underlying29
  a28 := Tryd.isAgg29
  z28 := Tryd.sizeOf29
  v28 := Tryd.zeroValue29 }
end Go.Proofs
namespace Go.Proofs.YtddjppkpgflbjaaDoor
open Go.RowKit Go.Shelf

theorem mapBlock_heap {w : World} {g : Nat} {f : Array Value → Array Value} {c : Array Value} {t : TypeId} {fr : Nat × Nat} (h : w.heap[g]? = some (.cells c t fr)) : (Sort.mapBlock w g f).heap[g]? = some (.cells (f c) t fr) := by
  unfold Sort.mapBlock
  simp [Array.getElem?_modify, h, Sort.onCells]

theorem mapBlock_other {w : World} {g k : Nat} {f : Array Value → Array Value} (h : k ≠ g) : (Sort.mapBlock w g f).heap[k]? = w.heap[k]? := by
  unfold Sort.mapBlock
  simp only [Array.getElem?_modify]
  rw [if_neg (fun e => h e.symm)]

theorem putCells_take {l : List Int} {c : Array Value} (h : l.length ≤ c.size) : (Sort.putCells (Value.int .i64) 0 l.toArray c).toList.take l.length = ptsV l := by
  apply List.ext_getElem?
  intro j
  unfold Sort.putCells ptsV
  rw [List.getElem?_take]
  by_cases hj : j < l.length
  · rw [if_pos hj]
    simp [hj, show j < c.size by omega]
  · rw [if_neg hj]
    simp [hj]

set_option maxRecDepth 100000 in
/-- A row of one's own, turned round. -/
theorem reverse_own (B : Nat) (v : Value) (l : List Int) (w : World) (ho : w.ownsRow B 3 1 v l.length (ptsV l)) (hl : l.length ≤ 100000) (hB : B ≤ w.heap.size) :
    Calls Tryd.prog 55 #[v] w fun e w' => e = .returned (.tuple #[]) ∧ w'.ownsRow B 3 1 v l.length (ptsV l.reverse) ∧ Below B w w' := by
  have hk := ho
  obtain ⟨h1, ⟨rfl, h0⟩ | ⟨g, cap, cur, rfl, hg, hh, hn, hc, hs, ht⟩⟩ := ho
  · obtain rfl : l = [] := List.eq_nil_of_length_eq_zero h0
    refine (Any.slices_Reverse_int_empty Tryd.reverseL none 0 w).mono ?_
    rintro e w' ⟨rfl, rfl⟩
    exact ⟨rfl, hk, Below.refl _ _⟩
  · have hH : Sort.Holds (Value.int .i64) w g 0 l.toArray := by
      intro j hj
      have hj' : j < l.length := by simpa using hj
      have c := hk.cells (g := g) rfl j (.int .i64 l[j]) (by simp [ptsV, hj'])
      refine ⟨?_, frozen_of_row w g _ _ _ hh⟩
      rw [Addr.add_lit] at c
      rw [c]
      simp [hj']
    refine (Any.slices_Reverse_int Tryd.reverseL g 0 cap l w hH (by omega)).mono ?_
    rintro e w' ⟨rfl, n, rfl⟩
    have hsz : l.reverse.length = l.length := List.length_reverse
    have hheap : (Sort.putRow (Value.int .i64) (Sort.ahead w n) g 0 l.reverse.toArray).heap[g]? = some (.cells (Sort.putCells (Value.int .i64) 0 l.reverse.toArray cur) 3 (0, 0)) := mapBlock_heap (w := Sort.ahead w n) hh
    have hcs : (Sort.putCells (Value.int .i64) 0 l.reverse.toArray cur).size = cur.size := by simp [Sort.putCells]
    refine ⟨rfl, ⟨by simp [ptsV], .inr ⟨g, cap, _, rfl, hg, hheap, hn, hc, by rw [hcs, hs], ?_⟩⟩, ⟨rfl, rfl, rfl, by simp, fun k hk2 => mapBlock_other (w := Sort.ahead w n) (by omega)⟩⟩
    rw [Nat.mul_one, ← hsz]
    exact putCells_take (by rw [hsz, hs]; omega)

end Go.Proofs.YtddjppkpgflbjaaDoor
