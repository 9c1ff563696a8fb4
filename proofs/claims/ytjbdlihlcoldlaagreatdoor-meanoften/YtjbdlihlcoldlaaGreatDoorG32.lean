/- slices.Reverse at rows of pointers to paths. -/
import Derived.Shelf.SlicesE.Reverse
import Derived.Test.YtjbdlihlcoldlaaGreatDoorG03
namespace Go.Proofs
open Go.Shelf
def Tryz.revP_ren : Go.Shelf.Ren := ⟨fun | 35 => 138 | n => n, fun | 0 => 0 | 3 => 3 | 4 => 4 | 22 => 226 | 23 => 157 | n => n, fun | n => n⟩
theorem Tryz.revP : SlLaysE.n35 Tryz.prog Tryz.revP_ren := {
  mixed := by kernel_rfl
  f35 := ⟨Tryz.f138.name, by decide, Tryz.func138.trans (congrArg some (by kernel_rfl))⟩
  t0 := Tryz.underlying0
  a0 := Tryz.isAgg0
  z0 := Tryz.sizeOf0
  v0 := Tryz.zeroValue0
  t3 := Tryz.underlying3
  a3 := Tryz.isAgg3
  z3 := Tryz.sizeOf3
  v3 := Tryz.zeroValue3
  t4 := Tryz.underlying4
  a4 := Tryz.isAgg4
  z4 := Tryz.sizeOf4
  v4 := Tryz.zeroValue4
  t22 := Tryz.underlying226
  a22 := Tryz.isAgg226
  z22 := Tryz.sizeOf226
  v22 := Tryz.zeroValue226
  a23 := Tryz.isAgg157
  z23 := Tryz.sizeOf157 }
end Go.Proofs
namespace Go.Proofs.YtjbdlihlcoldlaaGreatDoor.M
open Go.RowKit Go.Shelf

theorem mapBlock_heap {w : World} {g : Nat} {f : Array Value → Array Value} {c : Array Value} {t : TypeId} {fr : Nat × Nat} (h : w.heap[g]? = some (.cells c t fr)) : (Sort.mapBlock w g f).heap[g]? = some (.cells (f c) t fr) := by
  unfold Sort.mapBlock
  simp [Array.getElem?_modify, h, Sort.onCells]

theorem mapBlock_other {w : World} {g k : Nat} {f : Array Value → Array Value} (h : k ≠ g) : (Sort.mapBlock w g f).heap[k]? = w.heap[k]? := by
  unfold Sort.mapBlock
  simp only [Array.getElem?_modify]
  rw [if_neg (fun e => h e.symm)]

/-- Pointers to paths. -/
def ptrV (b : Nat) : Value := .pointer (some ⟨b, 0, none⟩)
def ptrsV (l : List Nat) : List Value := l.map ptrV

theorem putCells_take {l : List Nat} {c : Array Value} (h : l.length ≤ c.size) : (Sort.putCells ptrV 0 l.toArray c).toList.take l.length = ptrsV l := by
  apply List.ext_getElem?
  intro j
  unfold Sort.putCells ptrsV
  rw [List.getElem?_take]
  by_cases hj : j < l.length
  · rw [if_pos hj]
    simp [hj, show j < c.size by omega]
  · rw [if_neg hj]
    simp [hj]

theorem oneCell_ptr : Go.Proofs.OneCell ptrV := fun _ => rfl

set_option maxRecDepth 100000 in
/-- A row of one's own, turned round. -/
theorem reverse_ptrs (B : Nat) (v : Value) (l : List Nat) (w : World) (ho : w.ownsRow B 157 1 v l.length (ptrsV l)) (hl : l.length ≤ 9223372036854775807) (hB : B ≤ w.heap.size) :
    Calls Tryz.prog 138 #[v] w fun e w' => e = .returned (.tuple #[]) ∧ w'.ownsRow B 157 1 v l.length (ptrsV l.reverse) ∧ Below B w w' ∧ w'.heap.size = w.heap.size ∧ ∀ k, v.ownBlock ≠ some k → w'.heap[k]? = w.heap[k]? := by
  have hk := ho
  obtain ⟨h1, ⟨rfl, h0⟩ | ⟨g, cap, cur, rfl, hg, hh, hn, hc, hs, ht⟩⟩ := ho
  · obtain rfl : l = [] := List.eq_nil_of_length_eq_zero h0
    refine (AnyE.slices_Reverse_empty Tryz.revP none 0 w).mono ?_
    rintro e w' ⟨rfl, rfl⟩
    exact ⟨rfl, hk, Below.refl _ _, rfl, fun _ _ => rfl⟩
  · have hH : Sort.Holds ptrV w g 0 l.toArray := by
      intro j hj
      have hj' : j < l.length := by simpa using hj
      have c := hk.cells (g := g) rfl j (ptrV l[j]) (by simp [ptrsV, hj'])
      refine ⟨?_, frozen_of_row w g _ _ _ hh⟩
      rw [Addr.add_lit] at c
      rw [c]
      simp [hj']
    refine (AnyE.slices_Reverse Tryz.revP ptrV oneCell_ptr g 0 cap l w hH hl).mono ?_
    rintro e w' ⟨rfl, n, rfl⟩
    have hsz : l.reverse.length = l.length := List.length_reverse
    have hheap : (Sort.putRow ptrV (Sort.ahead w n) g 0 l.reverse.toArray).heap[g]? = some (.cells (Sort.putCells ptrV 0 l.reverse.toArray cur) 157 (0, 0)) := mapBlock_heap (w := Sort.ahead w n) hh
    have hcs : (Sort.putCells ptrV 0 l.reverse.toArray cur).size = cur.size := by simp [Sort.putCells]
    refine ⟨rfl, ⟨by simp [ptrsV], .inr ⟨g, cap, _, rfl, hg, hheap, hn, hc, by rw [hcs, hs], ?_⟩⟩, ⟨rfl, rfl, rfl, by simp, fun k hk2 => mapBlock_other (w := Sort.ahead w n) (by omega)⟩, by simp, fun k hk2 => mapBlock_other (w := Sort.ahead w n) (fun e => hk2 (by rw [e]; rfl))⟩
    rw [Nat.mul_one, ← hsz]
    exact putCells_take (by rw [hsz, hs]; omega)

end Go.Proofs.YtjbdlihlcoldlaaGreatDoor.M
