/- sort.Ints over a slice of the call's own. -/
import Derived.Test.YtefcjoomongcmaaGreatDoorShelfD
import Derived.Test.YtefcjoomongcmaaGreatDoorRHas
namespace Go.Proofs.YtefcjoomongcmaaGreatDoor
open Go.RowKit Go.Sort

def intV (n : Int) : Value := .int .i64 n

theorem heap_sortedI {w : World} {g n : Nat} {os : Array Obj} {cur : Array Value} {e : TypeId} {fr : Nat × Nat} (d : Array Int) (hb : w.heap[g]? = some (.cells cur e fr)) :
    (grow (putRow intV (Sort.ahead w n) g 0 d) os).heap[g]? = some (.cells (putCells intV 0 d cur) e fr) := by
  have hg : g < w.heap.size := (Array.getElem?_eq_some_iff.1 hb).1
  rw [heap_grow_old _ _ (by simpa using hg)]
  simp [putRow, mapBlock, Sort.ahead, Array.getElem?_modify, hb, onCells]

theorem grownBy_sortedI {w : World} {g n : Nat} {os : Array Obj} (d : Array Int) : w.grownBy (grow (putRow intV (Sort.ahead w n) g 0 d) os) (some g) := by
  refine ⟨rfl, rfl, rfl, by simp, fun k hk hne => ?_⟩
  rw [heap_grow_old _ _ (by simpa using hk)]
  have : g ≠ k := fun e => hne (by rw [e])
  simp [putRow, mapBlock, Sort.ahead, Array.getElem?_modify, this]

theorem take_putCellsI (cur : Array Value) (d : List Int) (h : d.length ≤ cur.size) : (putCells intV 0 d.toArray cur).toList.take d.length = d.map intV := by
  apply List.ext_getElem?
  intro j
  by_cases hj : j < d.length
  · rw [List.getElem?_take_of_lt hj, Array.getElem?_toList]
    simp [putCells, hj, show j < cur.size by omega]
  · rw [List.getElem?_take_eq_none (by omega), List.getElem?_eq_none (by simp; omega)]

theorem ints_any {B : Nat} (v : Value) (zs : List Int) (hlen : zs.length ≤ 1000000) (hz : zs ≠ []) (w : World) (hB : B ≤ w.heap.size) (hown : w.ownsRow B 3 1 v zs.length (zs.map intV)) :
    Calls Tryz.prog 50 #[v] w fun e w' => e = .returned (.tuple #[]) ∧ ∃ d : List Int, d.Perm zs ∧ d.Pairwise (· ≤ ·) ∧ w'.ownsRow B 3 1 v d.length (d.map intV) ∧ Below B w w' := by
  obtain ⟨h1, h2 | ⟨g, cap, cur, rfl, hg, hh, hn, hc, hs, ht⟩⟩ := hown
  · exact absurd (List.length_eq_zero_iff.1 h2.2) hz
  · have hH : Holds intV w g 0 zs.toArray := by
      intro j hj
      have hj' : j < zs.length := by simpa using hj
      refine ⟨?_, by simp [World.frozen?, hh]⟩
      have h3 : (cur.toList.take (zs.length * 1))[j]? = (zs.map intV)[j]? := by rw [ht]
      rw [List.getElem?_take_of_lt (by omega)] at h3
      simp only [World.cell?, hh, Nat.zero_add]
      simp only [Option.isSome_none, Bool.false_eq_true, if_false]
      rw [← Array.getElem?_toList, h3]
      simp [hj']
    have hcon := Any.sort_Ints Tryz.intsL g 0 cap zs w hH (lt_of_block hh) (by omega)
    change Calls Tryz.prog 50 #[.slice (some ⟨g, 0, none⟩) zs.length cap] w _ at hcon
    refine hcon.mono ?_
    rintro e w' ⟨rfl, n, os, rfl⟩
    have hperm := List.mergeSort_perm zs (fun x y => decide (x ≤ y))
    have hsz := hperm.length_eq
    refine ⟨rfl, zs.mergeSort fun x y => decide (x ≤ y), hperm, ?_, ?_, ?_⟩
    · have := List.pairwise_mergeSort (le := fun (x y : Int) => decide (x ≤ y)) (fun a b c h1 h2 => by simp at h1 h2 ⊢; omega) (fun a b => by simp; omega) zs
      refine this.imp fun {a b} h => ?_
      simpa using h
    · refine ⟨by simp, .inr ⟨g, cap, _, by rw [hsz], hg, heap_sortedI _ hh, by omega, hc, by simp [putCells, hs], ?_⟩⟩
      rw [Nat.mul_one]
      exact take_putCellsI cur _ (by omega)
    · exact (Below.refl B w).grown (grownBy_sortedI _) hB (fun k hk => by cases hk; exact hg)

end Go.Proofs.YtefcjoomongcmaaGreatDoor
