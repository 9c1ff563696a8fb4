/- Small laws on rows of ranges, on draws and on wraps. -/
import Derived.Test.YtjbmdnkpfkelmaaGreatDoorSWithin
namespace Go.Proofs.YtjbmdnkpfkelmaaGreatDoor
open Go.RowKit

theorem flat2_set (pre : List RS.Rg) (cl ch x : Int) : (flat2 (pre ++ [(cl, ch)])).set (pre.length * 2 + 1) (.int .i64 x) = flat2 (pre ++ [(cl, x)]) := by
  rw [flat2_snoc, flat2_snoc, List.set_append_right _ _ (by rw [flat2_length]; omega), flat2_length, show pre.length * 2 + 1 - pre.length * 2 = 1 by omega]
  rfl

theorem merge_own {W : World} {B g cap m : Nat} {pre : List RS.Rg} {cl ch x : Int} (hm : m = pre.length) (h : W.ownsRow B 85 2 (.slice (some ⟨g, 0, none⟩) (m + 1) cap) (m + 1) (flat2 (pre ++ [(cl, ch)]))) :
    (W.setCell ⟨g, m * 2 + 1, none⟩ (.int .i64 x)).drew.ownsRow B 85 2 (.slice (some ⟨g, 0, none⟩) (m + 1) cap) (pre ++ [(cl, x)]).length (flat2 (pre ++ [(cl, x)])) := by
  have h1 := (h.stored (m * 2 + 1) (.int .i64 x)).1
  rw [hm] at h1 ⊢
  rw [flat2_set] at h1
  have e : (pre ++ [(cl, x)]).length = pre.length + 1 := by simp
  rw [e]
  exact h1

theorem below_drewN {B : Nat} {w W : World} (h : Below B w W) (n : Nat) : Below B w (W.drewN n) := ⟨h.os, h.tape, h.output, h.size, h.block⟩

theorem last_cells {w : World} {B : Nat} {v : Value} {pre : List RS.Rg} {c : RS.Rg} (h : w.ownsRow B 85 2 v (pre ++ [c]).length (flat2 (pre ++ [c]))) :
    ∃ (g cap : Nat) (_cur : Array Value), v = .slice (some ⟨g, 0, none⟩) (pre ++ [c]).length cap ∧ B ≤ g ∧ g < w.heap.size ∧ w.cell? ⟨g, pre.length * 2, none⟩ = some (.int .i64 c.1) ∧ w.cell? ⟨g, pre.length * 2 + 1, none⟩ = some (.int .i64 c.2) := by
  have hk := h
  obtain ⟨h1, h2 | ⟨g, cap, cur, rfl, hg, hh, hn, hc, hs, ht⟩⟩ := h
  · simp at h2
  · obtain ⟨k1, k2⟩ := flat2_get (pre ++ [c]) pre.length (by simp)
    have cc := hk.cells (g := g) rfl
    have c1 := cc _ _ k1
    have c2 := cc _ _ k2
    simp only [Addr.add_lit, Nat.zero_add] at c1 c2
    simp at c1 c2
    exact ⟨g, cap, cur, rfl, hg, lt_of_block hh, c1, c2⟩

theorem wrap_small {x : Int} (h0 : -1000000000 ≤ x) (h1 : x ≤ 1000000000) : IntKind.i64.wrap x = x := by
  simp [IntKind.wrap, IntKind.bits, IntKind.signed]; omega

theorem cell_alloc_old (w : World) (o : Obj) (b k : Nat) (h : b < w.heap.size) : (w.alloc o).cell? ⟨b, k, none⟩ = w.cell? ⟨b, k, none⟩ :=
  World.cell?_of_block (w := w) (w' := w.alloc o) (a := ⟨b, k, none⟩) (heap_alloc_old w o h)

end Go.Proofs.YtjbmdnkpfkelmaaGreatDoor
