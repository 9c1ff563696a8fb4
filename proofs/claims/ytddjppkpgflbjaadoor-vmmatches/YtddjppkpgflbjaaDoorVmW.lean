/- What matching begins with. -/
import Derived.Test.YtddjppkpgflbjaaDoorVmV
import Derived.Deep.DrawnRows
import Derived.Deep.CutRange
namespace Go.Proofs.YtddjppkpgflbjaaDoor
open Go.RowKit Go.Shelf

theorem Grid.mono {B B' : Nat} {W : World} {ob N : Nat} {V : Nat → Value} {A : Nat → List Nat} (G : Grid B W ob N V A) (h : B' ≤ B) : Grid B' W ob N V A :=
  ⟨Nat.le_trans h G.low, G.out, fun t ht => owns_mono (G.row t ht) h, G.apart⟩

/-- What lies in memory when here and next are made, and a box of here. -/
structure Made (w : World) (n : Nat) (W : World) (bh mh hh mx hx : Nat) : Prop where
  cH : W.heap[bh]? = some (.cells #[.pointer (some ⟨mh, 0, none⟩)] 82 (0, 0))
  sH : W.heap[mh]? = some (.cells #[.slice none 0 0, .slice (some ⟨hh, 0, none⟩) n n] 85 (0, 0))
  fH : W.heap[hh]? = some (.cells (flags n []).toArray 4 (0, 0))
  sX : W.heap[mx]? = some (.cells #[.slice none 0 0, .slice (some ⟨hx, 0, none⟩) n n] 85 (0, 0))
  fX : W.heap[hx]? = some (.cells (flags n []).toArray 4 (0, 0))
  low : w.heap.size ≤ bh ∧ w.heap.size ≤ mh ∧ w.heap.size ≤ hh ∧ w.heap.size ≤ mx ∧ w.heap.size ≤ hx
  ne : mh ≠ mx ∧ hh ≠ hx
  below : Below w.heap.size w W

theorem made_of {w W : World} {p q : Value} {n : Nat} (l : List Obj) (bh mh hh mx hx : Nat) (hW : W = (l.foldl World.alloc w).drew) (hp : p = .pointer (some ⟨w.heap.size + bh, 0, none⟩)) (hq : q = .pointer (some ⟨w.heap.size + mx, 0, none⟩))
    (e1 : l[bh]? = some (.cells #[.pointer (some ⟨w.heap.size + mh, 0, none⟩)] 82 (0, 0)))
    (e3 : l[mh]? = some (.cells #[.slice none 0 0, .slice (some ⟨w.heap.size + hh, 0, none⟩) n n] 85 (0, 0))) (e4 : l[hh]? = some (.cells (flags n []).toArray 4 (0, 0)))
    (e5 : l[mx]? = some (.cells #[.slice none 0 0, .slice (some ⟨w.heap.size + hx, 0, none⟩) n n] 85 (0, 0))) (e6 : l[hx]? = some (.cells (flags n []).toArray 4 (0, 0)))
    (hne : mh ≠ mx ∧ hh ≠ hx) :
    ∃ bh mh hh mx hx, p = .pointer (some ⟨bh, 0, none⟩) ∧ q = .pointer (some ⟨mx, 0, none⟩) ∧ Made w n W bh mh hh mx hx := by
  obtain ⟨h1, h2⟩ := allocs_heap l w
  have hg : ∀ i, W.heap[w.heap.size + i]? = l[i]? := fun i => by
    rw [hW]
    show (l.foldl World.alloc w).heap[w.heap.size + i]? = _
    rw [h1, Array.getElem?_append_right (by omega), show w.heap.size + i - w.heap.size = i by omega]
    simp
  refine ⟨_, w.heap.size + mh, w.heap.size + hh, _, w.heap.size + hx, hp, hq, (hg _).trans e1, (hg _).trans e3, (hg _).trans e4, (hg _).trans e5, (hg _).trans e6, by omega, by omega, ?_⟩
  rw [hW]
  exact h2.trans ⟨rfl, rfl, rfl, Nat.le_refl _, fun _ _ => rfl⟩

theorem Made.tw {w W : World} {n bh mh hh mx hx : Nat} (M : Made w n W bh mh hh mx hx) : Tw w.heap.size mh hh mx hx n W (.slice none 0 0) (.slice none 0 0) [] [] :=
  ⟨⟨⟨M.low.2.1, M.low.2.2.1⟩, M.sH, ⟨by simp [nums], .inl ⟨rfl, rfl⟩⟩, M.fH⟩, ⟨⟨M.low.2.2.2.1, M.low.2.2.2.2⟩, M.sX, ⟨by simp [nums], .inl ⟨rfl, rfl⟩⟩, M.fX⟩, M.ne, fun g h _ => by simp [Value.ownBlock] at h⟩

/-- The first ground. -/
theorem ground_start {w w2 W : World} {ob bh mh hh mx hx : Nat} {sv iv lv : Value} {c : VM.Co} {l : List Int} {V : Nat → Value} {A : Nat → List Nat} (F : Fit w.heap.size w sv iv lv c l) (cs : Array Value)
    (G : Grid ((w.alloc (.cells #[sv, iv] 25)).alloc (.cells cs 4)).heap.size w2 ob c.ins.length V A) (hL : ∀ t, t < c.ins.length → VM.Led c c.ins.length t (A t)) (hA : ∀ t, t < c.ins.length → (A t).length ≤ c.ins.length + c.ins.length)
    (hb : Below ((w.alloc (.cells #[sv, iv] 25)).alloc (.cells cs 4)).heap.size ((w.alloc (.cells #[sv, iv] 25)).alloc (.cells cs 4)) w2)
    (M : Made (w2.alloc (.cells #[.slice (some ⟨ob, 0, none⟩) c.ins.length c.ins.length] 123)) c.ins.length W bh mh hh mx hx) :
    Ground w (w2.heap.size + 1) (w.heap.size + 1) w2.heap.size w.heap.size ob sv iv lv c l W ∧ W.heap[w.heap.size + 1]? = some (.cells cs 4 (0, 0)) := by
  have s1 : (w.alloc (.cells #[sv, iv] 25)).heap.size = w.heap.size + 1 := by simp
  have s2 : ((w.alloc (.cells #[sv, iv] 25)).alloc (.cells cs 4)).heap.size = w.heap.size + 2 := by simp
  have s3 : (w2.alloc (.cells #[.slice (some ⟨ob, 0, none⟩) c.ins.length c.ins.length] 123)).heap.size = w2.heap.size + 1 := by simp
  have hb0 : Below w.heap.size w ((w.alloc (.cells #[sv, iv] 25)).alloc (.cells cs 4)) := ((Below.refl _ w).alloc (Nat.le_refl _) _).alloc (by omega) _
  have hb1 : Below w.heap.size w w2 := hb0.trans (hb.mono (by omega))
  have hs := hb.size
  rw [s2] at hs
  have hb2 : Below w2.heap.size w2 (w2.alloc (.cells #[.slice (some ⟨ob, 0, none⟩) c.ins.length c.ins.length] 123)) := (Below.refl _ w2).alloc (Nat.le_refl _) _
  have hb3 : Below w2.heap.size w2 W := hb2.trans (M.below.mono (by omega))
  have hbw : Below w.heap.size w W := hb1.trans (hb3.mono (by omega))
  have k0 : ((w.alloc (.cells #[sv, iv] 25)).alloc (.cells cs 4)).heap[w.heap.size]? = some (.cells #[sv, iv] 25 (0, 0)) := by
    rw [heap_alloc_old _ _ (by omega)]
    exact heap_alloc_new _ _
  have k1 : ((w.alloc (.cells #[sv, iv] 25)).alloc (.cells cs 4)).heap[w.heap.size + 1]? = some (.cells cs 4 (0, 0)) := by
    rw [← s1]
    exact heap_alloc_new _ _
  have o1 : W.heap[w.heap.size + 1]? = some (.cells cs 4 (0, 0)) := (hb3.block _ (by omega)).trans ((hb.block _ (by omega)).trans k1)
  refine ⟨⟨F.below hbw, hbw, ⟨V, A, ((G.mono (by omega)).below hb3), hL, fun t ht => by have := hA t ht; have := F.lens.1; omega, by have := lt_of_block G.out; omega, fun t ht g hg => ?_⟩, ?_, (hb3.block _ (by omega)).trans ((hb.block _ (by omega)).trans k0), ⟨by omega, by omega, by omega, by omega, by omega⟩, by have := M.below.size; omega, _, o1⟩, o1⟩
  · obtain ⟨_, cur, hh⟩ := own_block (G.row t ht) hg
    have := lt_of_block hh
    omega
  · exact (M.below.block _ (by omega)).trans (heap_alloc_new _ _)

end Go.Proofs.YtddjppkpgflbjaaDoor
