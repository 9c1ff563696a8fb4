/- Rows of numbers, each grown on its own. -/
import Derived.Test.YtddjppkpgflbjaaDoorVmN
import Derived.Test.YtddjppkpgflbjaaDoorBackMath
namespace Go.Proofs.YtddjppkpgflbjaaDoor
open Go.RowKit Go.Shelf

def rowsV (N : Nat) (V : Nat → Value) : Array Value := ((List.range N).map V).toArray

theorem rowsV_get {N : Nat} {V : Nat → Value} {t : Nat} (h : t < N) : (rowsV N V)[t]? = some (V t) := by
  unfold rowsV
  simp [h]

/-- One is turned. -/
def upd {α : Type} (V : Nat → α) (t : Nat) (v : α) : Nat → α := fun s => if s = t then v else V s

theorem upd_same {α : Type} (V : Nat → α) (t : Nat) (v : α) : upd V t v t = v := by simp [upd]
theorem upd_other {α : Type} (V : Nat → α) {s t : Nat} (v : α) (h : s ≠ t) : upd V t v s = V s := by simp [upd, h]

theorem rowsV_set {N : Nat} {V : Nat → Value} {t : Nat} (v : Value) : (rowsV N V).setIfInBounds t v = rowsV N (upd V t v) := by
  apply Array.ext'
  unfold rowsV
  simp only [Array.toList_setIfInBounds]
  apply List.ext_getElem?
  intro j
  rw [List.getElem?_set]
  simp only [List.length_map, List.length_range]
  by_cases hj : t = j
  · subst hj
    by_cases hn : t < N
    · simp [hn, upd]
    · simp [hn]
  · by_cases hn : j < N
    · simp [hj, hn, upd]
      exact fun e => absurd e.symm hj
    · simp [hj, hn]

/-- Rows of numbers: their slices at ob. -/
structure Grid (B : Nat) (W : World) (ob N : Nat) (V : Nat → Value) (A : Nat → List Nat) : Prop where
  low : B ≤ ob
  out : W.heap[ob]? = some (.cells (rowsV N V) 29 (0, 0))
  row : ∀ t, t < N → W.ownsRow B 3 1 (V t) (A t).length (nums (A t))
  apart : ∀ s t, s < N → t < N → s ≠ t → ∀ g, (V s).ownBlock = some g → (V t).ownBlock ≠ some g

section
variable {B : Nat} {W W' : World} {ob N : Nat} {V : Nat → Value} {A : Nat → List Nat}

theorem Grid.but {S : Nat → Prop} (G : Grid B W ob N V A) (hb : But S W W') (h1 : ¬ S ob) (h2 : ∀ t, t < N → ∀ g, (V t).ownBlock = some g → ¬ S g) : Grid B W' ob N V A :=
  ⟨G.low, (hb.block ob (lt_of_block G.out) h1).trans G.out, fun t ht => own_but (G.row t ht) hb (h2 t ht), G.apart⟩

theorem Grid.below (G : Grid B W ob N V A) (hb : Below W.heap.size W W') : Grid B W' ob N V A := G.but (But.of_below hb (fun _ => False)) id (fun _ _ _ _ => id)

theorem Grid.cell (G : Grid B W ob N V A) {t : Nat} (ht : t < N) : W.cell? ⟨ob, t, none⟩ = some (V t) := by
  rw [cell_of_row W ob t _ _ _ G.out, rowsV_get ht]

theorem Grid.slice (G : Grid B W ob N V A) {t : Nat} (ht : t < N) : ∃ ao cp, V t = .slice ao (A t).length cp := own_slice (G.row t ht)

theorem Grid.start {w : World} (hB : B ≤ w.heap.size) : Grid B (w.alloc (.cells (rowsV N (fun _ => .slice none 0 0)) 29)) w.heap.size N (fun _ => .slice none 0 0) (fun _ => []) :=
  ⟨hB, heap_alloc_new _ _, fun _ _ => ⟨rfl, .inl ⟨rfl, rfl⟩⟩, fun _ _ _ _ _ _ h => by simp [Value.ownBlock] at h⟩

/-- One more in a row. -/
theorem Grid.add (G : Grid B W ob N V A) {t : Nat} (ht : t < N) (i : Nat) (hn : (A t).length ≤ 200000) (hB : B ≤ W.heap.size) :
    ∃ v' W2, (Builtin.append_ #[29, 29] 29 #[V t, .slice (some ⟨W.heap.size, 0, none⟩) 1 1]).run Tryd.prog (W.alloc (.cells #[.int .i64 (i : Int)] 3)) = .ok v' W2 ∧ W2.frozen? ⟨ob, t, none⟩ = false ∧ (∃ u, W2.cell? ⟨ob, t, none⟩ = some u) ∧
      Grid B (W2.setCell ⟨ob, t, none⟩ v') ob N (upd V t v') (upd A t (A t ++ [i])) ∧ Below B W (W2.setCell ⟨ob, t, none⟩ v') ∧ ∀ (k : Nat) (cs : Array Value), W.heap[k]? = some (Obj.cells cs 50 (0, 0)) → W2.heap[k]? = some (Obj.cells cs 50 (0, 0)) ∧ (W2.setCell ⟨ob, t, none⟩ v').heap[k]? = some (Obj.cells cs 50 (0, 0)) := by
  obtain ⟨i3, hi3, hz0, hz1, hz2⟩ := info_parts info3
  have hb0 : Below W.heap.size W (W.alloc (.cells #[.int .i64 (i : Int)] 3)) := (Below.refl _ W).alloc (Nat.le_refl _) _
  have G1 := G.below hb0
  obtain ⟨v', W2, hr, h2, h3, h4⟩ := append_where (P := Tryd.prog) (W.alloc (.cells #[.int .i64 (i : Int)] 3)) B 29 29 3 i3 (.int .i64 0) 8 Tryd.underlying29 hi3 hz0 hz1 hz2 rfl (V t) (A t).length (nums (A t)) (G1.row t ht) ⟨W.heap.size, 0, none⟩ 1 (.int .i64 (i : Int)) (by rw [World.cell?_alloc_at _ _ _ _ rfl]; rfl) rfl (by unfold maxLen; omega) (by omega) (by have := hb0.size; omega)
  have hgo : ∀ s, s < N → ∀ g, (V s).ownBlock = some g → B ≤ g ∧ g ≠ ob := fun s hs g hg => by
    obtain ⟨h5, cur, hh⟩ := own_block (G1.row s hs) hg
    exact ⟨h5, ne_of_types hh G1.out (by decide)⟩
  have hout : W2.heap[ob]? = some (.cells (rowsV N V) 29 (0, 0)) := (h3.block ob (lt_of_block G1.out) (fun e => (hgo t ht ob e.symm).2 rfl)).trans G1.out
  have hnew : ∀ g, v'.ownBlock = some g → (V t).ownBlock = some g ∨ W.heap.size + 1 ≤ g := fun g hg => by
    rcases h4 with h4 | h4
    · exact .inl (h4.symm.trans hg)
    · rw [h4] at hg
      have e := Option.some.inj hg
      simp at e
      exact .inr (by omega)
  have hold : ∀ s, s < N → ∀ g, (V s).ownBlock = some g → g < W.heap.size := fun s hs g hg => by
    obtain ⟨_, cur, hh⟩ := own_block (G.row s hs) hg
    exact lt_of_block hh
  have hvo : ∀ g, v'.ownBlock = some g → g ≠ ob := fun g hg => by
    rcases hnew g hg with h | h
    · exact (hgo t ht g h).2
    · have := lt_of_block G.out; omega
  have b4 : But (fun k => k = ob) W2 (W2.setCell ⟨ob, t, none⟩ v') := (But.refl _ W2).set ob t _ (.inl rfl)
  have hb2 : Below B W W2 := (hb0.mono hB).trans ⟨h3.os, h3.tape, h3.output, h3.size, fun k hk => h3.block k (by have := hb0.size; omega) (fun e => by have := (hgo t ht k e.symm).1; omega)⟩
  refine ⟨v', W2, hr, frozen_of_row W2 ob t _ _ hout, ⟨V t, by rw [cell_of_row W2 ob t _ _ _ hout, rowsV_get ht]⟩, ⟨G.low, ?_, fun s hs => ?_, fun s u hs hu hne g hg1 hg2 => ?_⟩, hb2.trans (b4.below (by have := hb2.size; omega) (fun j hj => by rw [hj]; exact G.low)), fun k cs hk => ?_⟩
  · rw [heap_setCell_same W2 ob t _ 29 v' hout, rowsV_set]
  · by_cases hst : s = t
    · subst hst
      rw [upd_same, upd_same]
      refine own_but ?_ b4 (fun g hg => hvo g hg)
      rw [List.length_append]
      simpa [nums] using h2
    · rw [upd_other _ _ hst, upd_other _ _ hst]
      have k1 : W2.ownsRow B 3 1 (V s) (A s).length (nums (A s)) := by
        have := G1.row s hs
        obtain ⟨m1, m2 | ⟨g, cap, cur, hv, hB', hh, rest⟩⟩ := this
        · exact ⟨m1, .inl m2⟩
        · refine ⟨m1, .inr ⟨g, cap, cur, hv, hB', (h3.block g (lt_of_block hh) (fun e => ?_)).trans hh, rest⟩⟩
          exact G.apart s t hs ht hst g (by rw [hv]; rfl) e.symm
      exact own_but k1 b4 (fun g hg => (hgo s hs g hg).2)
  · by_cases hst : s = t
    · subst hst
      rw [upd_same] at hg1
      rw [upd_other _ _ (fun e => hne e.symm)] at hg2
      rcases hnew g hg1 with h | h
      · exact G.apart s u ht hu hne g h hg2
      · have := hold u hu g hg2; omega
    · rw [upd_other _ _ hst] at hg1
      by_cases hut : u = t
      · subst hut
        rw [upd_same] at hg2
        rcases hnew g hg2 with h | h
        · exact G.apart s u hs ht hne g hg1 h
        · have := hold s hs g hg1; omega
      · rw [upd_other _ _ hut] at hg2
        exact G.apart s u hs hu hne g hg1 hg2
  · have hk1 := (hb0.block k (lt_of_block hk)).trans hk
    have hk2 : W2.heap[k]? = some (Obj.cells cs 50 (0, 0)) := (h3.block k (lt_of_block hk1) (fun e => by
      obtain ⟨_, cur, hh⟩ := own_block (G1.row t ht) e.symm
      exact ne_of_types hk1 hh (by decide) rfl)).trans hk1
    exact ⟨hk2, (b4.block k (lt_of_block hk2) (ne_of_types hk2 hout (by decide))).trans hk2⟩

/-- .. in a region that draws: what it reads, in whatever order. -/
theorem Grid.step (G : Grid B W ob N V A) {t : Nat} (ht : t < N) (i : Nat) (hn : (A t).length ≤ 200000) (hB : B ≤ W.heap.size) {xb : Nat} {x0 x1 x2 : Value} (hx : W.heap[xb]? = some (.cells #[x0, x1, x2] 50 (0, 0))) :
    ∃ ao n cp W2, (Builtin.append_ #[29, 29] 29 #[V t, .slice (some ⟨W.heap.size, 0, none⟩) 1 1]).run Tryd.prog (W.drew.alloc (.cells #[.int .i64 (i : Int)] 3)) = .ok (.slice ao n cp) W2 ∧
      (W.drew.cell? ⟨ob, t, none⟩ = some (V t) ∧ W.drew.cell? ⟨xb, 1, none⟩ = some x1 ∧ W.drew.cell? ⟨xb, 2, none⟩ = some x2) ∧
      ((W.alloc (.cells #[.int .i64 (i : Int)] 3)).drew.cell? ⟨ob, t, none⟩ = some (V t) ∧ (W.alloc (.cells #[.int .i64 (i : Int)] 3)).drew.cell? ⟨xb, 1, none⟩ = some x1 ∧ (W.alloc (.cells #[.int .i64 (i : Int)] 3)).drew.cell? ⟨xb, 2, none⟩ = some x2) ∧
      (W2.frozen? ⟨ob, t, none⟩ = false ∧ (∃ u, W2.cell? ⟨ob, t, none⟩ = some u) ∧ W2.cell? ⟨xb, 1, none⟩ = some x1 ∧ W2.cell? ⟨xb, 2, none⟩ = some x2) ∧
      Grid B (W2.setCell ⟨ob, t, none⟩ (.slice ao n cp)) ob N (upd V t (.slice ao n cp)) (upd A t (A t ++ [i])) ∧ Below B W (W2.setCell ⟨ob, t, none⟩ (.slice ao n cp)) ∧ (W2.setCell ⟨ob, t, none⟩ (.slice ao n cp)).heap[xb]? = some (.cells #[x0, x1, x2] 50 (0, 0)) := by
  have hbd : Below W.heap.size W W.drew := below_drewN (Below.refl _ _) 1
  have Gd := G.below hbd
  have hbe : Below W.heap.size W (W.alloc (.cells #[.int .i64 (i : Int)] 3)).drew := below_drewN ((Below.refl _ W).alloc (Nat.le_refl _) _) 1
  have Ge := G.below hbe
  have hxl := lt_of_block hx
  have hxd := (hbd.block xb hxl).trans hx
  have hxe := (hbe.block xb hxl).trans hx
  obtain ⟨v', W2, h1, h2, h3, h4, h5, h6⟩ := Gd.add ht i hn hB
  have hs := h4.slice ht
  rw [upd_same] at hs
  obtain ⟨ao, cp, rfl⟩ := hs
  obtain ⟨y1, y2⟩ := h6 _ _ hxd
  exact ⟨ao, _, cp, W2, h1, ⟨Gd.cell ht, cell_of_row _ _ 1 _ _ _ hxd, cell_of_row _ _ 2 _ _ _ hxd⟩, ⟨Ge.cell ht, cell_of_row _ _ 1 _ _ _ hxe, cell_of_row _ _ 2 _ _ _ hxe⟩, ⟨h2, h3, cell_of_row _ _ 1 _ _ _ y1, cell_of_row _ _ 2 _ _ _ y1⟩, h4, (hbd.mono hB).trans h5, y2⟩

theorem mem_upd {A : Nat → List Nat} {t0 t k j : Nat} : j ∈ upd A t0 (A t0 ++ [k]) t ↔ j ∈ A t ∨ (j = k ∧ t = t0) := by
  by_cases h : t = t0
  · subst h
    rw [upd_same]
    simp
  · rw [upd_other _ _ h]
    simp [h]

theorem len_upd {A : Nat → List Nat} {t0 t k m : Nat} (h : ∀ s, s < N → (A s).length ≤ m) (ht : t < N) (ht0 : t0 < N) : (upd A t0 (A t0 ++ [k]) t).length ≤ m + 1 := by
  by_cases h1 : t = t0
  · subst h1
    rw [upd_same, List.length_append]
    have := h t ht0
    simp
    omega
  · rw [upd_other _ _ h1]
    have := h t ht
    omega

end

theorem led_step {c : VM.Co} {k t : Nat} {A A' : List Nat} (h : VM.Led c k t A) (hm : ∀ j, j ∈ A' ↔ j ∈ A ∨ (j = k ∧ VM.Edge c k t)) : VM.Led c (k + 1) t A' := by
  intro j
  rw [hm, h j]
  constructor
  · rintro (⟨h1, h2⟩ | ⟨rfl, h2⟩)
    · exact ⟨by omega, h2⟩
    · exact ⟨by omega, h2⟩
  · rintro ⟨h1, h2⟩
    rcases Nat.lt_or_ge j k with h3 | h3
    · exact .inl ⟨h3, h2⟩
    · obtain rfl : j = k := by omega
      exact .inr ⟨rfl, h2⟩

end Go.Proofs.YtddjppkpgflbjaaDoor
