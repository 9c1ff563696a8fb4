/- What matching holds in memory. -/
import Derived.Test.YtddjppkpgflbjaaDoorVmTU
import Derived.Test.YtddjppkpgflbjaaDoorVmS
import Derived.Test.YtddjppkpgflbjaaDoorVmG
namespace Go.Proofs.YtddjppkpgflbjaaDoor
open Go.RowKit Go.Shelf

theorem lt_of_block' {W : World} {g : Nat} {o : Obj} (h : W.heap[g]? = some o) : g < W.heap.size := by
  rcases Nat.lt_or_ge g W.heap.size with h1 | h1
  · exact h1
  · rw [Array.getElem?_eq_none h1] at h; cases h

/-- What lies still while matching works. -/
structure Ground (w : World) (B outb bA bc ob : Nat) (sv iv lv : Value) (c : VM.Co) (l : List Int) (W : World) : Prop where
  fit : Fit w.heap.size W sv iv lv c l
  below : Below w.heap.size w W
  led : ∃ V A, Grid w.heap.size W ob c.ins.length V A ∧ (∀ t, t < c.ins.length → VM.Led c c.ins.length t (A t)) ∧ (∀ t, t < c.ins.length → (A t).length ≤ 1000000) ∧ ob < B ∧ ∀ t, t < c.ins.length → ∀ g, (V t).ownBlock = some g → g < B
  cA : W.heap[bA]? = some (.cells #[.slice (some ⟨ob, 0, none⟩) c.ins.length c.ins.length] 123 (0, 0))
  cC : W.heap[bc]? = some (.cells #[sv, iv] 25 (0, 0))
  low : bA < B ∧ bc < B ∧ outb < B ∧ w.heap.size ≤ outb ∧ w.heap.size ≤ B
  size : B ≤ W.heap.size
  outT : ∃ cs, W.heap[outb]? = some (.cells cs 4 (0, 0))

section
variable {w : World} {B outb bA bc ob : Nat} {sv iv lv : Value} {c : VM.Co} {l : List Int} {W W' : World}

theorem Ground.but (G : Ground w B outb bA bc ob sv iv lv c l W) (hb : But (fun k => k = outb ∨ B ≤ k) W W') (ho : ∃ cs, W'.heap[outb]? = some (.cells cs 4 (0, 0))) : Ground w B outb bA bc ob sv iv lv c l W' := by
  obtain ⟨cs0, hcs0⟩ := G.outT
  have nk : ∀ {k : Nat} {cs : Array Value} {t : TypeId}, W.heap[k]? = some (.cells cs t (0, 0)) → t ≠ 4 → k < B → ¬ (k = outb ∨ B ≤ k) := fun hk ht hlt e => e.elim (fun e => ne_of_types hk hcs0 ht e) (fun e => by omega)
  have hbl : Below w.heap.size W W' := hb.below (by have := G.below.size; omega) (fun j hj => by have := G.low; omega)
  obtain ⟨V, A, h1, h2, h3, h4, h5⟩ := G.led
  refine ⟨G.fit.below hbl, G.below.trans hbl, ⟨V, A, h1.but hb (nk h1.out (by decide) h4) (fun t ht g hg => ?_), h2, h3, h4, h5⟩, (hb.block _ (lt_of_block G.cA) (nk G.cA (by decide) G.low.1)).trans G.cA, (hb.block _ (lt_of_block G.cC) (nk G.cC (by decide) G.low.2.1)).trans G.cC, G.low, Nat.le_trans G.size hb.size, ho⟩
  obtain ⟨_, cur, hh⟩ := own_block (h1.row t ht) hg
  exact nk hh (by decide) (h5 t ht g hg)

theorem Ground.ledAt (G : Ground w B outb bA bc ob sv iv lv c l W) : LedAt B W (.slice (some ⟨ob, 0, none⟩) c.ins.length c.ins.length) c := by
  obtain ⟨V, A, h1, h2, h3, h4, h5⟩ := G.led
  refine ⟨ob, rfl, h4, fun t ht => ⟨V t, A t, h1.cell ht, ?_, h2 t ht, h3 t ht⟩⟩
  have hk := h1.row t ht
  obtain ⟨_, ⟨hv, h0⟩ | ⟨g, cap, cur, hv, hg, hh, hn, hc, hs, htk⟩⟩ := h1.row t ht
  · have : A t = [] := List.eq_nil_of_length_eq_zero h0
    rw [hv, this]
    exact ⟨none, 0, rfl, Nat.le_refl _, fun h => absurd rfl h⟩
  · refine ⟨some ⟨g, 0, none⟩, cap, by rw [hv]; simp [intsOf], by simpa [intsOf] using hn, fun _ => ⟨g, 0, rfl, h5 t ht g (by rw [hv]; rfl), fun k h => ?_⟩⟩
    have hkA : k < (A t).length := by simpa [intsOf] using h
    rw [hv] at hk
    have := hk.cells (g := g) rfl k (.int .i64 ((A t)[k] : Nat)) (by simp [nums, hkA])
    simpa [Addr.add_lit, intsOf] using this

theorem Ground.fitB (G : Ground w B outb bA bc ob sv iv lv c l W) : Fit B W sv iv lv c l := G.fit.up G.low.2.2.2.2

/-- The same code, with what is left of the points. -/
theorem Ground.left (G : Ground w B outb bA bc ob sv iv lv c l W) {lv' : Value} {l' : List Int} (h : PtsAt w.heap.size w lv' l') (hl : l'.length ≤ 100000) : Fit B W sv iv lv' c l' :=
  (⟨G.fit.right, G.fit.code, h.below G.below _ (Nat.le_refl _), G.fit.lens.1, G.fit.lens.2.1, hl, G.fit.lens.2.2.2⟩ : Fit w.heap.size W sv iv lv' c l').up G.low.2.2.2.2

end

/-- Truth values as cells. -/
def bits (n : Nat) (f : Nat → Bool) : Array Value := ((List.range n).map fun k => Value.bool (f k)).toArray

theorem bits_get {n : Nat} {f : Nat → Bool} {k : Nat} (h : k < n) : (bits n f)[k]? = some (.bool (f k)) := by
  unfold bits
  simp [h]

theorem bits_set {n : Nat} {f g : Nat → Bool} {k : Nat} {b : Bool} (hb : b = g k) (h : ∀ j, j ≠ k → j < n → g j = f j) : (bits n f).setIfInBounds k (.bool b) = bits n g := by
  apply Array.ext'
  unfold bits
  simp only [Array.toList_setIfInBounds]
  apply List.ext_getElem?
  intro j
  rw [List.getElem?_set]
  simp only [List.length_map, List.length_range]
  by_cases hj : k = j
  · subst hj
    by_cases hn : k < n
    · simp [hn, hb]
    · simp [hn]
  · by_cases hn : j < n
    · have := h j (fun e => hj e.symm) hn
      simp [hj, hn, this]
    · simp [hj, hn]

theorem bits_false (n : Nat) : madeCells #[Value.bool false] n = bits n (fun _ => false) := by
  apply Array.ext'
  unfold madeCells bits
  apply List.ext_getElem
  · simp
  · intro i h1 h2
    simp [Nat.mod_one]

/-- What is known when the places from p on are worked out. -/
def known (c : VM.Co) (l : List Int) (p k : Nat) : Bool := decide (p ≤ k) && (VM.run c (l.drop k) [0]).1

theorem known_start (c : VM.Co) (l : List Int) : ∀ k, k < l.length + 1 → known c l (l.length + 1) k = false := by
  intro k hk
  unfold known
  have : decide (l.length + 1 ≤ k) = false := decide_eq_false (by omega)
  simp [this]

theorem known_step (c : VM.Co) (l : List Int) (p k : Nat) (h : k ≠ p) : known c l p k = known c l (p + 1) k := by
  unfold known
  have : decide (p ≤ k) = decide (p + 1 ≤ k) := by
    rw [decide_eq_decide]
    omega
  rw [this]

theorem known_all (c : VM.Co) (l : List Int) (k : Nat) : known c l 0 k = (VM.run c (l.drop k) [0]).1 := by simp [known]

theorem bits_congr {n : Nat} {f g : Nat → Bool} (h : ∀ k, k < n → f k = g k) : bits n f = bits n g := by
  unfold bits
  congr 1
  refine List.map_congr_left fun k hk => ?_
  rw [h k (List.mem_range.1 hk)]

/-- What comes to Yes is known when the first ones, and what leads to them, are met. -/
theorem met_acc {c : VM.Co} (hr : VM.right c = true) {l : List Int} {x h0 H : List Nat} (hx : ∀ p q, l = p :: q → ∀ k, k ∈ x ↔ k < c.ins.length ∧ VM.Acc c q k)
    (h1 : ∀ j, j ∈ h0 ↔ j < c.ins.length ∧ VM.First c l x j = true) (hm : VM.Met c.ins.length H) (hpre : h0 <+: H) (hc : ∀ i ∈ H, ∀ j, j < c.ins.length → VM.Leads c (decide (l.length = 0)) j i → j ∈ H) (hs : Spread c (decide (l.length = 0)) h0 H) :
    (∀ i, i ∈ H ↔ i < c.ins.length ∧ VM.Acc c l i) ∧ decide (0 ∈ H) = (VM.run c l [0]).1 := by
  have hsnd : ∀ i ∈ H, VM.Acc c l i := hs (fun i => VM.Acc c l i) (fun i hi => VM.first_acc hx ((h1 i).1 hi).2) (fun i j hi hle => hi.leads hle)
  have key := VM.back_spec hr hx (fun i hi hf => hpre.subset ((h1 i).2 ⟨hi, hf⟩)) (fun i j hi hle hj => hc j hj i hi hle) (fun i hi => ⟨hm.2 i hi, hsnd i hi⟩)
  refine ⟨key, ?_⟩
  rw [Bool.eq_iff_iff, decide_eq_true_eq, VM.acc_run hr, key 0]
  have := (VM.right_parts hr).1
  exact ⟨fun h => h.2, fun h => ⟨by omega, h⟩⟩

end Go.Proofs.YtddjppkpgflbjaaDoor
