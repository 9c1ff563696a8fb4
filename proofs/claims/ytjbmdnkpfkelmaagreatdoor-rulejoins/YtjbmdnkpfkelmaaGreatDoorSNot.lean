/- The contracts of set.Not and set.within. -/
import Derived.Test.YtjbmdnkpfkelmaaGreatDoorSRg
import Derived.Laws.OwnMore
namespace Go.Proofs.YtjbmdnkpfkelmaaGreatDoor
open Go.RowKit

theorem owns_below {w w' : World} {base B : Nat} {e : TypeId} {size : Nat} {v : Value} {n : Nat} {xs : List Value} (h : w.ownsRow base e size v n xs) (hlt : ∀ g, v.ownBlock = some g → g < B) (hb : Below B w w') : w'.ownsRow base e size v n xs := by
  obtain ⟨h1, h2 | ⟨g, cap, cur, rfl, hg, hh, rest⟩⟩ := h
  · exact ⟨h1, Or.inl h2⟩
  · exact ⟨h1, Or.inr ⟨g, cap, cur, rfl, hg, (hb.block g (hlt g rfl)).trans hh, rest⟩⟩

theorem owns_later {w w' : World} {base : Nat} {e : TypeId} {size : Nat} {v : Value} {n : Nat} {xs : List Value} (h : w.ownsRow base e size v n xs) (hb : Below w.heap.size w w') : w'.ownsRow base e size v n xs :=
  owns_below h (fun g hg => (h.lt g hg).2) hb

/-- A range was appended: what there is now. -/
theorem app53 {w W w1 : World} {v v' : Value} {s : List RS.Rg} {r : RS.Rg} {B : Nat} (hb : Below B w W) (hB : B ≤ W.heap.size) (hown : W.ownsRow B 85 2 v s.length (flat2 s))
    (hown' : w1.ownsRow B 85 2 v' (s.length + 1) (flat2 s ++ cells2 r)) (hg : W.grownBy w1 v.ownBlock) :
    w1.ownsRow B 85 2 v' (s ++ [r]).length (flat2 (s ++ [r])) ∧ Below B w w1 ∧ ∀ j k, j < W.heap.size → W.ownsRow B 85 2 v s.length (flat2 s) → v.ownBlock ≠ some j → w1.cell? ⟨j, k, none⟩ = W.cell? ⟨j, k, none⟩ := by
  refine ⟨?_, ?_, ?_⟩
  · rw [flat2_snoc]; simpa using hown'
  · exact hb.grown hg hB (fun k hk => (hown.lt k hk).1)
  · intro j k hj _ hne
    exact World.cell?_of_block (w := W) (w' := w1) (a := ⟨j, k, none⟩) (hg.block j hj (fun e => hne e.symm))

theorem cells2_one (r : RS.Rg) : ∀ u ∈ cells2 r, u.oneCell' = true := by
  intro u hu; simp [cells2] at hu; rcases hu with rfl | rfl <;> rfl

theorem cells2_at {w : World} {b : Nat} {r : RS.Rg} (h0 : w.cell? ⟨b, 0, none⟩ = some (.int .i64 r.1)) (h1 : w.cell? ⟨b, 1, none⟩ = some (.int .i64 r.2)) : ∀ j u, (cells2 r)[j]? = some u → w.cell? ((⟨b, 0, none⟩ : Addr).add j) = some u := by
  intro j u hj
  match j, hj with
  | 0, hj => simp [cells2] at hj; subst hj; simpa [Addr.add] using h0
  | 1, hj => simp [cells2] at hj; subst hj; simpa [Addr.add] using h1
  | j + 2, hj => simp [cells2] at hj

end Go.Proofs.YtjbmdnkpfkelmaaGreatDoor
