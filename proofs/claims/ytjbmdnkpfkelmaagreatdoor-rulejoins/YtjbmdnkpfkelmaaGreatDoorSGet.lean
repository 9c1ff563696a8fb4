/- Ranges of a right set, one by one. -/
import Derived.Test.YtjbmdnkpfkelmaaGreatDoorSBase
namespace Go.Proofs.YtjbmdnkpfkelmaaGreatDoor
open Go.RowKit

theorem right_get {s : List RS.Rg} : ∀ {a : Int} (_ : RS.rightFrom a s = true) (j : Nat) (hj : j < s.length), a + 1 < s[j].1 ∧ s[j].1 ≤ s[j].2 ∧ s[j].2 ≤ 1114111 := by
  induction s with
  | nil => intro a _ j hj; simp at hj
  | cons r s ih =>
    intro a h j hj
    rw [RS.rightFrom_cons] at h
    cases j with
    | zero => exact ⟨h.1, h.2.1, h.2.2.1⟩
    | succ j =>
      have := ih h.2.2.2 j (by simpa using hj)
      refine ⟨?_, this.2⟩
      have h1 := this.1
      exact Int.lt_trans (show a + 1 < r.2 + 1 by omega) h1

theorem right_lt_get {s : List RS.Rg} : ∀ {a : Int} (_ : RS.rightFrom a s = true) (i j : Nat) (hij : i < j) (hj : j < s.length), (s[i]'(by omega)).2 + 1 < s[j].1 := by
  induction s with
  | nil => intro a _ i j _ hj; simp at hj
  | cons r s ih =>
    intro a h i j hij hj
    rw [RS.rightFrom_cons] at h
    cases j with
    | zero => omega
    | succ j =>
      cases i with
      | zero => exact (right_get h.2.2.2 j (by simpa using hj)).1
      | succ i => exact ih h.2.2.2 i j (by omega) (by simpa using hj)

end Go.Proofs.YtjbmdnkpfkelmaaGreatDoor
