/- A run, point by point. No program is named here. -/
import Derived.Test.YtddjppkpgflbjaaDoorVmMath
namespace VM

/-- What is left of a run at a point: those met here, how many were looked at, whether it said yes. -/
def Rest (c : Co) (l : List Int) (k : Nat) (h : List Nat) (n : Nat) (y : Bool) (R : Bool × Nat) : Prop :=
  (y = true ∧ R = (true, n)) ∨ (y = false ∧ h = [] ∧ R = (false, n)) ∨ (y = false ∧ k ≤ l.length ∧ R = ((run c (l.drop k) h).1, n + (run c (l.drop k) h).2))

theorem each_empty (c : Co) (left : List Int) (f : Nat) (x : List Nat) : each c left f 0 [] x = ([], x, false, 0) := by
  cases f <;> rfl

theorem run_empty (c : Co) : ∀ l : List Int, run c l [] = (false, 0) := by
  intro l
  induction l with
  | nil => unfold run; rw [each_empty]
  | cons p l ih => unfold run; rw [each_empty]; simp [ih]

theorem look_none (c : Co) (i : Nat) (h x : List Nat) : (look c [] i h x).2.1 = x := by
  unfold look takes
  split
  · rfl
  · split
    · rfl
    · split
      · rfl
      · split
        · rfl
        · split <;> rfl

theorem each_none (c : Co) : ∀ (f n : Nat) (h x : List Nat), (each c [] f n h x).2.1 = x := by
  intro f
  induction f with
  | zero => intro n h x; rfl
  | succ f ih =>
    intro n h x
    unfold each
    cases h[n]? with
    | none => rfl
    | some i =>
      dsimp only
      split
      · exact look_none c i h x
      · rw [ih, look_none]

theorem rest_start (c : Co) (l : List Int) (R : Bool × Nat) (h : R = run c l [0]) : Rest c l 0 [0] 0 false R := by
  refine .inr (.inr ⟨rfl, Nat.zero_le _, ?_⟩)
  rw [List.drop_zero, Nat.zero_add, h]

theorem rest_stop {c : Co} {l : List Int} {k : Nat} {h : List Nat} {n : Nat} {y : Bool} {R : Bool × Nat} (hr : Rest c l k h n y R) (hs : y = true ∨ h = []) : R = (y, n) := by
  rcases hr with ⟨rfl, h1⟩ | ⟨rfl, _, h1⟩ | ⟨rfl, _, h1⟩
  · exact h1
  · exact h1
  · rcases hs with hs | rfl
    · cases hs
    · rw [run_empty] at h1
      exact h1

theorem rest_le {c : Co} {l : List Int} {k : Nat} {h : List Nat} {n : Nat} {R : Bool × Nat} (hr : Rest c l k h n false R) (hs : h ≠ []) : k ≤ l.length := by
  rcases hr with ⟨h0, _⟩ | ⟨_, h1, _⟩ | ⟨_, h1, _⟩
  · cases h0
  · exact absurd h1 hs
  · exact h1

theorem rest_step {c : Co} {l : List Int} {k : Nat} {h : List Nat} {n : Nat} {R : Bool × Nat} (hr : Rest c l k h n false R) (hs : h ≠ []) :
    Rest c l (k + 1) (each c (l.drop k) (c.ins.length + 1) 0 h []).2.1 (n + (each c (l.drop k) (c.ins.length + 1) 0 h []).2.2.2) (each c (l.drop k) (c.ins.length + 1) 0 h []).2.2.1 R := by
  have hk := rest_le hr hs
  rcases hr with ⟨h0, _⟩ | ⟨_, h1, _⟩ | ⟨_, _, h1⟩
  · cases h0
  · exact absurd h1 hs
  · rcases Nat.lt_or_ge k l.length with hlt | hge
    · rw [List.drop_eq_getElem_cons hlt] at h1 ⊢
      generalize hE : each c (l[k] :: l.drop (k + 1)) (c.ins.length + 1) 0 h [] = E at h1 ⊢
      unfold run at h1
      rw [hE] at h1
      obtain ⟨a, b, y, m⟩ := E
      dsimp only at h1 ⊢
      cases y with
      | true =>
        simp only [if_true] at h1
        exact .inl ⟨rfl, h1⟩
      | false =>
        simp only [Bool.false_eq_true, if_false] at h1
        refine .inr (.inr ⟨rfl, hlt, ?_⟩)
        rw [h1, Nat.add_assoc]
    · have e : l.drop k = [] := List.drop_of_length_le hge
      rw [e] at h1 ⊢
      have h2 := each_none c (c.ins.length + 1) 0 h []
      generalize hE : each c [] (c.ins.length + 1) 0 h [] = E at h1 h2 ⊢
      unfold run at h1
      rw [hE] at h1
      obtain ⟨a, b, y, m⟩ := E
      dsimp only at h1 h2 ⊢
      cases y with
      | true => exact .inl ⟨rfl, h1⟩
      | false => exact .inr (.inl ⟨rfl, h2, h1⟩)

theorem each_le {c : Co} (hr : right c = true) (left : List Int) {h x : List Nat} (hh : Met c.ins.length h) (hx : Met c.ins.length x) : (each c left (c.ins.length + 1) 0 h x).2.2.2 ≤ c.ins.length :=
  (each_count hr left _ 0 h x hh hx (Nat.zero_le _)).2

end VM
