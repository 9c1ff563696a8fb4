/- Worked out from the text's end on: from which instructions code comes to Yes. No program is named here. -/
import Derived.Test.YtddjppkpgflbjaaDoorAccMath
namespace VM

/-- One leads to another one, at the end or not. -/
def Edge (c : Co) (i j : Nat) : Prop := ((at_ c i).op = 2 ∧ (j = (at_ c i).a.toNat ∨ j = (at_ c i).b.toNat)) ∨ ((at_ c i).op = 3 ∧ j = (at_ c i).a.toNat) ∨ ((at_ c i).op = 4 ∧ j = i + 1)

theorem leads_edge {c : Co} {e : Bool} {i j : Nat} : Leads c e i j ↔ Edge c i j ∧ ((at_ c i).op ≠ 4 ∨ e = true) := by
  unfold Leads Edge
  constructor
  · rintro (⟨h, h1⟩ | ⟨h, h1⟩ | ⟨h, h1, h2⟩)
    · exact ⟨.inl ⟨h, h1⟩, .inl (by omega)⟩
    · exact ⟨.inr (.inl ⟨h, h1⟩), .inl (by omega)⟩
    · exact ⟨.inr (.inr ⟨h, h2⟩), .inr h1⟩
  · rintro ⟨⟨h, h1⟩ | ⟨h, h1⟩ | ⟨h, h2⟩, h3⟩
    · exact .inl ⟨h, h1⟩
    · exact .inr (.inl ⟨h, h1⟩)
    · exact .inr (.inr ⟨h, h3.elim (fun h4 => absurd h h4) id, h2⟩)

/-- One comes to Yes at once, or takes what is here to one that does at the next point. -/
def First (c : Co) (l : List Int) (x : List Nat) (i : Nat) : Bool := decide ((at_ c i).op = 5) || (decide ((at_ c i).op = 1) && decide (i + 1 ∈ x) && takes c (at_ c i) l)

theorem edge_lt {c : Co} (hr : right c = true) {i j : Nat} (hi : i < c.ins.length) (h : Edge c i j) : j < c.ins.length := by
  rcases h with ⟨ho, rfl | rfl⟩ | ⟨ho, rfl⟩ | ⟨ho, rfl⟩
  · have := right_a hr hi (.inl ho); omega
  · have := right_b hr hi ho; omega
  · have := right_a hr hi (.inr ho); omega
  · exact right_next hr hi (.inr ho)

/-- What is met, worked out from those that are first, back by what leads to them, is what comes to Yes. -/
theorem back_spec {c : Co} (hr : right c = true) {l : List Int} {x H : List Nat} (hx : ∀ p q, l = p :: q → ∀ k, k ∈ x ↔ k < c.ins.length ∧ Acc c q k)
    (h1 : ∀ i, i < c.ins.length → First c l x i = true → i ∈ H) (h2 : ∀ i j, i < c.ins.length → Leads c (decide (l.length = 0)) i j → j ∈ H → i ∈ H) (h3 : ∀ i ∈ H, i < c.ins.length ∧ Acc c l i) :
    ∀ i, i ∈ H ↔ i < c.ins.length ∧ Acc c l i := by
  intro i
  refine ⟨h3 i, ?_⟩
  rintro ⟨hi, ha⟩
  have key : ∀ {m : List Int} {i : Nat}, Acc c m i → m = l → i < c.ins.length → i ∈ H := by
    intro m i ha
    induction ha with
    | yes h5 => intro _ hi; exact h1 _ hi (by unfold First; simp [h5])
    | @take p q i ho ht hn _ =>
      intro e hi
      subst e
      refine h1 _ hi ?_
      have hk := (hx p q rfl (i + 1)).2 ⟨right_next hr hi (.inl ho), hn⟩
      unfold First
      simp [ho, ht, hk]
    | @splitA m i ho _ ih =>
      intro e hi
      subst e
      have hl : Leads c (decide (m.length = 0)) i (at_ c i).a.toNat := .inl ⟨ho, .inl rfl⟩
      exact h2 _ _ hi hl (ih rfl (edge_lt hr hi (leads_edge.1 hl).1))
    | @splitB m i ho _ ih =>
      intro e hi
      subst e
      have hl : Leads c (decide (m.length = 0)) i (at_ c i).b.toNat := .inl ⟨ho, .inr rfl⟩
      exact h2 _ _ hi hl (ih rfl (edge_lt hr hi (leads_edge.1 hl).1))
    | @jump m i ho _ ih =>
      intro e hi
      subst e
      have hl : Leads c (decide (m.length = 0)) i (at_ c i).a.toNat := .inr (.inl ⟨ho, rfl⟩)
      exact h2 _ _ hi hl (ih rfl (edge_lt hr hi (leads_edge.1 hl).1))
    | @stop i ho _ ih =>
      intro e hi
      subst e
      have hl : Leads c (decide (([] : List Int).length = 0)) i (i + 1) := .inr (.inr ⟨ho, by simp, rfl⟩)
      exact h2 _ _ hi hl (ih rfl (right_next hr hi (.inr ho)))
  exact key ha rfl hi

theorem first_acc {c : Co} {l : List Int} {x : List Nat} (hx : ∀ p q, l = p :: q → ∀ k, k ∈ x ↔ k < c.ins.length ∧ Acc c q k) {i : Nat} (h : First c l x i = true) : Acc c l i := by
  unfold First at h
  simp only [Bool.or_eq_true, Bool.and_eq_true, decide_eq_true_eq] at h
  rcases h with h | ⟨⟨h1, h2⟩, h3⟩
  · exact .yes h
  · cases l with
    | nil => simp [takes] at h3
    | cons p q => exact .take h1 h3 ((hx p q rfl _).1 h2).2

/-- Where code matches what is left, of each place, by what comes to Yes. -/
theorem acc_run {c : Co} (hr : right c = true) (l : List Int) : (run c l [0]).1 = true ↔ Acc c l 0 := by
  have h1 := (right_parts hr).1
  rw [run_acc hr l [0] (met_one (by omega))]
  simp

/-- What leads to one, of the first n instructions. -/
def Led (c : Co) (n t : Nat) (A : List Nat) : Prop := ∀ j, j ∈ A ↔ j < n ∧ Edge c j t

theorem led_zero (c : Co) (t : Nat) : Led c 0 t [] := fun j => by simp

end VM
