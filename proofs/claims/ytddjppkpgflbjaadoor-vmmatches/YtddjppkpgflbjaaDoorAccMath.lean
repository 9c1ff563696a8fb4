/- From which instructions code comes to Yes. No program is named here. -/
import Derived.Test.YtddjppkpgflbjaaDoorRunMath
namespace VM

/-- From an instruction, with these points left, code comes to Yes on some road. -/
inductive Acc (c : Co) : List Int → Nat → Prop
  | yes {l : List Int} {i : Nat} : (at_ c i).op = 5 → Acc c l i
  | take {p : Int} {l : List Int} {i : Nat} : (at_ c i).op = 1 → takes c (at_ c i) (p :: l) = true → Acc c l (i + 1) → Acc c (p :: l) i
  | splitA {l : List Int} {i : Nat} : (at_ c i).op = 2 → Acc c l (at_ c i).a.toNat → Acc c l i
  | splitB {l : List Int} {i : Nat} : (at_ c i).op = 2 → Acc c l (at_ c i).b.toNat → Acc c l i
  | jump {l : List Int} {i : Nat} : (at_ c i).op = 3 → Acc c l (at_ c i).a.toNat → Acc c l i
  | stop {i : Nat} : (at_ c i).op = 4 → Acc c [] (i + 1) → Acc c [] i

/-- One leads to another one at the same point. -/
def Leads (c : Co) (end_ : Bool) (i j : Nat) : Prop :=
  ((at_ c i).op = 2 ∧ (j = (at_ c i).a.toNat ∨ j = (at_ c i).b.toNat)) ∨ ((at_ c i).op = 3 ∧ j = (at_ c i).a.toNat) ∨ ((at_ c i).op = 4 ∧ end_ = true ∧ j = i + 1)

theorem Acc.leads {c : Co} {l : List Int} {i j : Nat} (h : Leads c (decide (l.length = 0)) i j) (hj : Acc c l j) : Acc c l i := by
  rcases h with ⟨ho, rfl | rfl⟩ | ⟨ho, rfl⟩ | ⟨ho, he, rfl⟩
  · exact .splitA ho hj
  · exact .splitB ho hj
  · exact .jump ho hj
  · rw [decide_eq_true_eq] at he
    obtain rfl : l = [] := List.eq_nil_of_length_eq_zero he
    exact .stop ho hj

/-- One is taken on to the next point. -/
def Onward (c : Co) (l : List Int) (i : Nat) : Prop := (at_ c i).op = 1 ∧ takes c (at_ c i) l = true

/-- What comes to Yes does so here, or by one that it leads to, or by the next one at the next point. -/
theorem acc_cases {c : Co} {l : List Int} {i : Nat} (h : Acc c l i) : (at_ c i).op = 5 ∨ (∃ j, Leads c (decide (l.length = 0)) i j ∧ Acc c l j) ∨ ∃ p m, l = p :: m ∧ Onward c l i ∧ Acc c m (i + 1) := by
  cases h with
  | yes h => exact .inl h
  | take h1 h2 h3 => exact .inr (.inr ⟨_, _, rfl, ⟨h1, h2⟩, h3⟩)
  | splitA h1 h2 => exact .inr (.inl ⟨_, .inl ⟨h1, .inl rfl⟩, h2⟩)
  | splitB h1 h2 => exact .inr (.inl ⟨_, .inl ⟨h1, .inr rfl⟩, h2⟩)
  | jump h1 h2 => exact .inr (.inl ⟨_, .inr (.inl ⟨h1, rfl⟩), h2⟩)
  | stop h1 h2 => exact .inr (.inl ⟨_, .inr (.inr ⟨h1, by simp, rfl⟩), h2⟩)

theorem look_sound {c : Co} {l : List Int} {i : Nat} {h x : List Nat} : ∀ j ∈ (look c l i h x).1, j ∈ h ∨ Leads c (decide (l.length = 0)) i j := by
  intro j hj
  unfold look at hj
  split at hj
  · exact .inl hj
  · rename_i h1
    split at hj
    · rename_i h2
      rcases (mem_meet _ _ _).1 hj with hj | hj
      · rcases (mem_meet _ _ _).1 hj with hj | hj
        · exact .inl hj
        · exact .inr (.inl ⟨h2, .inl hj⟩)
      · exact .inr (.inl ⟨h2, .inr hj⟩)
    · split at hj
      · rename_i h3
        rcases (mem_meet _ _ _).1 hj with hj | hj
        · exact .inl hj
        · exact .inr (.inr (.inl ⟨h3, hj⟩))
      · split at hj
        · rename_i h4
          dsimp only at hj
          split at hj
          · rename_i hl
            rcases (mem_meet _ _ _).1 hj with hj | hj
            · exact .inl hj
            · exact .inr (.inr (.inr ⟨h4, by simpa using hl, hj⟩))
          · exact .inl hj
        · split at hj <;> exact .inl hj

theorem look_complete {c : Co} {l : List Int} {i : Nat} {h x : List Nat} : ∀ j, Leads c (decide (l.length = 0)) i j → j ∈ (look c l i h x).1 := by
  rintro j (⟨ho, hj⟩ | ⟨ho, rfl⟩ | ⟨ho, he, rfl⟩)
  · unfold look
    simp only [ho]
    simp only [show ¬ (2 : Int) = 1 by omega, if_false, if_pos]
    rcases hj with rfl | rfl
    · exact (mem_meet _ _ _).2 (.inl ((mem_meet _ _ _).2 (.inr rfl)))
    · exact (mem_meet _ _ _).2 (.inr rfl)
  · unfold look
    simp only [ho]
    simp only [show ¬ (3 : Int) = 1 by omega, show ¬ (3 : Int) = 2 by omega, if_false, if_pos]
    exact (mem_meet _ _ _).2 (.inr rfl)
  · unfold look
    simp only [ho]
    rw [decide_eq_true_eq] at he
    simp only [show ¬ (4 : Int) = 1 by omega, show ¬ (4 : Int) = 2 by omega, show ¬ (4 : Int) = 3 by omega, if_false, if_pos, he]
    exact (mem_meet _ _ _).2 (.inr rfl)

theorem look_next {c : Co} {l : List Int} {i : Nat} {h x : List Nat} : ∀ j, j ∈ (look c l i h x).2.1 ↔ j ∈ x ∨ (Onward c l i ∧ j = i + 1) := by
  intro j
  unfold look Onward
  by_cases h1 : (at_ c i).op = 1
  · simp only [h1, if_pos, true_and]
    cases ht : takes c (at_ c i) l with
    | true => simp [mem_meet]
    | false => simp
  · by_cases h2 : (at_ c i).op = 2
    · simp [h2]
    · by_cases h3 : (at_ c i).op = 3
      · simp [h3]
      · by_cases h4 : (at_ c i).op = 4
        · simp [h4]
        · by_cases h5 : (at_ c i).op = 5
          · simp [h5]
          · simp [h1, h2, h3, h4, h5]

theorem look_yes {c : Co} {l : List Int} {i : Nat} {h x : List Nat} : (look c l i h x).2.2 = true ↔ (at_ c i).op = 5 := by
  unfold look
  by_cases h1 : (at_ c i).op = 1
  · simp [h1]
  · by_cases h2 : (at_ c i).op = 2
    · simp [h2]
    · by_cases h3 : (at_ c i).op = 3
      · simp [h3]
      · by_cases h4 : (at_ c i).op = 4
        · simp [h4]
        · by_cases h5 : (at_ c i).op = 5
          · simp [h5]
          · simp [h1, h2, h3, h4, h5]

/-- One that was met has been looked at: what it leads to was met. -/
def Done (c : Co) (l : List Int) (h x : List Nat) (i : Nat) : Prop := (at_ c i).op ≠ 5 ∧ (∀ j, Leads c (decide (l.length = 0)) i j → j ∈ h) ∧ (Onward c l i → i + 1 ∈ x)

/-- All that are met were met at first, or lead from such as come to Yes if they do; what is met next was taken. -/
theorem each_spec {c : Co} (hr : right c = true) (l : List Int) : ∀ (f n : Nat) (h x : List Nat), Met c.ins.length h → Met c.ins.length x → n ≤ h.length → c.ins.length + 1 - n ≤ f → (∀ m i, m < n → h[m]? = some i → Done c l h x i) →
    (∀ i ∈ (each c l f n h x).1, Acc c l i → ∃ j ∈ h, Acc c l j) ∧ (∀ i ∈ (each c l f n h x).2.1, i ∈ x ∨ ∃ j ∈ (each c l f n h x).1, Onward c l j ∧ i = j + 1) ∧
      ((each c l f n h x).2.2.1 = true → ∃ i ∈ (each c l f n h x).1, (at_ c i).op = 5) ∧ ((each c l f n h x).2.2.1 = false → ∀ i ∈ (each c l f n h x).1, Done c l (each c l f n h x).1 (each c l f n h x).2.1 i) := by
  intro f
  induction f with
  | zero =>
    intro n h x hh _ hn hf _
    have := hh.length
    omega
  | succ f ih =>
    intro n h x hh hx hn hf hd
    unfold each
    cases hi : h[n]? with
    | none =>
      dsimp only
      refine ⟨fun i hi ha => ⟨i, hi, ha⟩, fun i hi => .inl hi, (fun e => by cases e), fun _ i hi' => ?_⟩
      obtain ⟨m, hm, rfl⟩ := List.getElem_of_mem hi'
      have hlen : h.length ≤ n := List.getElem?_eq_none_iff.1 hi
      exact hd m _ (by omega) (by simp [hm])
    | some i =>
      have hih : i ∈ h := List.mem_of_getElem? hi
      have hlt : n < h.length := by
        rcases Nat.lt_or_ge n h.length with h1 | h1
        · exact h1
        · rw [List.getElem?_eq_none h1] at hi; cases hi
      have hl := look_met hr (left := l) (hh.2 i hih) hh hx
      have back : ∀ j ∈ (look c l i h x).1, Acc c l j → ∃ k ∈ h, Acc c l k := fun j hj ha => by
        rcases look_sound j hj with h1 | h1
        · exact ⟨j, h1, ha⟩
        · exact ⟨i, hih, ha.leads h1⟩
      have nx : ∀ j ∈ (look c l i h x).2.1, j ∈ x ∨ (Onward c l i ∧ j = i + 1) := fun j hj => (look_next j).1 hj
      have sub : ∀ j ∈ h, j ∈ (look c l i h x).1 := fun j hj => hl.2.2.subset hj
      dsimp only
      split
      · rename_i hy
        refine ⟨back, fun j hj => (nx j hj).imp id (fun ⟨h1, h2⟩ => ⟨i, sub i hih, h1, h2⟩), fun _ => ⟨i, sub i hih, look_yes.1 hy⟩, (fun e => by cases e)⟩
      · rename_i hy
        have hstep := ih (n + 1) (look c l i h x).1 (look c l i h x).2.1 hl.1 hl.2.1 (by have := hl.2.2.length_le; omega) (by omega) (fun m j hm hj => by
          rcases Nat.lt_or_ge m n with h1 | h1
          · have hj' : h[m]? = some j := by
              have : m < h.length := by omega
              rw [← hj, List.getElem?_eq_getElem this, (List.prefix_iff_getElem?.1 hl.2.2) m this]
            obtain ⟨d1, d2, d3⟩ := hd m j h1 hj'
            exact ⟨d1, fun k hk => sub k (d2 k hk), fun ho => (look_next _).2 (.inl (d3 ho))⟩
          · obtain rfl : m = n := by omega
            have hji : j = i := by
              have h2 := (List.prefix_iff_getElem?.1 hl.2.2) m hlt
              rw [hj] at h2
              have h3 : h[m]? = some h[m] := List.getElem?_eq_getElem hlt
              rw [hi] at h3
              rw [Option.some.inj h2, ← Option.some.inj h3]
            subst hji
            exact ⟨fun e => hy (look_yes.2 e), fun k hk => look_complete k hk, fun ho => (look_next _).2 (.inr ⟨ho, rfl⟩)⟩)
        obtain ⟨s1, s2, s3, s4⟩ := hstep
        have hpre := (each_met hr l f (n + 1) _ _ hl.1 hl.2.1).2.2
        refine ⟨fun j hj ha => ?_, fun j hj => ?_, s3, s4⟩
        · obtain ⟨k, hk, hk2⟩ := s1 j hj ha
          exact back k hk hk2
        · rcases s2 j hj with h1 | h1
          · rcases nx j h1 with h2 | ⟨h2, h3⟩
            · exact .inl h2
            · exact .inr ⟨i, hpre.subset (sub i hih), h2, h3⟩
          · exact .inr h1

/-- Where all that are met were looked at, and none says yes, what comes to Yes does so at the next point. -/
theorem done_acc {c : Co} {l : List Int} {h x : List Nat} (hd : ∀ i ∈ h, Done c l h x i) : ∀ {m : List Int} {i : Nat}, Acc c m i → m = l → i ∈ h → ∃ p q, l = p :: q ∧ ∃ k ∈ x, Acc c q k := by
  intro m i ha
  induction ha with
  | yes h5 => intro _ hi; exact absurd h5 (hd _ hi).1
  | @take p q i h1 h2 h3 _ =>
    intro e hi
    subst e
    exact ⟨p, q, rfl, i + 1, (hd _ hi).2.2 ⟨h1, h2⟩, h3⟩
  | splitA h1 _ ih => intro e hi; exact ih e ((hd _ hi).2.1 _ (.inl ⟨h1, .inl rfl⟩))
  | splitB h1 _ ih => intro e hi; exact ih e ((hd _ hi).2.1 _ (.inl ⟨h1, .inr rfl⟩))
  | jump h1 _ ih => intro e hi; exact ih e ((hd _ hi).2.1 _ (.inr (.inl ⟨h1, rfl⟩)))
  | stop h1 _ ih => intro e hi; subst e; exact ih rfl ((hd _ hi).2.1 _ (.inr (.inr ⟨h1, by simp, rfl⟩)))

/-- WHAT RUNS COMES TO YES from some of the first ones, and what comes to Yes runs. -/
theorem run_acc {c : Co} (hr : right c = true) : ∀ (l : List Int) (h : List Nat), Met c.ins.length h → ((run c l h).1 = true ↔ ∃ i ∈ h, Acc c l i) := by
  intro l
  induction l with
  | nil =>
    intro h hh
    have hs := each_spec hr [] (c.ins.length + 1) 0 h [] hh (met_nil _) (Nat.zero_le _) (by omega) (fun m i hm => absurd hm (by omega))
    have hp := (each_met hr [] (c.ins.length + 1) 0 h [] hh (met_nil _)).2.2
    unfold run
    obtain ⟨s1, _, s3, s4⟩ := hs
    constructor
    · intro hy
      obtain ⟨i, hi, h5⟩ := s3 hy
      exact s1 i hi (.yes h5)
    · rintro ⟨i, hi, ha⟩
      cases hy : (each c [] (c.ins.length + 1) 0 h []).2.2.1 with
      | true => rfl
      | false =>
        obtain ⟨p, q, e, _⟩ := done_acc (s4 hy) ha rfl (hp.subset hi)
        cases e
  | cons p l ih =>
    intro h hh
    have hs := each_spec hr (p :: l) (c.ins.length + 1) 0 h [] hh (met_nil _) (Nat.zero_le _) (by omega) (fun m i hm => absurd hm (by omega))
    have hm := each_met hr (p :: l) (c.ins.length + 1) 0 h [] hh (met_nil _)
    unfold run
    obtain ⟨s1, s2, s3, s4⟩ := hs
    cases hy : (each c (p :: l) (c.ins.length + 1) 0 h []).2.2.1 with
    | true =>
      rw [if_pos rfl]
      obtain ⟨i, hi, h5⟩ := s3 hy
      exact ⟨fun _ => s1 i hi (.yes h5), fun _ => rfl⟩
    | false =>
      rw [if_neg (by decide)]
      dsimp only
      rw [ih _ hm.2.1]
      constructor
      · rintro ⟨k, hk, ha⟩
        rcases s2 k hk with h1 | ⟨j, hj, ho, rfl⟩
        · cases h1
        · exact s1 j hj (.take ho.1 ho.2 ha)
      · rintro ⟨i, hi, ha⟩
        obtain ⟨p', q, e, k, hk, hk2⟩ := done_acc (s4 hy) ha rfl (hm.2.2.subset hi)
        cases e
        exact ⟨k, hk, hk2⟩

end VM
