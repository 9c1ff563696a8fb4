/- The set of points of which a question says yes, out of the places where it may turn: no program is named here. -/
import Derived.Test.YtefcjoomongcmaaGreatDoorSetMath
namespace RS

/-- One more range, from a to h, behind the last one: joined to it where it lies beside it. -/
def addR : List Rg → Int → Int → List Rg
  | [], a, h => [(a, h)]
  | [r], a, h => if r.2 + 1 = a then [(r.1, h)] else [r, (a, h)]
  | r :: q :: s, a, h => r :: addR (q :: s) a h

/-- The ranges that come of the places, from the first on. -/
def toldFrom (f : Int → Bool) (out : List Rg) : List Int → List Rg
  | a :: b :: l => toldFrom f (if a = b ∨ f a = false then out else addR out a (b - 1)) (b :: l)
  | _ => out

theorem toldFrom_cons (f : Int → Bool) (out : List Rg) (a b : Int) (l : List Int) : toldFrom f out (a :: b :: l) = toldFrom f (if a = b ∨ f a = false then out else addR out a (b - 1)) (b :: l) := rfl

theorem addR_right : ∀ (s : List Rg) (c a h : Int), rightFrom c s = true → (∀ p, mem s p → p < a) → c + 1 < a → a ≤ h → h ≤ 1114111 →
    rightFrom c (addR s a h) = true ∧ ∀ p, mem (addR s a h) p ↔ mem s p ∨ (a ≤ p ∧ p ≤ h) := by
  intro s
  induction s with
  | nil =>
    intro c a h _ _ hc ha hh
    refine ⟨?_, fun p => ?_⟩
    · rw [addR, rightFrom_cons]; exact ⟨hc, ha, hh, rfl⟩
    · simp [addR, mem]
  | cons r s ih =>
    intro c a h hr hm hc ha hh
    rw [rightFrom_cons] at hr
    have hra : r.2 < a := hm r.2 (by rw [mem_cons]; exact .inl ⟨hr.2.1, Int.le_refl _⟩)
    cases s with
    | nil =>
      rw [addR]
      split
      · rename_i e
        refine ⟨?_, fun p => ?_⟩
        · rw [rightFrom_cons]; exact ⟨hr.1, by show r.1 ≤ h; omega, hh, rfl⟩
        · simp only [mem_cons, mem_nil, or_false]
          constructor <;> intro h <;> omega
      · rename_i e
        refine ⟨?_, fun p => ?_⟩
        · rw [rightFrom_cons, rightFrom_cons]; exact ⟨hr.1, hr.2.1, hr.2.2.1, by show r.2 + 1 < a; omega, ha, hh, rfl⟩
        · simp only [mem_cons, mem_nil, or_false]
    | cons q s =>
      have h2 := hr.2.2.2
      have hq := h2
      rw [rightFrom_cons] at hq
      have hqa : q.2 < a := hm q.2 (by rw [mem_cons, mem_cons]; exact .inr (.inl ⟨hq.2.1, Int.le_refl _⟩))
      obtain ⟨k1, k2⟩ := ih r.2 a h h2 (fun p hp => hm p (by rw [mem_cons]; exact .inr hp)) (by omega) ha hh
      rw [addR]
      refine ⟨?_, fun p => ?_⟩
      · rw [rightFrom_cons]; exact ⟨hr.1, hr.2.1, hr.2.2.1, k1⟩
      · rw [mem_cons, k2, mem_cons r (q :: s) p, or_assoc]

/-- Where a question turns nowhere but at the places of a rising list, it is the same from each one to the next. -/
theorem same_between {f : Int → Bool} {a b : Int} (h : ∀ p, a < p → p < b → f p = f (p - 1)) : ∀ (n : Nat) (p : Int), p = a + n → p < b → f p = f a := by
  intro n
  induction n with
  | zero => intro p e _; rw [e]; simp
  | succ n ih =>
    intro p e hp
    rw [h p (by omega) hp]
    exact ih (p - 1) (by omega) (by omega)

theorem toldFrom_ok (f : Int → Bool) : ∀ (l : List Int) (a : Int) (out : List Rg), (a :: l).Pairwise (· ≤ ·) → (∀ x ∈ a :: l, 0 ≤ x ∧ x ≤ 1114112) → (a :: l).getLast (by simp) = 1114112 →
    (∀ p, a < p → p ≤ 1114111 → f p ≠ f (p - 1) → p ∈ a :: l) → right out = true → (∀ p, mem out p ↔ 0 ≤ p ∧ p < a ∧ f p = true) →
    right (toldFrom f out (a :: l)) = true ∧ ∀ p, mem (toldFrom f out (a :: l)) p ↔ 0 ≤ p ∧ p ≤ 1114111 ∧ f p = true := by
  intro l
  induction l with
  | nil =>
    intro a out _ _ hlast _ hr hm
    simp at hlast
    subst hlast
    refine ⟨hr, fun p => ?_⟩
    rw [toldFrom.eq_2 _ _ _ (by simp), hm]
    constructor <;> intro h <;> refine ⟨h.1, by omega, h.2.2⟩
  | cons b l ih =>
    intro a out hp hin hlast hturn hr hm
    rw [toldFrom_cons]
    have hab : a ≤ b := (List.pairwise_cons.1 hp).1 b (by simp)
    have hp2 := (List.pairwise_cons.1 hp).2
    have ha := hin a (by simp)
    have hb := hin b (by simp)
    have hlast2 : (b :: l).getLast (by simp) = 1114112 := by rw [← hlast]; rfl
    have hturn2 : ∀ p, b < p → p ≤ 1114111 → f p ≠ f (p - 1) → p ∈ b :: l := by
      intro p h1 h2 h3
      have := hturn p (by omega) h2 h3
      rcases List.mem_cons.1 this with rfl | h
      · omega
      · exact h
    have hconst : ∀ p, a ≤ p → p < b → f p = f a := by
      intro p h1 h2
      refine same_between (b := b) (fun q h3 h4 => ?_) (p - a).toNat p (by omega) h2
      by_cases e : f q = f (q - 1)
      · exact e
      · exfalso
        have := hturn q h3 (by omega) e
        rcases List.mem_cons.1 this with rfl | h
        · omega
        · rcases List.mem_cons.1 h with rfl | h
          · omega
          · have := (List.pairwise_cons.1 hp2).1 q h
            omega
    by_cases hc : a = b ∨ f a = false
    · rw [if_pos hc]
      refine ih b out hp2 (fun x hx => hin x (List.mem_cons_of_mem _ hx)) hlast2 hturn2 hr fun p => ?_
      rw [hm]
      rcases hc with rfl | hc
      · exact Iff.rfl
      · constructor
        · intro h; exact ⟨h.1, by omega, h.2.2⟩
        · intro h
          refine ⟨h.1, ?_, h.2.2⟩
          by_cases h1 : p < a
          · exact h1
          · have := hconst p (by omega) h.2.1
            rw [hc, h.2.2] at this
            cases this
    · rw [if_neg hc]
      have hne : a ≠ b := fun e => hc (.inl e)
      have hfa : f a = true := by cases e : f a with | true => rfl | false => exact absurd (.inr e) hc
      obtain ⟨k1, k2⟩ := addR_right out (-2) a (b - 1) hr (fun p hp => ((hm p).1 hp).2.1) (by omega) (by omega) (by omega)
      refine ih b _ hp2 (fun x hx => hin x (List.mem_cons_of_mem _ hx)) hlast2 hturn2 k1 fun p => ?_
      rw [k2, hm]
      constructor
      · rintro (h | h)
        · exact ⟨h.1, by omega, h.2.2⟩
        · exact ⟨by omega, by omega, by rw [hconst p h.1 (by omega)]; exact hfa⟩
      · intro h
        by_cases h1 : p < a
        · exact .inl ⟨h.1, h1, h.2.2⟩
        · exact .inr ⟨by omega, by omega⟩

/-- The places that one range tells. -/
def placesR (r : Rg) : List Int := (if 0 ≤ r.1 ∧ r.1 ≤ 1114111 then [r.1] else []) ++ (if 0 ≤ r.2 ∧ r.2 ≤ 1114111 then [r.2 + 1] else [])
def places (s : List Rg) : List Int := s.flatMap placesR
def allPlaces (ls : List (List Rg)) : List Int := [0, 1114112] ++ ls.flatMap places

theorem placesR_in (r : Rg) : ∀ x ∈ placesR r, 0 ≤ x ∧ x ≤ 1114112 := by
  intro x hx
  unfold placesR at hx
  rcases List.mem_append.1 hx with h | h
  · split at h
    · simp at h; omega
    · simp at h
  · split at h
    · simp at h; omega
    · simp at h

theorem allPlaces_in (ls : List (List Rg)) : ∀ x ∈ allPlaces ls, 0 ≤ x ∧ x ≤ 1114112 := by
  intro x hx
  unfold allPlaces at hx
  rcases List.mem_append.1 hx with h | h
  · simp at h; omega
  · obtain ⟨s, _, h⟩ := List.mem_flatMap.1 h
    obtain ⟨r, _, h⟩ := List.mem_flatMap.1 h
    exact placesR_in r x h

/-- Being in ranges turns nowhere but at their places. -/
theorem has_turns (s : List Rg) (p : Int) (h0 : 0 < p) (h1 : p ≤ 1114111) (h : has s p ≠ has s (p - 1)) : p ∈ places s := by
  induction s with
  | nil => exact absurd rfl h
  | cons r s ih =>
    have e : ∀ q, has (r :: s) q = (decide (r.1 ≤ q ∧ q ≤ r.2) || has s q) := by intro q; simp [has]
    rw [e, e] at h
    have ep : places (r :: s) = placesR r ++ places s := by simp [places]
    rw [ep]
    by_cases hs : has s p = has s (p - 1)
    · refine List.mem_append_left _ ?_
      rw [hs] at h
      have hd : decide (r.1 ≤ p ∧ p ≤ r.2) ≠ decide (r.1 ≤ p - 1 ∧ p - 1 ≤ r.2) := fun e => h (by rw [e])
      have hd2 : r.1 = p ∨ r.2 + 1 = p := by
        by_cases a1 : r.1 = p
        · exact .inl a1
        · by_cases a2 : r.2 + 1 = p
          · exact .inr a2
          · exfalso
            apply hd
            rw [decide_eq_decide]
            omega
      unfold placesR
      rcases hd2 with e1 | e1
      · refine List.mem_append_left _ ?_
        rw [if_pos (by omega), e1]
        simp
      · refine List.mem_append_right _ ?_
        rw [if_pos (by omega), e1]
        simp
    · exact List.mem_append_right _ (ih hs)

/-- What is told of a question that turns nowhere but at these places. -/
theorem told_ok (f : Int → Bool) (ls : List (List Rg)) (l : List Int) (hp : l.Perm (allPlaces ls)) (hs : l.Pairwise (· ≤ ·)) (hf : ∀ p, 0 < p → p ≤ 1114111 → f p ≠ f (p - 1) → ∃ s ∈ ls, p ∈ places s) :
    right (toldFrom f [] l) = true ∧ ∀ p, mem (toldFrom f [] l) p ↔ 0 ≤ p ∧ p ≤ 1114111 ∧ f p = true := by
  have hin : ∀ x ∈ l, 0 ≤ x ∧ x ≤ 1114112 := fun x hx => allPlaces_in ls x (hp.mem_iff.1 hx)
  have h0 : (0 : Int) ∈ l := hp.mem_iff.2 (by simp [allPlaces])
  have h1 : (1114112 : Int) ∈ l := hp.mem_iff.2 (by simp [allPlaces])
  cases l with
  | nil => simp at h0
  | cons a l =>
    have ha : a = 0 := by
      rcases List.mem_cons.1 h0 with h | h
      · exact h.symm
      · have h2 := (List.pairwise_cons.1 hs).1 0 h
        have h3 := (hin a (by simp)).1
        omega
    have hlast : (a :: l).getLast (by simp) = 1114112 := by
      have h2 := (hin _ (List.getLast_mem (l := a :: l) (by simp))).2
      have h3 : (1114112 : Int) ≤ (a :: l).getLast (by simp) := by
        have := List.pairwise_iff_getElem.1 hs
        obtain ⟨i, hi, e⟩ := List.getElem_of_mem h1
        rw [List.getLast_eq_getElem]
        rcases Nat.lt_or_ge i ((a :: l).length - 1) with h4 | h4
        · rw [← e]; exact this i _ hi (by simp) h4
        · have : i = (a :: l).length - 1 := by omega
          subst this
          rw [e]
          exact Int.le_refl _
      omega
    subst ha
    refine toldFrom_ok f l 0 [] hs hin hlast (fun p h2 h3 h4 => ?_) rfl (fun p => ?_)
    · obtain ⟨s, hs1, hs2⟩ := hf p h2 h3 h4
      refine hp.mem_iff.2 ?_
      unfold allPlaces
      exact List.mem_append_right _ (List.mem_flatMap.2 ⟨s, hs1, hs2⟩)
    · rw [mem_nil]
      constructor
      · intro h; exact h.elim
      · intro h; omega

end RS
