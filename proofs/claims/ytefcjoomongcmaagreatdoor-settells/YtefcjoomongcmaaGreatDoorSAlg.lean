/- What the algebra of sets comes to: no program is named here. -/
import Derived.Test.YtefcjoomongcmaaGreatDoorSetMath
namespace RS

theorem alg_not_or {X Y r : List Rg} (hX : right X = true) (hY : right Y = true) (hr : IsOf (X ++ Y) r) : andL (notL X) (notL Y) = notL r := by
  refine right_eq (andL_right (notL_right hX) (notL_right hY)) (notL_right hr.1) fun p => ?_
  rw [andL_mem (notL_right hX) (notL_right hY), notL_mem hX, notL_mem hY, notL_mem hr.1, hr.or hX hY]
  constructor
  · rintro ⟨⟨h1, h2, h3⟩, _, _, h4⟩
    exact ⟨h1, h2, fun h => h.elim h3 h4⟩
  · rintro ⟨h1, h2, h3⟩
    exact ⟨⟨h1, h2, fun h => h3 (.inl h)⟩, h1, h2, fun h => h3 (.inr h)⟩

theorem alg_not_not {X : List Rg} (hX : right X = true) : notL (notL X) = X := by
  refine right_eq (notL_right (notL_right hX)) hX fun p => ?_
  rw [notL_mem (notL_right hX), notL_mem hX]
  constructor
  · rintro ⟨h1, h2, h3⟩
    exact Classical.byContradiction fun h => h3 ⟨h1, h2, h⟩
  · intro h
    have := right_lt hX h
    exact ⟨this.1, this.2, fun h' => h'.2.2 h⟩

theorem alg_or_comm {X Y r r' : List Rg} (hX : right X = true) (hY : right Y = true) (hr : IsOf (X ++ Y) r) (hr' : IsOf (Y ++ X) r') : r' = r := by
  refine right_eq hr'.1 hr.1 fun p => ?_
  rw [hr.or hX hY, hr'.or hY hX]
  exact Or.comm

theorem alg_and_or {X Y Z r r' : List Rg} (hX : right X = true) (hY : right Y = true) (hZ : right Z = true) (hr : IsOf (Y ++ Z) r) (hr' : IsOf (andL X Y ++ andL X Z) r') : r' = andL X r := by
  refine right_eq hr'.1 (andL_right hX hr.1) fun p => ?_
  rw [hr'.or (andL_right hX hY) (andL_right hX hZ), andL_mem hX hY, andL_mem hX hZ, andL_mem hX hr.1, hr.or hY hZ]
  constructor
  · rintro (⟨h1, h2⟩ | ⟨h1, h2⟩)
    · exact ⟨h1, .inl h2⟩
    · exact ⟨h1, .inr h2⟩
  · rintro ⟨h1, h2 | h2⟩
    · exact .inl ⟨h1, h2⟩
    · exact .inr ⟨h1, h2⟩

theorem alg_parts {X Y r : List Rg} (hX : right X = true) (hY : right Y = true) (hr : IsOf (lessL X Y ++ andL X Y) r) : r = X := by
  refine right_eq hr.1 hX fun p => ?_
  rw [hr.or (lessL_right hX hY) (andL_right hX hY), lessL_mem hX hY, andL_mem hX hY]
  constructor
  · rintro (⟨h, _⟩ | ⟨h, _⟩) <;> exact h
  · intro h
    by_cases h' : mem Y p
    · exact .inr ⟨h, h'⟩
    · exact .inl ⟨h, h'⟩

theorem alg_none {X : List Rg} (hX : right X = true) : andL X (notL X) = [] := by
  refine right_eq (andL_right hX (notL_right hX)) (t := []) rfl fun p => ?_
  rw [andL_mem hX (notL_right hX), notL_mem hX, mem_nil]
  exact ⟨fun h => h.2.2.2 h.1, False.elim⟩

theorem has_or {X Y r : List Rg} (hX : right X = true) (hY : right Y = true) (hr : IsOf (X ++ Y) r) (p : Int) : has r p = (has X p || has Y p) := by
  rw [Bool.eq_iff_iff, Bool.or_eq_true, has_iff, has_iff, has_iff]
  exact hr.or hX hY p

theorem has_and {X Y : List Rg} (hX : right X = true) (hY : right Y = true) (p : Int) : has (andL X Y) p = (has X p && has Y p) := by
  rw [Bool.eq_iff_iff, Bool.and_eq_true, has_iff, has_iff, has_iff]
  exact andL_mem hX hY p

theorem has_less {X Y : List Rg} (hX : right X = true) (hY : right Y = true) (p : Int) : has (lessL X Y) p = (has X p && !has Y p) := by
  rw [Bool.eq_iff_iff, Bool.and_eq_true, Bool.not_eq_true', ← Bool.not_eq_true, has_iff, has_iff, has_iff]
  exact lessL_mem hX hY p

theorem has_not {X : List Rg} (hX : right X = true) {p : Int} (h0 : 0 ≤ p) (h1 : p ≤ 1114111) : has (notL X) p = !has X p := by
  rw [Bool.eq_iff_iff, Bool.not_eq_true', ← Bool.not_eq_true, has_iff, has_iff]
  exact ⟨fun h => ((notL_mem hX p).1 h).2.2, fun h => (notL_mem hX p).2 ⟨h0, h1, h⟩⟩

theorem has_of {l X : List Rg} (h : IsOf l X) {p : Int} (h0 : 0 ≤ p) (h1 : p ≤ 1114111) : has l p = has X p := by
  rw [Bool.eq_iff_iff, has_iff, has_iff, h.2]
  exact ⟨fun h => ⟨h0, h1, h⟩, fun h => h.2.2⟩

end RS
