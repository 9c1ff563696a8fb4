/- The walk of the statement SetTells. -/
import Derived.Test.YtefcjoomongcmaaGreatDoorRRef
import Derived.Test.YtefcjoomongcmaaGreatDoorRParseT
import Derived.Test.YtefcjoomongcmaaGreatDoorRSame
import Derived.Test.YtefcjoomongcmaaGreatDoorSAlg
namespace RS

theorem eq_of {A X S : List Rg} (hX : right X = true) (h : ∀ p, mem X p ↔ 0 ≤ p ∧ p ≤ 1114111 ∧ has A p = true) (hof : IsOf A S) : S = X :=
  hof.unique ⟨hX, fun p => by rw [h, has_iff]⟩

theorem eq_or {X Y O R : List Rg} (hX : right X = true) (hY : right Y = true) (ho : IsOf (X ++ Y) O) (hR : right R = true) (h : ∀ p, mem R p ↔ 0 ≤ p ∧ p ≤ 1114111 ∧ (has X p || has Y p) = true) : O = R := by
  refine right_eq ho.1 hR fun p => ?_
  rw [h, ho.or hX hY, Bool.or_eq_true, has_iff, has_iff]
  constructor
  · rintro (h | h)
    · have := right_lt hX h; exact ⟨this.1, this.2, .inl h⟩
    · have := right_lt hY h; exact ⟨this.1, this.2, .inr h⟩
  · exact fun h => h.2.2

theorem eq_and {X Y R : List Rg} (hX : right X = true) (hY : right Y = true) (hR : right R = true) (h : ∀ p, mem R p ↔ 0 ≤ p ∧ p ≤ 1114111 ∧ (has X p && has Y p) = true) : andL X Y = R := by
  refine right_eq (andL_right hX hY) hR fun p => ?_
  rw [h, andL_mem hX hY, Bool.and_eq_true, has_iff, has_iff]
  constructor
  · intro h
    have := right_lt hX h.1
    exact ⟨this.1, this.2, h⟩
  · exact fun h => h.2.2

theorem eq_less {X Y R : List Rg} (hX : right X = true) (hY : right Y = true) (hR : right R = true) (h : ∀ p, mem R p ↔ 0 ≤ p ∧ p ≤ 1114111 ∧ (has X p && !has Y p) = true) : lessL X Y = R := by
  refine right_eq (lessL_right hX hY) hR fun p => ?_
  have e : (!has Y p) = true ↔ ¬ mem Y p := by rw [← has_iff]; cases has Y p <;> simp
  rw [h, lessL_mem hX hY, Bool.and_eq_true, has_iff, e]
  constructor
  · intro h
    have := right_lt hX h.1
    exact ⟨this.1, this.2, h⟩
  · exact fun h => h.2.2

theorem eq_not {X R : List Rg} (hX : right X = true) (hR : right R = true) (h : ∀ p, mem R p ↔ 0 ≤ p ∧ p ≤ 1114111 ∧ (!has X p) = true) : notL X = R := by
  refine right_eq (notL_right hX) hR fun p => ?_
  have e : (!has X p) = true ↔ ¬ mem X p := by rw [← has_iff]; cases has X p <;> simp
  rw [h, notL_mem hX, e]

end RS
namespace Go.Proofs.YtefcjoomongcmaaGreatDoor
open Go.RowKit Go.Shelf

set_option maxHeartbeats 1000000 in
set_option maxRecDepth 100000 in
theorem rbare (n : Int) (w : World) : Calls Tryz.prog 47 #[.int .i64 n] w fun e w' => e = .returned (.agg #[.int .i64 n, .int .i64 (-1)]) ∧ Below w.heap.size w w' := by
  go_enter Tryz.func47, Tryz.ntmps47
  go_wp2
  exact bodyPost_ret (v := .agg #[.int .i64 n, .int .i64 (-1)]) (by simp [results, Tryz.results47, go_sem]) rfl ⟨rfl, (Below.refl _ _).alloc (Nat.le_refl _) _⟩

set_option maxHeartbeats 1000000 in
set_option maxRecDepth 100000 in
theorem bare_nil (w : World) : Calls Tryz.prog 21 #[.nilIface, .int .i64 0] w fun e w' => e = .returned (.bool true) ∧ Below w.heap.size w w' := by
  go_enter Tryz.func21, Tryz.ntmps21
  go_wp2_with fail
  refine (rbare 0 w).mono ?_
  rintro e w1 ⟨rfl, hb1⟩
  go_wp2_with fail
  refine (is_nil w1).mono ?_
  rintro e w2 ⟨rfl, hb2⟩
  have hb := hb1.trans (hb2.mono hb1.size)
  clear hb1 hb2
  go_wp2_with fail
  go_ret
  exact ⟨rfl, hb⟩

theorem ET.later {w w' : World} (h : ET w) (hb : Below w.heap.size w w') : ET w' := by
  have hl := lt_cell h
  simp only at hl
  exact h.below hb hl

set_option maxHeartbeats 1000000 in
set_option maxRecDepth 100000 in
theorem bare_errno (n : Int) (w : World) (hT : ET w) : Calls Tryz.prog 21 #[.iface 31 (.int .i64 n), .int .i64 n] w fun e w' => e = .returned (.bool true) ∧ Below w.heap.size w w' := by
  have HT : Hid (ET w) := hT
  clear hT
  go_enter Tryz.func21, Tryz.ntmps21
  go_wp2_with fail
  refine (rbare n w).mono ?_
  rintro e w1 ⟨rfl, hb1⟩
  go_wp2_with fail
  refine (is_errno n w1 (HT.out.later hb1)).mono ?_
  rintro e w2 ⟨rfl, hb2⟩
  have hb := hb1.trans (hb2.mono hb1.size)
  clear hb1 hb2
  go_wp2_with fail
  go_ret
  exact ⟨rfl, hb⟩

theorem wpList_wanted {P : Program} {w : World} {ops : Array Oper} {rest : List Oper} {o : Oper} {a : Act} {Q : Exit → Act → World → Prop} (hw : Region.wanted o (yielded ops a.tmps) = true) (h : wpList P ops Q ({ o with guard := none } :: rest) a w) : wpList P ops Q (o :: rest) a w := by
  unfold wpList at h ⊢
  rw [if_pos hw]
  rw [if_pos (show Region.wanted { o with guard := none } (yielded ops a.tmps) = true by simp [Region.wanted])] at h
  exact h

/-- append([]api.Range{}, l...): a copy. -/
theorem wpList_copy {w : World} {ops : Array Oper} {rest : List Oper} {o : Oper} {a : Act} {Q : Exit → Act → World → Prop} (hw : Region.wanted o (yielded ops a.tmps) = true) (s x : Operand)
    (ho : o.op = .call { callee := .builtin .append, args := #[s, x], argTypes := #[22, 22] }) (B : Nat) (v u : Value) (t : List RS.Rg) (hs : a.eval s = v) (hx : a.eval x = u)
    (hown : w.ownsRow B 42 2 v 0 []) (hu : RgAt w.heap.size w u t) (hB : B ≤ w.heap.size) (hl : t.length ≤ 1000000)
    (h : ∀ v' w', w'.ownsRow B 42 2 v' t.length (flat2 t) → Below B w w' → wpList Tryz.prog ops Q rest (a.put o.dst v') w') : wpList Tryz.prog ops Q (o :: rest) a w := by
  refine wpList_wanted hw ?_
  obtain ⟨i0, hi, hz0, hz1, hz2⟩ := info_parts info53
  obtain ⟨ao, cap, rfl, hcap, hcell⟩ := hu
  cases ao with
  | none =>
    have ht : t = [] := by
      by_cases ht : t = []
      · exact ht
      · obtain ⟨b, off, e, _⟩ := hcell ht
        cases e
    subst ht
    have hc0 : cap = 0 := hcap.2 rfl
    subst hc0
    refine wpList_append_own_none rfl s x 22 ho B 42 i0 2 Tryz.underlying22 hi v _ _ hs hown hx ?_
    exact h v w hown (Below.refl _ _)
  | some ad =>
    obtain ⟨b, off, spot⟩ := ad
    refine wpList_append_own _ rfl s x 22 ho B 42 i0 (.agg #[.int .i64 0, .int .i64 0]) 2 16 Tryz.underlying22 hi hz0 hz1 hz2 rfl (by decide) v _ _ hs hown ⟨b, off, spot⟩ t.length cap (flat2 t) hx (flat2_length t) ?_ (flat2_one t) (by unfold maxLen; omega) (by omega) hB ?_
    · by_cases ht : t = []
      · subst ht; intro j u hj; simp [flat2] at hj
      · obtain ⟨b', off', e, _, hc⟩ := hcell ht
        simp only [Option.some.injEq, Addr.mk.injEq] at e
        obtain ⟨rfl, rfl, rfl⟩ := e
        exact flat2_at hc
    · intro v' w' hown' hg _
      refine h v' w' ?_ ((Below.refl _ w).grown hg hB (fun k hk => (hown.lt k hk).1))
      simpa using hown'

theorem midText_ge (s : List RS.Rg) : ∀ k, s.length ≤ (RS.midText k s).length := by
  induction s with
  | nil => intro k; simp
  | cons r s ih =>
    intro k
    have h1 := ih (k + 1)
    have h2 : 1 ≤ (RS.rgText r).length := List.length_pos_iff.2 (rgText_ne r)
    rw [RS.midText, List.length_append, List.length_append, List.length_cons]
    omega

/-- What the tables hold. -/
def KT (w : World) : Prop := TZ w ∧ EV w ∧ ML w ∧ TB w ∧ ET w ∧ 11 < w.heap.size
theorem KT.below {w w' : World} (h : KT w) (hb : Below w.heap.size w w') : KT w' :=
  ⟨h.1.below hb h.2.2.2.2.2, h.2.1.below hb h.2.2.2.2.2, h.2.2.1.below hb h.2.2.2.2.2, h.2.2.2.1.below hb, h.2.2.2.2.1.later hb, Nat.lt_of_lt_of_le h.2.2.2.2.2 hb.size⟩

end Go.Proofs.YtefcjoomongcmaaGreatDoor
