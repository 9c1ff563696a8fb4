/- Code that stands behind other instructions that are jumped over: plain. No program is named here. -/
import Derived.Test.YtddjppkpgflbjaaVmMath
namespace VM

/-- An instruction whose targets stand k further on. -/
def moveIn (k : Nat) (x : In) : In := if x.op = 2 then ⟨x.op, x.a + k, x.b + k⟩ else if x.op = 3 then ⟨x.op, x.a + k, x.b⟩ else x

/-- Code behind k instructions that are jumped over. -/
def moved (k : Nat) (c : Co) : Co := ⟨c.sets, ⟨3, k, 0⟩ :: List.replicate (k - 1) ⟨5, 0, 0⟩ ++ c.ins.map (moveIn k)⟩

theorem moved_length {k : Nat} (c : Co) (hk : 1 ≤ k) : (moved k c).ins.length = k + c.ins.length := by
  simp [moved]; omega

theorem moved_first {k : Nat} (c : Co) : at_ (moved k c) 0 = ⟨3, k, 0⟩ := by simp [at_, moved]

theorem moved_at {k : Nat} (c : Co) (hk : 1 ≤ k) {i : Nat} (hi : i < c.ins.length) : at_ (moved k c) (i + k) = moveIn k (at_ c i) := by
  rw [at_get c hi]
  unfold at_ moved
  dsimp only
  rw [List.getD_eq_getElem?_getD, List.getElem?_append_right (by simp; omega)]
  simp only [List.length_cons, List.length_replicate]
  rw [show i + k - (k - 1 + 1) = i by omega]
  simp [hi]

theorem moveIn_op (k : Nat) (x : In) : (moveIn k x).op = x.op := by
  unfold moveIn
  split
  · rfl
  · split <;> rfl

theorem right_op {c : Co} (h : right c = true) {i : Nat} (hi : i < c.ins.length) : (at_ c i).op = 1 ∨ (at_ c i).op = 2 ∨ (at_ c i).op = 3 ∨ (at_ c i).op = 4 ∨ (at_ c i).op = 5 := by
  have := right_at h hi
  unfold rightIn at this
  by_cases h1 : (at_ c i).op = 1
  · simp [h1]
  by_cases h2 : (at_ c i).op = 2
  · simp [h2]
  by_cases h3 : (at_ c i).op = 3
  · simp [h3]
  by_cases h4 : (at_ c i).op = 4
  · simp [h4]
  by_cases h5 : (at_ c i).op = 5
  · simp [h5]
  · simp [h1, h2, h3, h4, h5] at this

theorem moveIn_right {n m k : Nat} (hk : 1 ≤ k) {x : In} (h : rightIn n m x = true) : rightIn (k + n) m (moveIn k x) = true := by
  unfold rightIn at h ⊢
  rw [moveIn_op]
  by_cases h1 : x.op = 1
  · have e : moveIn k x = x := by unfold moveIn; simp [h1]
    rw [e]
    simpa [h1] using h
  by_cases h2 : x.op = 2
  · have e : moveIn k x = ⟨x.op, x.a + k, x.b + k⟩ := by unfold moveIn; simp [h2]
    rw [e]
    simp [h2, isNum] at h ⊢
    omega
  by_cases h3 : x.op = 3
  · have e : moveIn k x = ⟨x.op, x.a + k, x.b⟩ := by unfold moveIn; simp [h3]
    rw [e]
    simp [h3, isNum] at h ⊢
    omega
  have e : moveIn k x = x := by unfold moveIn; simp [h2, h3]
  rw [e]
  simpa [h1, h2, h3] using h

theorem lastOp_append (l : List In) {m : List In} (h : m ≠ []) : lastOp (l ++ m) = lastOp m := by
  unfold lastOp
  cases e : m.getLast? with
  | none => exact absurd (List.getLast?_eq_none_iff.1 e) h
  | some x => simp [List.getLast?_append, e]

theorem lastOp_map (k : Nat) (m : List In) : lastOp (m.map (moveIn k)) = lastOp m := by
  unfold lastOp
  rw [List.getLast?_map]
  cases m.getLast? with
  | none => rfl
  | some x => exact moveIn_op k x

theorem moved_right {k : Nat} {c : Co} (hk : 1 ≤ k) (h : right c = true) (hl : k + c.ins.length ≤ 2000) : right (moved k c) = true := by
  obtain ⟨h1, h2, h3, h4, h5, h6, h7⟩ := right_parts h
  have hne : c.ins.map (moveIn k) ≠ [] := by
    intro e
    rw [List.map_eq_nil_iff] at e
    rw [e] at h1
    simp at h1
  have hlast : lastOp (moved k c).ins = lastOp c.ins := by
    show lastOp ((⟨3, k, 0⟩ :: List.replicate (k - 1) ⟨5, 0, 0⟩) ++ c.ins.map (moveIn k)) = _
    rw [lastOp_append _ hne, lastOp_map]
  unfold right
  rw [hlast, moved_length c hk]
  simp only [Bool.and_eq_true, decide_eq_true_eq, Bool.not_eq_true', Bool.or_eq_false_iff, decide_eq_false_iff_not, List.all_eq_true]
  refine ⟨⟨⟨⟨⟨by omega, hl⟩, h3⟩, h4, h5⟩, h6⟩, fun x hx => ?_⟩
  have hx' : x = ⟨3, k, 0⟩ ∨ x ∈ List.replicate (k - 1) (⟨5, 0, 0⟩ : In) ∨ x ∈ c.ins.map (moveIn k) := by
    simp only [moved, List.mem_append, List.mem_cons] at hx
    rcases hx with (hx | hx) | hx
    · exact .inl hx
    · exact .inr (.inl hx)
    · exact .inr (.inr hx)
  show rightIn (k + c.ins.length) c.sets.length x = true
  rcases hx' with rfl | hx | hx
  · simp [rightIn, isNum]
    omega
  · rw [List.eq_of_mem_replicate hx]
    simp [rightIn]
  · obtain ⟨y, hy, rfl⟩ := List.mem_map.1 hx
    exact moveIn_right hk (h7 y hy)

/-- The same instructions, k further on. -/
def up (k : Nat) (o : List Nat) : List Nat := o.map (· + k)

theorem mem_up (k : Nat) (o : List Nat) (i : Nat) : i + k ∈ up k o ↔ i ∈ o := by simp [up]

theorem meet_up (k : Nat) (p o : List Nat) (hp : ∀ i ∈ p, i < k) (i : Nat) : meet (p ++ up k o) (i + k) = p ++ up k (meet o i) := by
  have e : (i + k ∈ p ++ up k o) ↔ i ∈ o := by
    rw [List.mem_append, mem_up]
    exact ⟨fun h => h.elim (fun h => absurd (hp _ h) (by omega)) id, .inr⟩
  unfold meet
  by_cases h : i ∈ o
  · rw [if_pos (e.2 h), if_pos h]
  · rw [if_neg (fun x => h (e.1 x)), if_neg h]
    simp [up]

theorem look_up {k : Nat} {c : Co} (hk : 1 ≤ k) (hr : right c = true) {left : List Int} {i : Nat} {p h x : List Nat} (hp : ∀ i ∈ p, i < k) (hi : i < c.ins.length) :
    look (moved k c) left (i + k) (p ++ up k h) (up k x) = (p ++ up k (look c left i h x).1, up k (look c left i h x).2.1, (look c left i h x).2.2) := by
  have hx0 : ∀ j, meet (up k x) (j + k) = up k (meet x j) := fun j => by
    have := meet_up k [] x (by simp) j
    simpa using this
  unfold look
  rw [moved_at c hk hi, moveIn_op]
  rcases right_op hr hi with ho | ho | ho | ho | ho
  · have e : moveIn k (at_ c i) = at_ c i := by unfold moveIn; simp [ho]
    have et : takes (moved k c) (at_ c i) left = takes c (at_ c i) left := by
      unfold takes
      cases left <;> rfl
    rw [e, et]
    simp only [ho, if_pos]
    split
    · rw [show i + k + 1 = i + 1 + k by omega, hx0]
    · rfl
  · have ha := right_a hr hi (.inl ho)
    have hb := right_b hr hi ho
    have e : moveIn k (at_ c i) = ⟨(at_ c i).op, (at_ c i).a + k, (at_ c i).b + k⟩ := by unfold moveIn; simp [ho]
    rw [e]
    simp only [ho]
    simp only [show ¬ (2 : Int) = 1 by omega, if_false, if_pos]
    rw [show ((at_ c i).a + (k : Int)).toNat = (at_ c i).a.toNat + k by omega, show ((at_ c i).b + (k : Int)).toNat = (at_ c i).b.toNat + k by omega, meet_up k p _ hp, meet_up k p _ hp]
  · have ha := right_a hr hi (.inr ho)
    have e : moveIn k (at_ c i) = ⟨(at_ c i).op, (at_ c i).a + k, (at_ c i).b⟩ := by unfold moveIn; simp [ho]
    rw [e]
    simp only [ho]
    simp only [show ¬ (3 : Int) = 1 by omega, show ¬ (3 : Int) = 2 by omega, if_false, if_pos]
    rw [show ((at_ c i).a + (k : Int)).toNat = (at_ c i).a.toNat + k by omega, meet_up k p _ hp]
  · simp only [ho]
    simp only [show ¬ (4 : Int) = 1 by omega, show ¬ (4 : Int) = 2 by omega, show ¬ (4 : Int) = 3 by omega, if_false, if_pos]
    split
    · rw [show i + k + 1 = i + 1 + k by omega, meet_up k p _ hp]
    · rfl
  · simp [ho]

/-- Enough rounds are enough. -/
theorem each_fuel {c : Co} (hr : right c = true) (left : List Int) : ∀ (f g n : Nat) (h x : List Nat), Met c.ins.length h → Met c.ins.length x → n ≤ h.length → c.ins.length + 1 - n ≤ f → c.ins.length + 1 - n ≤ g →
    each c left f n h x = each c left g n h x := by
  intro f
  induction f with
  | zero =>
    intro g n h x hh _ hn hf _
    have := hh.length
    omega
  | succ f ih =>
    intro g n h x hh hx hn hf hg
    have := hh.length
    cases g with
    | zero => omega
    | succ g =>
      unfold each
      cases hi : h[n]? with
      | none => rfl
      | some i =>
        have hlt : n < h.length := by
          rcases Nat.lt_or_ge n h.length with h1 | h1
          · exact h1
          · rw [List.getElem?_eq_none h1] at hi; cases hi
        have hl := look_met hr (left := left) (hh.2 i (List.mem_of_getElem? hi)) hh hx
        have h2 := hl.2.2.length_le
        dsimp only
        split
        · rfl
        · exact ih g (n + 1) _ _ hl.1 hl.2.1 (by omega) (by omega) (by omega)

theorem each_up {k : Nat} {c : Co} (hk : 1 ≤ k) (hr : right c = true) (left : List Int) (p : List Nat) (hp : ∀ i ∈ p, i < k) : ∀ (f n : Nat) (h x : List Nat), Met c.ins.length h → Met c.ins.length x →
    each (moved k c) left f (p.length + n) (p ++ up k h) (up k x) = (p ++ up k (each c left f n h x).1, up k (each c left f n h x).2.1, (each c left f n h x).2.2.1, p.length + (each c left f n h x).2.2.2) := by
  intro f
  induction f with
  | zero => intro n h x _ _; rfl
  | succ f ih =>
    intro n h x hh hx
    have e : (p ++ up k h)[p.length + n]? = (h[n]?).map (· + k) := by
      rw [List.getElem?_append_right (by omega), show p.length + n - p.length = n by omega]
      simp [up]
    unfold each
    rw [e]
    cases hi : h[n]? with
    | none => rfl
    | some i =>
      have hi' := hh.2 i (List.mem_of_getElem? hi)
      have hl := look_met hr (left := left) hi' hh hx
      simp only [Option.map_some]
      rw [look_up hk hr hp hi']
      dsimp only
      split
      · rfl
      · have := ih (n + 1) _ _ hl.1 hl.2.1
        rw [← Nat.add_assoc] at this
        exact this

theorem run_up {k : Nat} {c : Co} (hk : 1 ≤ k) (hr : right c = true) : ∀ (l : List Int) (h : List Nat), Met c.ins.length h → run (moved k c) l (up k h) = run c l h := by
  have hE : ∀ (left : List Int) (h : List Nat), Met c.ins.length h → each (moved k c) left ((moved k c).ins.length + 1) 0 (up k h) [] = (up k (each c left (c.ins.length + 1) 0 h []).1, up k (each c left (c.ins.length + 1) 0 h []).2.1, (each c left (c.ins.length + 1) 0 h []).2.2.1, (each c left (c.ins.length + 1) 0 h []).2.2.2) := by
    intro left h hh
    have := each_up hk hr left [] (by simp) ((moved k c).ins.length + 1) 0 h [] hh (met_nil _)
    have e : up k [] = [] := rfl
    rw [e] at this
    simp only [List.nil_append, List.length_nil, Nat.zero_add] at this
    rw [this, each_fuel hr left ((moved k c).ins.length + 1) (c.ins.length + 1) 0 h [] hh (met_nil _) (Nat.zero_le _) (by rw [moved_length c hk]; omega) (by omega)]
  intro l
  induction l with
  | nil =>
    intro h hh
    unfold run
    rw [hE [] h hh]
  | cons q l ih =>
    intro h hh
    have hm := each_met hr (q :: l) (c.ins.length + 1) 0 h [] hh (met_nil _)
    unfold run
    rw [hE (q :: l) h hh]
    dsimp only
    rw [ih _ hm.2.1]

/-- WHERE CODE STANDS IS NOTHING: but one instruction more is looked at. -/
theorem run_moved {k : Nat} {c : Co} (hk : 1 ≤ k) (hr : right c = true) (l : List Int) : run (moved k c) l [0] = ((run c l [0]).1, (run c l [0]).2 + 1) := by
  have h1 := (right_parts hr).1
  have hm0 : Met c.ins.length [0] := met_one (by omega)
  have hE : ∀ left : List Int, each (moved k c) left ((moved k c).ins.length + 1) 0 [0] [] = (0 :: up k (each c left (c.ins.length + 1) 0 [0] []).1, up k (each c left (c.ins.length + 1) 0 [0] []).2.1, (each c left (c.ins.length + 1) 0 [0] []).2.2.1, (each c left (c.ins.length + 1) 0 [0] []).2.2.2 + 1) := by
    intro left
    have e0 : look (moved k c) left 0 [0] [] = ([0, k], [], false) := by
      unfold look
      rw [moved_first]
      have : ¬ k = 0 := by omega
      simp [meet, this]
    conv => lhs; unfold each
    simp only [List.getElem?_cons_zero]
    rw [e0]
    simp only [Bool.false_eq_true, if_false]
    have := each_up hk hr left [0] (by simp; omega) (moved k c).ins.length 0 [0] [] hm0 (met_nil _)
    simp only [up, List.map_cons, List.map_nil, List.length_cons, List.length_nil, Nat.zero_add, List.singleton_append, Nat.add_zero] at this
    rw [this, each_fuel hr left (moved k c).ins.length (c.ins.length + 1) 0 [0] [] hm0 (met_nil _) (Nat.zero_le _) (by rw [moved_length c hk]; omega) (by omega), Nat.add_comm 1]
    rfl
  cases l with
  | nil =>
    unfold run
    rw [hE []]
  | cons q l =>
    have hm := each_met hr (q :: l) (c.ins.length + 1) 0 [0] [] hm0 (met_nil _)
    unfold run
    rw [hE (q :: l)]
    dsimp only
    rw [run_up hk hr _ _ hm.2.1]
    split
    · rfl
    · dsimp only
      rw [Nat.add_right_comm]

end VM
