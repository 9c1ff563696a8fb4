/- Plain code that reads points: what may be, how it is run, what follows. No program is named here. -/
import Derived.Test.YtddjppkpgflbjaaDoorSetMath
namespace VM

structure In where
  op : Int
  a : Int
  b : Int

structure Co where
  sets : List (List RS.Rg)
  ins : List In

def isNum (x : Int) (n : Nat) : Bool := decide (0 ≤ x) && decide (x < n)

def rightIn (n m : Nat) (x : In) : Bool :=
  if x.op = 1 then isNum x.a m && decide (x.b = 0)
  else if x.op = 2 then isNum x.a n && isNum x.b n
  else if x.op = 3 then isNum x.a n && decide (x.b = 0)
  else if x.op = 4 then decide (x.a = 0) && decide (x.b = 0)
  else if x.op = 5 then decide (x.a = 0) && decide (x.b = 0)
  else false

def lastOp (l : List In) : Int := match l.getLast? with | some x => x.op | none => 0

def right (c : Co) : Bool :=
  decide (1 ≤ c.ins.length) && decide (c.ins.length ≤ 2000) && decide (c.sets.length ≤ 2000) && !(decide (lastOp c.ins = 1) || decide (lastOp c.ins = 4)) && c.sets.all RS.right && c.ins.all (rightIn c.ins.length c.sets.length)

def meet (o : List Nat) (i : Nat) : List Nat := if i ∈ o then o else o ++ [i]

def takes (c : Co) (x : In) : List Int → Bool
  | [] => false
  | p :: _ => RS.has (c.sets.getD x.a.toNat []) p

def at_ (c : Co) (i : Nat) : In := c.ins.getD i ⟨0, 0, 0⟩

/-- One instruction is looked at: those met here, those met at the next point, and whether it says yes. -/
def look (c : Co) (left : List Int) (i : Nat) (h x : List Nat) : List Nat × List Nat × Bool :=
  if (at_ c i).op = 1 then (h, if takes c (at_ c i) left then meet x (i + 1) else x, false)
  else if (at_ c i).op = 2 then (meet (meet h (at_ c i).a.toNat) (at_ c i).b.toNat, x, false)
  else if (at_ c i).op = 3 then (meet h (at_ c i).a.toNat, x, false)
  else if (at_ c i).op = 4 then (if left.length = 0 then meet h (i + 1) else h, x, false)
  else if (at_ c i).op = 5 then (h, x, true)
  else (h, x, false)

/-- All that are met here are looked at, from the n-th on. -/
def each (c : Co) (left : List Int) : Nat → Nat → List Nat → List Nat → List Nat × List Nat × Bool × Nat
  | 0, n, h, x => (h, x, false, n)
  | f + 1, n, h, x =>
    match h[n]? with
    | none => (h, x, false, n)
    | some i =>
      if (look c left i h x).2.2 then ((look c left i h x).1, (look c left i h x).2.1, true, n + 1)
      else each c left f (n + 1) (look c left i h x).1 (look c left i h x).2.1

/-- Code is run over points, from those on that are met at the first one. -/
def run (c : Co) : List Int → List Nat → Bool × Nat
  | [], h => ((each c [] (c.ins.length + 1) 0 h []).2.2.1, (each c [] (c.ins.length + 1) 0 h []).2.2.2)
  | p :: l, h =>
    if (each c (p :: l) (c.ins.length + 1) 0 h []).2.2.1 then (true, (each c (p :: l) (c.ins.length + 1) 0 h []).2.2.2)
    else ((run c l (each c (p :: l) (c.ins.length + 1) 0 h []).2.1).1, (each c (p :: l) (c.ins.length + 1) 0 h []).2.2.2 + (run c l (each c (p :: l) (c.ins.length + 1) 0 h []).2.1).2)

/-- Each once, and all of them are instructions' numbers. -/
def Met (n : Nat) (o : List Nat) : Prop := o.Nodup ∧ ∀ i ∈ o, i < n

theorem met_nil (n : Nat) : Met n [] := ⟨List.nodup_nil, fun i h => by cases h⟩

theorem met_one {n i : Nat} (h : i < n) : Met n [i] := ⟨by simp, fun j hj => by simp at hj; omega⟩

theorem Met.meet {n i : Nat} {o : List Nat} (h : Met n o) (hi : i < n) : Met n (meet o i) := by
  unfold VM.meet
  split
  · exact h
  · rename_i hn
    refine ⟨?_, fun j hj => ?_⟩
    · rw [List.nodup_append]
      refine ⟨h.1, by simp, fun a ha b hb => ?_⟩
      simp at hb
      subst hb
      intro e
      subst e
      exact hn ha
    · rcases List.mem_append.1 hj with hj | hj
      · exact h.2 j hj
      · simp at hj; omega

theorem nodup_length : ∀ (n : Nat) (o : List Nat), o.Nodup → (∀ i ∈ o, i < n) → o.length ≤ n := by
  intro n
  induction n with
  | zero =>
    intro o _ h
    cases o with
    | nil => exact Nat.le_refl _
    | cons i o => exact absurd (h i (by simp)) (by omega)
  | succ n ih =>
    intro o h1 h2
    have := ih (o.erase n) (h1.erase n) (fun i hi => by
      have h3 := (h1.mem_erase_iff.1 hi)
      have h4 := h2 i h3.2
      have h5 := h3.1
      omega)
    rw [List.length_erase] at this
    split at this <;> omega

theorem Met.length {n : Nat} {o : List Nat} (h : Met n o) : o.length ≤ n := nodup_length n o h.1 h.2

theorem meet_prefix (o : List Nat) (i : Nat) : o <+: meet o i := by
  unfold meet
  split
  · exact List.prefix_refl _
  · exact List.prefix_append _ _

theorem mem_meet (o : List Nat) (i j : Nat) : j ∈ meet o i ↔ j ∈ o ∨ j = i := by
  unfold meet
  split
  · constructor
    · exact .inl
    · rintro (h | rfl)
      · exact h
      · assumption
  · simp

theorem right_parts {c : Co} (h : right c = true) : 1 ≤ c.ins.length ∧ c.ins.length ≤ 2000 ∧ c.sets.length ≤ 2000 ∧ lastOp c.ins ≠ 1 ∧ lastOp c.ins ≠ 4 ∧ (∀ s ∈ c.sets, RS.right s = true) ∧ ∀ x ∈ c.ins, rightIn c.ins.length c.sets.length x = true := by
  unfold right at h
  simp only [Bool.and_eq_true, decide_eq_true_eq, Bool.not_eq_true', Bool.or_eq_false_iff, decide_eq_false_iff_not, List.all_eq_true] at h
  obtain ⟨⟨⟨⟨⟨h1, h2⟩, h3⟩, h4, h5⟩, h6⟩, h7⟩ := h
  exact ⟨h1, h2, h3, h4, h5, h6, h7⟩

theorem at_get (c : Co) {i : Nat} (h : i < c.ins.length) : at_ c i = c.ins[i] := by
  unfold at_; simp [h]

/-- What may be, of the instruction at i. -/
theorem right_at {c : Co} (h : right c = true) {i : Nat} (hi : i < c.ins.length) : rightIn c.ins.length c.sets.length (at_ c i) = true := by
  rw [at_get c hi]
  exact (right_parts h).2.2.2.2.2.2 _ (List.getElem_mem hi)

theorem right_next {c : Co} (h : right c = true) {i : Nat} (hi : i < c.ins.length) (ho : (at_ c i).op = 1 ∨ (at_ c i).op = 4) : i + 1 < c.ins.length := by
  obtain ⟨h1, _, _, h4, h5, _⟩ := right_parts h
  rcases Nat.lt_or_ge (i + 1) c.ins.length with h6 | h6
  · exact h6
  · have e : lastOp c.ins = (at_ c i).op := by
      unfold lastOp
      rw [List.getLast?_eq_getElem?, show c.ins.length - 1 = i by omega, at_get c hi]
      simp [hi]
    rw [e] at h4 h5
    rcases ho with ho | ho
    · exact absurd ho h4
    · exact absurd ho h5

theorem isNum_iff (x : Int) (n : Nat) : isNum x n = true ↔ 0 ≤ x ∧ x < n := by simp [isNum]

theorem right_a {c : Co} (h : right c = true) {i : Nat} (hi : i < c.ins.length) (ho : (at_ c i).op = 2 ∨ (at_ c i).op = 3) : 0 ≤ (at_ c i).a ∧ (at_ c i).a < c.ins.length := by
  have := right_at h hi
  unfold rightIn at this
  rcases ho with ho | ho
  · simp only [ho] at this
    simp [isNum] at this
    omega
  · simp only [ho] at this
    simp [isNum] at this
    omega

theorem right_b {c : Co} (h : right c = true) {i : Nat} (hi : i < c.ins.length) (ho : (at_ c i).op = 2) : 0 ≤ (at_ c i).b ∧ (at_ c i).b < c.ins.length := by
  have := right_at h hi
  unfold rightIn at this
  simp only [ho] at this
  simp [isNum] at this
  omega

theorem right_s {c : Co} (h : right c = true) {i : Nat} (hi : i < c.ins.length) (ho : (at_ c i).op = 1) : 0 ≤ (at_ c i).a ∧ (at_ c i).a < c.sets.length := by
  have := right_at h hi
  unfold rightIn at this
  simp only [ho] at this
  simp [isNum] at this
  omega

theorem look_met {c : Co} (hr : right c = true) {left : List Int} {i : Nat} {h x : List Nat} (hi : i < c.ins.length) (hh : Met c.ins.length h) (hx : Met c.ins.length x) :
    Met c.ins.length (look c left i h x).1 ∧ Met c.ins.length (look c left i h x).2.1 ∧ h <+: (look c left i h x).1 := by
  unfold look
  split
  · rename_i ho
    have := right_next hr hi (.inl ho)
    refine ⟨hh, ?_, List.prefix_refl _⟩
    dsimp only
    split
    · exact hx.meet this
    · exact hx
  · split
    · rename_i ho
      have h1 := right_a hr hi (.inl ho)
      have h2 := right_b hr hi ho
      exact ⟨(hh.meet (by omega)).meet (by omega), hx, (meet_prefix _ _).trans (meet_prefix _ _)⟩
    · split
      · rename_i ho
        have h1 := right_a hr hi (.inr ho)
        exact ⟨hh.meet (by omega), hx, meet_prefix _ _⟩
      · split
        · rename_i ho
          have := right_next hr hi (.inr ho)
          dsimp only
          split
          · exact ⟨hh.meet this, hx, meet_prefix _ _⟩
          · exact ⟨hh, hx, List.prefix_refl _⟩
        · split <;> exact ⟨hh, hx, List.prefix_refl _⟩

theorem each_met {c : Co} (hr : right c = true) (left : List Int) : ∀ (f n : Nat) (h x : List Nat), Met c.ins.length h → Met c.ins.length x →
    Met c.ins.length (each c left f n h x).1 ∧ Met c.ins.length (each c left f n h x).2.1 ∧ h <+: (each c left f n h x).1 := by
  intro f
  induction f with
  | zero => intro n h x hh hx; exact ⟨hh, hx, List.prefix_refl _⟩
  | succ f ih =>
    intro n h x hh hx
    unfold each
    cases hn : h[n]? with
    | none => exact ⟨hh, hx, List.prefix_refl _⟩
    | some i =>
      have hi : i < c.ins.length := hh.2 i (List.mem_of_getElem? hn)
      have hl := look_met hr (left := left) hi hh hx
      dsimp only
      split
      · exact hl
      · have := ih (n + 1) _ _ hl.1 hl.2.1
        exact ⟨this.1, this.2.1, hl.2.2.trans this.2.2⟩

theorem each_count {c : Co} (hr : right c = true) (left : List Int) : ∀ (f n : Nat) (h x : List Nat), Met c.ins.length h → Met c.ins.length x → n ≤ h.length →
    n ≤ (each c left f n h x).2.2.2 ∧ (each c left f n h x).2.2.2 ≤ c.ins.length := by
  intro f
  induction f with
  | zero =>
    intro n h x hh hx hn
    have := hh.length
    exact ⟨Nat.le_refl _, by show n ≤ _; omega⟩
  | succ f ih =>
    intro n h x hh hx hn
    have hlen := hh.length
    unfold each
    cases hn' : h[n]? with
    | none => exact ⟨Nat.le_refl _, by show n ≤ _; omega⟩
    | some i =>
      have hlt : n < h.length := by
        rcases Nat.lt_or_ge n h.length with h1 | h1
        · exact h1
        · rw [List.getElem?_eq_none h1] at hn'; cases hn'
      have hi : i < c.ins.length := hh.2 i (List.mem_of_getElem? hn')
      have hl := look_met hr (left := left) hi hh hx
      dsimp only
      split
      · exact ⟨by show n ≤ n + 1; omega, by show n + 1 ≤ _; omega⟩
      · have h2 := hl.2.2.length_le
        have := ih (n + 1) _ _ hl.1 hl.2.1 (by omega)
        exact ⟨by omega, this.2⟩

theorem run_bound {c : Co} (hr : right c = true) : ∀ (l : List Int) (h : List Nat), Met c.ins.length h → (run c l h).2 ≤ c.ins.length * (l.length + 1) := by
  intro l
  induction l with
  | nil =>
    intro h hh
    have := (each_count hr [] (c.ins.length + 1) 0 h [] hh (met_nil _) (Nat.zero_le _)).2
    show (each c [] (c.ins.length + 1) 0 h []).2.2.2 ≤ _
    simpa using this
  | cons p l ih =>
    intro h hh
    have h1 := (each_count hr (p :: l) (c.ins.length + 1) 0 h [] hh (met_nil _) (Nat.zero_le _)).2
    have h2 := (each_met hr (p :: l) (c.ins.length + 1) 0 h [] hh (met_nil _)).2.1
    have h3 := ih _ h2
    unfold run
    split
    · refine Nat.le_trans h1 ?_
      exact Nat.le_mul_of_pos_right _ (by simp)
    · dsimp only
      rw [List.length_cons, Nat.mul_add c.ins.length (l.length + 1) 1]
      omega

theorem run_pos {c : Co} (hr : right c = true) (l : List Int) : 1 ≤ (run c l [0]).2 := by
  have key : ∀ left : List Int, 1 ≤ (each c left (c.ins.length + 1) 0 [0] []).2.2.2 := by
    intro left
    have h1 := (right_parts hr).1
    unfold each
    have hl := look_met hr (left := left) (i := 0) (h := [0]) (x := []) (by omega) (met_one (by omega)) (met_nil _)
    simp only [List.getElem?_cons_zero]
    split
    · exact Nat.le_refl _
    · have h2 := hl.2.2.length_le
      exact (each_count hr left _ 1 _ _ hl.1 hl.2.1 h2).1
  cases l with
  | nil => exact key []
  | cons p l =>
    have := key (p :: l)
    unfold run
    split
    · exact this
    · dsimp only; omega

/- Who matches matches more. -/
def NoEnd (c : Co) : Prop := ∀ i, (at_ c i).op ≠ 4

theorem look_cong {c : Co} {l m : List Int} (i : Nat) (h x y : List Nat) (hn : NoEnd c) : (look c l i h x).1 = (look c m i h y).1 ∧ (look c l i h x).2.2 = (look c m i h y).2.2 := by
  have := hn i
  unfold look
  by_cases h1 : (at_ c i).op = 1
  · simp [h1]
  · by_cases h2 : (at_ c i).op = 2
    · simp [h2]
    · by_cases h3 : (at_ c i).op = 3
      · simp [h3]
      · by_cases h5 : (at_ c i).op = 5
        · simp [h5]
        · simp [h1, h2, h3, this, h5]

theorem each_cong {c : Co} {l m : List Int} (hn : NoEnd c) : ∀ (f n : Nat) (h x y : List Nat), (each c l f n h x).1 = (each c m f n h y).1 ∧ (each c l f n h x).2.2 = (each c m f n h y).2.2 := by
  intro f
  induction f with
  | zero => intro n h x y; exact ⟨rfl, rfl⟩
  | succ f ih =>
    intro n h x y
    unfold each
    cases hi : h[n]? with
    | none => exact ⟨rfl, rfl⟩
    | some i =>
      have hl := look_cong (l := l) (m := m) i h x y hn
      dsimp only
      rw [hl.2]
      split
      · exact ⟨hl.1, rfl⟩
      · rw [hl.1]
        exact ih _ _ _ _

theorem look_head {c : Co} {p : Int} {l m : List Int} (i : Nat) (h x : List Nat) : look c (p :: l) i h x = look c (p :: m) i h x := by
  unfold look takes
  simp

theorem each_head {c : Co} {p : Int} {l m : List Int} : ∀ (f n : Nat) (h x : List Nat), each c (p :: l) f n h x = each c (p :: m) f n h x := by
  intro f
  induction f with
  | zero => intro n h x; rfl
  | succ f ih =>
    intro n h x
    unfold each
    cases h[n]? with
    | none => rfl
    | some i =>
      dsimp only
      rw [look_head (l := l) (m := m)]
      split
      · rfl
      · exact ih _ _ _

theorem run_more {c : Co} (hn : NoEnd c) (more : List Int) : ∀ (l : List Int) (h : List Nat), (run c l h).1 = true → (run c (l ++ more) h).1 = true := by
  intro l
  induction l with
  | nil =>
    intro h hy
    have hy' : (each c [] (c.ins.length + 1) 0 h []).2.2.1 = true := hy
    cases more with
    | nil => exact hy
    | cons q ms =>
      rw [(each_cong (m := q :: ms) hn (c.ins.length + 1) 0 h [] []).2] at hy'
      show (run c (q :: ms) h).1 = true
      unfold run
      rw [if_pos hy']
  | cons p l ih =>
    intro h hy
    rw [List.cons_append]
    unfold run at hy ⊢
    rw [each_head (l := l ++ more) (m := l)]
    split
    · rfl
    · rename_i hf
      rw [if_neg hf] at hy
      exact ih _ hy

end VM
