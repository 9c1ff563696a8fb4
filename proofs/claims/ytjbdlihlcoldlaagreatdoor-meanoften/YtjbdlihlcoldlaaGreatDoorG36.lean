/- The readings of patterns and of rules are such as GoodMath says: no program is named here. -/
import Derived.Test.YtjbdlihlcoldlaaGreatDoorG35
import Derived.Lib.ItoaLen
import Derived.Test.YtjbdlihlcoldlaaGreatDoorG00
namespace RP

variable {α β γ δ ε ζ : Type}

/-- What is not wanted is refused. -/
theorem good_guard {la st : Bool} {T0 : γ → δ} {L0 : γ → Nat} {O0 : γ → Prop} {T : α → ε} {L : α → Nat} {O : α → Prop} {g : γ → List Tok → Res α} (C : γ → Prop) [DecidablePred C] (er : List Tok → Bad) (hC : ∀ x x2, T0 x = T0 x2 → (C x ↔ C x2))
    (hg : GoodF la st T0 L0 (fun x => O0 x ∧ ¬ C x) T L O g) : GoodF la st T0 L0 O0 T L O (fun x ts => if C x then .error (er ts) else g x ts) := by
  intro x ts y s h
  dsimp only at h
  by_cases hc : C x
  · rw [if_pos hc] at h; cases h
  · rw [if_neg hc] at h
    obtain ⟨k1, k2, k3⟩ := hg x ts y s h
    refine ⟨k1, fun a b => k2 a ⟨b, hc⟩, ?_⟩
    intro p q r hp hq hr x2 p2 q2 hT hE
    obtain ⟨y2, r2, m1, m2, m3⟩ := k3 p q r hp hq hr x2 p2 q2 hT hE
    refine ⟨y2, r2, ?_, m2, m3⟩
    dsimp only
    rw [if_neg (fun e => hc ((hC _ _ hT).2 e))]
    exact m1

abbrev oB (b : Int × Int) : Prop := 0 ≤ b.1 ∧ b.1 ≤ 12 ∧ -1 ≤ b.2 ∧ b.2 ≤ 12

/-- What may stand behind a comma. -/
def braceR (c lo : Nat) (ts : List Tok) : Res (Int × Int) :=
  if (hd ts).kind = 2 then (bnd (numberP c) fun hi ts => if hi < lo then .error (refuse c 2 (hd ts)) else (bnd (markR c [125]) fun _ => ret (fun _ : Unit => ((lo : Int), (hi : Int))) ()) ts) ts
  else (bnd (markR c [125]) fun _ => ret (fun _ : Unit => ((lo : Int), (-1 : Int))) ()) ts

theorem bounds_good (c : Nat) : Good false true (fun b : Int × Int => b) (fun _ => 100) oB (boundsP c) := by
  have e : boundsP c = bnd (numberP c) fun lo ts => if (hd ts).text = [44] then
      braceR c lo ts.tail
      else (bnd (markR c [125]) fun _ => ret (fun _ : Unit => ((lo : Int), (lo : Int))) ()) ts := by
    funext ts
    unfold boundsP braceR bnd markR ret
    dsimp only
    cases numberP c ts with
    | error b => rfl
    | ok v =>
      obtain ⟨lo, r⟩ := v
      dsimp only
      by_cases h1 : (hd r).text = [44]
      · rw [if_pos h1, if_pos h1]
        by_cases h2 : (hd r.tail).kind = 2
        · rw [if_pos h2, if_pos h2]
          cases numberP c r.tail with
          | error b => rfl
          | ok v =>
            obtain ⟨hi, r2⟩ := v
            dsimp only
            by_cases h3 : hi < lo
            · rw [if_pos h3, if_pos h3]
            · rw [if_neg h3, if_neg h3]
              cases markP c [125] r2 <;> rfl
        · rw [if_neg h2, if_neg h2]
          cases markP c [125] r.tail <;> rfl
      · rw [if_neg h1, if_neg h1]
        cases markP c [125] r <;> rfl
  rw [e]
  refine good_bnd (γ := Unit) (la2 := false) (st2 := true) (number_good c) ?_ rfl rfl
  refine good_acc (la1 := false) (st1 := true) (la2 := false) (st2 := true) [44] (by simp) ?_ ?_ rfl rfl
  · unfold braceR
    refine good_ite (la1 := false) (st1 := true) (la2 := false) (st2 := true) (fun t => t.kind = 2) (fun t t2 hE => by rw [Ekind hE]) ?_ ?_ rfl rfl
    · refine good_bnd (la2 := false) (st2 := true) (number_good c) ?_ rfl rfl
      refine good_guard (γ := (Unit × Nat) × Nat) (fun x => x.2 < x.1.2) (fun ts => refuse c 2 (hd ts)) (fun x x2 h => ?_) ?_
      · simp only [Prod.mk.injEq, true_and] at h
        rw [h.1, h.2]
      refine good_bnd (la2 := false) (st2 := false) (mark_good c [125]) ?_ rfl rfl
      refine good_ret (γ := ((Unit × Nat) × Nat) × Unit) (fun x => ((x.1.1.2 : Int), (x.1.2 : Int))) ?_ ?_
      · rintro ⟨⟨⟨⟨⟩, a⟩, b⟩, ⟨⟩⟩ ⟨⟨⟨⟨⟩, a'⟩, b'⟩, ⟨⟩⟩ h
        simp only [Prod.mk.injEq, true_and, and_true] at h
        rw [h.1, h.2]
      · rintro ⟨⟨⟨⟨⟩, a⟩, b⟩, ⟨⟩⟩ ⟨⟨⟨⟨_, h1⟩, h2⟩, _⟩, _⟩
        dsimp only at h1 h2
        exact ⟨by dsimp only; omega, by dsimp only; omega, by dsimp only; omega, by dsimp only; omega, by dsimp only; omega⟩
    · refine good_bnd (la2 := false) (st2 := false) (mark_good c [125]) ?_ rfl rfl
      refine good_ret (γ := (Unit × Nat) × Unit) (fun x => ((x.1.2 : Int), (-1 : Int))) ?_ ?_
      · rintro ⟨⟨⟨⟩, a⟩, ⟨⟩⟩ ⟨⟨⟨⟩, a'⟩, ⟨⟩⟩ h
        simp only [Prod.mk.injEq, true_and, and_true] at h
        rw [h]
      · rintro ⟨⟨⟨⟩, a⟩, ⟨⟩⟩ ⟨⟨_, h1⟩, _⟩
        dsimp only at h1
        exact ⟨by dsimp only; omega, by dsimp only; omega, by dsimp only; omega, by dsimp only; omega, by dsimp only; omega⟩
  · refine good_bnd (la2 := false) (st2 := false) (mark_good c [125]) ?_ rfl rfl
    refine good_ret (γ := (Unit × Nat) × Unit) (fun x => ((x.1.2 : Int), (x.1.2 : Int))) ?_ ?_
    · rintro ⟨⟨⟨⟩, a⟩, ⟨⟩⟩ ⟨⟨⟨⟩, a'⟩, ⟨⟩⟩ h
      simp only [Prod.mk.injEq, true_and, and_true] at h
      rw [h]
    · rintro ⟨⟨⟨⟩, a⟩, ⟨⟩⟩ ⟨⟨_, h1⟩, _⟩
      dsimp only at h1
      exact ⟨by dsimp only; omega, by dsimp only; omega, by dsimp only; omega, by dsimp only; omega, by dsimp only; omega⟩

abbrev lT : Option (Int × Int) → Nat
  | none => 0
  | some _ => 100
abbrev oT : Option (Int × Int) → Prop
  | none => True
  | some b => oB b

theorem times_good (c : Nat) : Good true false (fun b : Option (Int × Int) => b) lT oT (timesP c) := by
  have e : timesP c = fun ts => if (hd ts).text = [42] then ret (fun _ : Unit => some ((0 : Int), (-1 : Int))) () ts.tail
      else if (hd ts).text = [43] then ret (fun _ : Unit => some ((1 : Int), (-1 : Int))) () ts.tail
      else if (hd ts).text = [63] then ret (fun _ : Unit => some ((0 : Int), (1 : Int))) () ts.tail
      else if (hd ts).text = [123] then (bnd (boundsP c) fun x => ret (fun _ : Unit => some x) ()) ts.tail
      else ret (fun _ : Unit => none) () ts := by
    funext ts
    unfold timesP bnd ret
    by_cases h1 : (hd ts).text = [42]
    · rw [if_pos h1, if_pos h1]
    rw [if_neg h1, if_neg h1]
    by_cases h2 : (hd ts).text = [43]
    · rw [if_pos h2, if_pos h2]
    rw [if_neg h2, if_neg h2]
    by_cases h3 : (hd ts).text = [63]
    · rw [if_pos h3, if_pos h3]
    rw [if_neg h3, if_neg h3]
    by_cases h4 : (hd ts).text = [123]
    · rw [if_pos h4, if_pos h4]
      cases boundsP c ts.tail <;> rfl
    rw [if_neg h4, if_neg h4]
  rw [e]
  have hr : ∀ b, oB b → GoodF false false u0 (fun x => l0 x + 100) o0 (fun b : Option (Int × Int) => b) lT oT (fun _ : Unit => ret (fun _ : Unit => some b) ()) := fun b hb =>
    good_ret (γ := Unit) (fun _ => some b) (fun _ _ _ => rfl) fun _ _ => ⟨by simp, hb⟩
  refine good_acc (la1 := false) (st1 := false) (la2 := true) (st2 := false) [42] (by simp) (hr _ (by decide)) ?_ rfl rfl
  refine good_acc (la1 := false) (st1 := false) (la2 := true) (st2 := false) [43] (by simp) (hr _ (by decide)) ?_ rfl rfl
  refine good_acc (la1 := false) (st1 := false) (la2 := true) (st2 := false) [63] (by simp) (hr _ (by decide)) ?_ rfl rfl
  refine good_acc (la1 := false) (st1 := true) (la2 := false) (st2 := false) [123] (by simp) ?_ ?_ rfl rfl
  · refine good_bnd (la2 := false) (st2 := false) (bounds_good c) ?_ rfl rfl
    exact good_ret (γ := Unit × (Int × Int)) (fun x => some x.2) (fun x x2 h => by simp only [Prod.mk.injEq, true_and] at h; rw [h]) fun x h => ⟨by show (100 : Nat) ≤ 0 + 100 + 100; omega, h.2⟩
  · exact good_ret (γ := Unit) (fun _ => none) (fun _ _ _ => rfl) fun _ _ => ⟨by simp, trivial⟩

theorem timesT_len (lo hi : Int) (h : oB (lo, hi)) : (timesT lo hi).length ≤ 50 := by
  have h1 : ∀ n : Int, 0 ≤ n → n ≤ 12 → (Go.Lib.itoa n).length ≤ 21 := fun n a b => by
    exact Go.Lib.itoa_length_le n (by omega) (by omega)
  unfold timesT
  split
  · simp
  split
  · simp
  split
  · simp
  have := h1 lo h.1 h.2.1
  simp only [List.length_cons, List.length_append]
  split
  · simp; omega
  · split
    · simp; omega
    · have h2 := h.2.2
      dsimp only at h2
      have := h1 hi (by omega) h2.2
      simp only [List.length_cons, List.length_nil]
      omega

theorem wrapT_len (c : Nat) (p : Pt) (t : List UInt8) : (wrapT c p t).length ≤ t.length + 2 := by
  unfold wrapT; split <;> simp

abbrev oP (p : Pt) : Prop := p.Ok false
abbrev l50 (p : Pt) : Nat := p.text.length + 50

theorem many_T {x x2 : Pt} {lo hi : Int} (h : tP x = tP x2) : tP (.many x lo hi) = tP (.many x2 lo hi) := by
  simp only [tP, Prod.mk.injEq] at h ⊢
  refine ⟨?_, rfl⟩
  show wrapT 6 x x.text ++ _ = wrapT 6 x2 x2.text ++ _
  unfold wrapT
  rw [h.1, h.2]

def tBody (c m : Nat) (x : Pt) (b : Option (Int × Int)) (ts : List Tok) : Res Pt :=
  match b with
  | none => .ok (x, ts)
  | some b => tLoop c m (.many x b.1 b.2) ts

theorem tBody_good {c m : Nat} (ih : GoodF true false tP l50 oP tP l50 oP (tLoop c m)) :
    GoodF true false (fun xy : Pt × Option (Int × Int) => (tP xy.1, xy.2)) (fun xy => l50 xy.1 + lT xy.2) (fun xy => oP xy.1 ∧ oT xy.2) tP l50 oP (fun xy => tBody c m xy.1 xy.2) := by
  intro x ts y s h
  obtain ⟨x, b⟩ := x
  cases b with
  | none =>
    cases h
    refine ⟨⟨[], rfl, by simp⟩, fun _ ho => ⟨Nat.le_refl _, ho.1⟩, ?_⟩
    rintro p q r rfl hs _ ⟨x2, b2⟩ p2 q2 h1 h2
    have := List.append_cancel_right hs
    subst this
    simp only [Prod.mk.injEq] at h1
    obtain ⟨h1, rfl⟩ := h1
    exact ⟨x2, p2, rfl, h1, h2⟩
  | some b =>
    obtain ⟨k1, k2, k3⟩ := ih (.many x b.1 b.2) ts y s h
    refine ⟨k1, fun hl ho => ?_, ?_⟩
    · have hb := ho.2
      have := k2 hl ⟨rfl, ho.1, hb.1, hb.2.1, hb.2.2.1, hb.2.2.2⟩
      refine ⟨?_, this.2⟩
      have h5 := timesT_len b.1 b.2 hb
      have h6 := wrapT_len 6 x x.text
      have h7 : (Pt.many x b.1 b.2).text.length = (wrapT 6 x x.text).length + (timesT b.1 b.2).length := by rw [← List.length_append]; rfl
      have h8 := this.1
      simp only [l50, lT] at h8 ⊢
      omega
    · rintro p q r hp hq hr ⟨x2, b2⟩ p2 q2 h1 hE
      simp only [Prod.mk.injEq] at h1
      obtain ⟨h1, rfl⟩ := h1
      exact k3 p q r hp hq hr (.many x2 b.1 b.2) p2 q2 (many_T h1) hE

theorem tLoop_good (c : Nat) : ∀ m, GoodF true false tP l50 oP tP l50 oP (tLoop c m) := by
  intro m
  induction m with
  | zero =>
    intro x ts y s h
    rw [tLoop] at h
    cases h1 : timesP c ts with
    | error b => rw [h1] at h; cases h
    | ok v =>
      obtain ⟨b, r⟩ := v
      rw [h1] at h
      cases b with
      | some b => cases h
      | none =>
        cases h
        obtain ⟨⟨z, hz, _⟩, k2, k3⟩ := times_good c () ts none s h1
        refine ⟨⟨z, hz, by simp⟩, fun hl ho => ⟨by have := (k2 hl trivial).1; simp only [lT, l0] at this; omega, ho⟩, ?_⟩
        intro p q r hp hq hr x2 p2 q2 hT hE
        obtain ⟨y2, r2, m1, m2, m3⟩ := k3 p q r hp hq hr () p2 q2 rfl hE
        dsimp only at m1 m2
        subst m2
        exact ⟨x2, r2, by rw [tLoop, m1], hT, m3⟩
  | succ m ih =>
    have e : tLoop c (m + 1) = fun x => bnd (timesP c) (tBody c m x) := by
      funext x ts
      rw [tLoop]
      unfold bnd tBody
      cases timesP c ts with
      | error b => rfl
      | ok v =>
        obtain ⟨b, r⟩ := v
        cases b <;> rfl
    rw [e]
    exact good_bnd (la2 := true) (st2 := false) (times_good c) (tBody_good ih) rfl rfl

theorem unit_good {S : List UInt8 → Option (List RS.Rg)} (hS : SetS S) (c : Nat) {pat : List Tok → Res Pt} {la st : Bool} (hp : Good la st tP lP oP pat) : Good false true tP l50 oP (unitP S c pat) := by
  have e : unitP S c pat = fun ts => if (hd ts).text = [46] then ret (fun _ : Unit => Pt.any) () ts.tail
      else if (hd ts).text = [36] then ret (fun _ : Unit => Pt.edge) () ts.tail
      else if (hd ts).text = [40] then (bnd pat fun x => bnd (markR c [41]) fun _ => ret (fun _ : Unit => x) ()) ts.tail
      else (bnd (setOrNameP S c) fun k => ret (fun _ : Unit => Pt.one k) ()) ts := by
    funext ts
    unfold unitP bnd markR ret
    by_cases h1 : (hd ts).text = [46]
    · rw [if_pos h1, if_pos h1]
    rw [if_neg h1, if_neg h1]
    by_cases h2 : (hd ts).text = [36]
    · rw [if_pos h2, if_pos h2]
    rw [if_neg h2, if_neg h2]
    by_cases h3 : (hd ts).text = [40]
    · rw [if_pos h3, if_pos h3]
      cases pat ts.tail with
      | error b => rfl
      | ok v =>
        obtain ⟨x, r⟩ := v
        dsimp only
        cases markP c [41] r <;> rfl
    rw [if_neg h3, if_neg h3]
    cases setOrNameP S c ts <;> rfl
  rw [e]
  refine good_acc (la1 := false) (st1 := false) (la2 := false) (st2 := true) [46] (by simp) ?_ ?_ rfl rfl
  · exact good_ret (γ := Unit) (fun _ => Pt.any) (fun _ _ _ => rfl) fun _ _ => ⟨by show (51 : Nat) ≤ 0 + 100; omega, rfl⟩
  refine good_acc (la1 := false) (st1 := false) (la2 := false) (st2 := true) [36] (by simp) ?_ ?_ rfl rfl
  · exact good_ret (γ := Unit) (fun _ => Pt.edge) (fun _ _ _ => rfl) fun _ _ => ⟨by show (51 : Nat) ≤ 0 + 100; omega, rfl⟩
  refine good_acc (la1 := false) (st1 := true) (la2 := false) (st2 := true) [40] (by simp) ?_ ?_ rfl rfl
  · refine good_bnd (la2 := false) (st2 := true) hp ?_ (by simp) (by simp)
    refine good_bnd (la2 := false) (st2 := false) (mark_good c [41]) ?_ rfl rfl
    exact good_ret (γ := (Unit × Pt) × Unit) (fun x => x.1.2) (fun x x2 h => by simpa using h) fun x h => ⟨by simp only [l50, lP]; omega, h.1.2⟩
  · refine good_bnd (la2 := false) (st2 := false) (setOrName_good hS c) ?_ rfl rfl
    refine good_ret (γ := Unit × K) (fun x => Pt.one x.2) (fun x x2 h => ?_) fun x h => ⟨?_, rfl, h.2⟩
    · simp only [tK, Prod.mk.injEq, true_and] at h
      simp only [tP, Prod.mk.injEq]
      exact ⟨h.1, rfl⟩
    · show x.2.text.length + 50 ≤ 0 + (x.2.text.length + 100)
      omega

theorem part_good {S : List UInt8 → Option (List RS.Rg)} (hS : SetS S) (c : Nat) {pat : List Tok → Res Pt} {la st : Bool} (hp : Good la st tP lP oP pat) (m : Nat) : Good true true tP l50 oP (partP S c pat m) := by
  have e : partP S c pat m = bnd (unitP S c pat) (tLoop c m) := by
    funext ts
    unfold partP bnd
    cases unitP S c pat ts <;> rfl
  rw [e]
  exact good_cmp (la2 := true) (st2 := false) (unit_good hS c hp) (tLoop_good c m) rfl rfl

end RP

namespace RP

variable {α β γ δ ε ζ : Type}

/-- The text of patterns in a row, out of theirs. -/
def rowT (c : Nat) : Bool → List (List UInt8 × Nat) → List UInt8
  | _, [] => []
  | f, x :: r => (if f then [] else btw c) ++ (if x.2 = 5 ∨ (x.2 = 4 ∧ c ≠ 5) then 40 :: (x.1 ++ [41]) else x.1) ++ rowT c false r

theorem listOf_txt (c : Nat) : ∀ (ps : List Pt) (f : Bool), (listOf ps).txt c f = rowT c f (ps.map tP)
  | [], f => rfl
  | p :: ps, f => by
    have e : (listOf (p :: ps)).txt c f = (if f then [] else btw c) ++ wrapT c p (p.txt 0 true) ++ (listOf ps).txt c false := rfl
    rw [e, listOf_txt c ps false]
    rfl

def sumL : List Pt → Nat
  | [] => 0
  | p :: r => p.text.length + sumL r

theorem sumL_snoc (p : Pt) : ∀ ps : List Pt, sumL (ps ++ [p]) = sumL ps + p.text.length
  | [] => by simp [sumL]
  | q :: ps => by simp only [List.cons_append, sumL, sumL_snoc p ps]; omega

theorem btw_len (c : Nat) : (btw c).length ≤ 3 := by
  unfold btw; split; · simp
  split <;> simp

theorem rowT_len (c : Nat) : ∀ (ps : List Pt) (f : Bool), (rowT c f (ps.map tP)).length ≤ sumL ps + 5 * ps.length
  | [], f => by simp [rowT]
  | p :: ps, f => by
    have h1 := rowT_len c ps false
    have h2 := btw_len c
    rw [List.map_cons, rowT, sumL]
    have h3 : (if f = true then [] else btw c).length ≤ 3 := by
      cases f
      · exact h2
      · exact Nat.zero_le _
    have h4 : (if (tP p).2 = 5 ∨ ((tP p).2 = 4 ∧ c ≠ 5) then 40 :: ((tP p).1 ++ [41]) else (tP p).1).length ≤ p.text.length + 2 := by
      have : (tP p).1 = p.text := rfl
      rw [this]
      split <;> simp
    simp only [List.length_append, List.length_cons] at h1 ⊢
    omega

theorem together_T {c : Nat} {ps ps2 : List Pt} (h : ps.map tP = ps2.map tP) : tP (togetherP c ps) = tP (togetherP c ps2) := by
  have hm : ∀ q q2 : List Pt, q.map tP = q2.map tP → tP (if c = 4 then Pt.cat (listOf q) else Pt.alt (listOf q)) = tP (if c = 4 then Pt.cat (listOf q2) else Pt.alt (listOf q2)) := by
    intro q q2 e
    by_cases hc : c = 4
    · rw [if_pos hc, if_pos hc]
      show ((listOf q).txt 4 true, 4) = ((listOf q2).txt 4 true, 4)
      rw [listOf_txt, listOf_txt, e]
    · rw [if_neg hc, if_neg hc]
      show ((listOf q).txt 5 true, 5) = ((listOf q2).txt 5 true, 5)
      rw [listOf_txt, listOf_txt, e]
  match ps, ps2, h with
  | [], [], _ => rfl
  | [], _ :: _, h => simp at h
  | _ :: _, [], h => simp at h
  | [p], [p2], h => simp at h; exact h
  | [p], _ :: _ :: _, h => simp at h
  | _ :: _ :: _, [p], h => simp at h
  | a :: b :: r, a2 :: b2 :: r2, h => exact hm _ _ h

theorem together_len (c : Nat) (ps : List Pt) : (togetherP c ps).text.length ≤ sumL ps + 10 * (ps.length - 1) := by
  have hm : ∀ q : List Pt, (if c = 4 then Pt.cat (listOf q) else Pt.alt (listOf q)).text.length ≤ sumL q + 5 * q.length := by
    intro q
    by_cases hc : c = 4
    · rw [if_pos hc]
      show ((listOf q).txt 4 true).length ≤ _
      rw [listOf_txt]
      exact rowT_len _ _ _
    · rw [if_neg hc]
      show ((listOf q).txt 5 true).length ≤ _
      rw [listOf_txt]
      exact rowT_len _ _ _
  match ps with
  | [] => exact hm []
  | [p] => simp [togetherP, sumL]
  | a :: b :: r => have := hm (a :: b :: r); simp only [togetherP, List.length_cons] at this ⊢; omega

theorem listOf_ok : ∀ (ps : List Pt), (∀ p ∈ ps, oP p) → (listOf ps).Ok true
  | [], _ => rfl
  | p :: ps, h => ⟨rfl, h p (by simp), listOf_ok ps fun q hq => h q (by simp [hq])⟩

theorem together_ok (c : Nat) (ps : List Pt) (h : ∀ p ∈ ps, oP p) : oP (togetherP c ps) := by
  have hm : ∀ q : List Pt, (∀ p ∈ q, oP p) → oP (if c = 4 then Pt.cat (listOf q) else Pt.alt (listOf q)) := by
    intro q hq
    split
    · exact ⟨rfl, listOf_ok q hq⟩
    · exact ⟨rfl, listOf_ok q hq⟩
  match ps with
  | [] => exact hm [] (by simp)
  | [p] => exact h p (by simp)
  | a :: b :: r => exact hm _ h

abbrev tPs (ps : List Pt) := ps.map tP
abbrev oPs (ps : List Pt) : Prop := ∀ p ∈ ps, oP p
abbrev lRow (ps : List Pt) : Nat := sumL ps + 50 * ps.length
abbrev lAlt (ps : List Pt) : Nat := sumL ps + 50 * (ps.length - 1)

def rBody (part : List Tok → Res Pt) (ps : List Pt) : List Tok → Res (List Pt) := bnd part fun p => ret (fun _ : Unit => ps ++ [p]) ()

theorem rowL_eq (part : List Tok → Res Pt) : ∀ (f : Nat) (ps : List Pt) (ts : List Tok), rowL part f ps ts = loopR (fun t => atUnit t = true) (rBody part) f ps ts := by
  intro f
  induction f with
  | zero => intro ps ts; rfl
  | succ f ih =>
    intro ps ts
    rw [rowL, loopR]
    by_cases h : atUnit (hd ts) = true
    · rw [if_pos h, if_pos h]
      unfold rBody bnd ret
      cases part ts with
      | error b => rfl
      | ok v => obtain ⟨k2, r⟩ := v; exact ih _ _
    · rw [if_neg h, if_neg h]

theorem snoc_T {ps ps2 : List Pt} {p p2 : Pt} (h : tPs ps = tPs ps2) (h2 : tP p = tP p2) : tPs (ps ++ [p]) = tPs (ps2 ++ [p2]) := by
  simp only [tPs, List.map_append, List.map_cons, List.map_nil] at h ⊢
  rw [h, h2]

theorem snoc_O {ps : List Pt} {p : Pt} (h : oPs ps) (h2 : oP p) : oPs (ps ++ [p]) := by
  intro q hq
  simp at hq
  rcases hq with hq | rfl
  · exact h q hq
  · exact h2

theorem row_good {part : List Tok → Res Pt} (hp : Good true true tP l50 oP part) : Good true false tP lP oP (rowP part) := by
  have e : rowP part = bnd (fun ts => loopR (fun t => atUnit t = true) (rBody part) ts.length [] ts) fun ps => ret (fun _ : Unit => togetherP 4 ps) () := by
    funext ts
    unfold rowP bnd ret
    dsimp only
    rw [rowL_eq]
    cases loopR (fun t => atUnit t = true) (rBody part) ts.length [] ts <;> rfl
  rw [e]
  have hb : GoodF true true tPs lRow oPs tPs lRow oPs (rBody part) := by
    refine good_bnd (la2 := false) (st2 := false) hp ?_ rfl rfl
    refine good_ret (γ := List Pt × Pt) (fun x => x.1 ++ [x.2]) ?_ ?_
    · rintro ⟨ps, p⟩ ⟨ps2, p2⟩ h
      simp only [Prod.mk.injEq] at h
      exact snoc_T h.1 h.2
    · rintro ⟨ps, p⟩ ⟨h1, h2⟩
      refine ⟨?_, snoc_O h1 h2⟩
      simp only [lRow, l50, sumL_snoc, List.length_append, List.length_cons, List.length_nil]
      omega
  have hl : GoodF true false tPs lRow oPs tPs lRow oPs (fun x ts => loopR (fun t => atUnit t = true) (rBody part) ts.length x ts) :=
    good_loop _ (fun t t2 hE => by unfold atUnit; rw [Ekind hE, Etext hE]) hb
  have hc : GoodF true false tPs lRow oPs tP lP oP (fun x => bnd (fun ts => loopR (fun t => atUnit t = true) (rBody part) ts.length x ts) fun ps => ret (fun _ : Unit => togetherP 4 ps) ()) :=
    good_cmp (la2 := false) (st2 := false) hl (good_ret (γ := List Pt) (fun ps => togetherP 4 ps) (fun _ _ h => together_T h) fun ps ho => ⟨by have := together_len 4 ps; simp only [lP, lRow]; omega, together_ok 4 ps ho⟩) rfl rfl
  exact hc.pre (fun _ : Unit => []) (fun _ _ _ => rfl) fun _ _ => ⟨Nat.le_refl _, fun p hp => by simp at hp⟩

def aBody (row : List Tok → Res Pt) (ps : List Pt) : List Tok → Res (List Pt) := bnd (nextR [124]) fun _ => bnd row fun p => ret (fun _ : Unit => ps ++ [p]) ()

theorem altL_eq (row : List Tok → Res Pt) : ∀ (f : Nat) (ps : List Pt) (ts : List Tok), altL row f ps ts = loopR (fun t => t.text = [124]) (aBody row) f ps ts := by
  intro f
  induction f with
  | zero => intro ps ts; rfl
  | succ f ih =>
    intro ps ts
    rw [altL, loopR]
    by_cases h : (hd ts).text = [124]
    · rw [if_pos h, if_pos h]
      unfold aBody bnd nextR ret
      rw [if_pos h]
      dsimp only
      cases row ts.tail with
      | error b => rfl
      | ok v => obtain ⟨k2, r⟩ := v; exact ih _ _
    · rw [if_neg h, if_neg h]

abbrev oAlt (ps : List Pt) : Prop := oPs ps ∧ 1 ≤ ps.length

theorem alt_good {row : List Tok → Res Pt} (hp : Good true false tP lP oP row) : Good true false tP lP oP (altP row) := by
  have e : altP row = bnd row fun p => bnd (fun ts => loopR (fun t => t.text = [124]) (aBody row) ts.length [p] ts) fun ps => ret (fun _ : Unit => togetherP 5 ps) () := by
    funext ts
    unfold altP bnd ret
    cases row ts with
    | error b => rfl
    | ok v =>
      obtain ⟨p, r⟩ := v
      dsimp only
      rw [altL_eq]
      cases loopR (fun t => t.text = [124]) (aBody row) r.length [p] r <;> rfl
  rw [e]
  have hb : GoodF true true tPs lAlt oAlt tPs lAlt oAlt (aBody row) := by
    refine good_bnd (la2 := true) (st2 := false) (good_next (by simp)) ?_ rfl rfl
    refine good_bnd (la2 := false) (st2 := false) hp ?_ rfl rfl
    refine good_ret (γ := (List Pt × Unit) × Pt) (fun x => x.1.1 ++ [x.2]) ?_ ?_
    · rintro ⟨⟨ps, ⟨⟩⟩, p⟩ ⟨⟨ps2, ⟨⟩⟩, p2⟩ h
      simp only [Prod.mk.injEq, and_true] at h
      exact snoc_T h.1 h.2
    · rintro ⟨⟨ps, ⟨⟩⟩, p⟩ ⟨⟨⟨h1, h3⟩, _⟩, h2⟩
      refine ⟨?_, snoc_O h1 h2, by simp⟩
      dsimp only at h3
      simp only [lAlt, lP, sumL_snoc, List.length_append, List.length_cons, List.length_nil]
      omega
  have hl : GoodF true false tPs lAlt oAlt tPs lAlt oAlt (fun x ts => loopR (fun t => t.text = [124]) (aBody row) ts.length x ts) :=
    good_loop _ (fun t t2 hE => by rw [Etext hE]) hb
  have hc : GoodF true false tPs lAlt oAlt tP lP oP (fun x => bnd (fun ts => loopR (fun t => t.text = [124]) (aBody row) ts.length x ts) fun ps => ret (fun _ : Unit => togetherP 5 ps) ()) :=
    good_cmp (la2 := false) (st2 := false) hl (good_ret (γ := List Pt) (fun ps => togetherP 5 ps) (fun _ _ h => together_T h) fun ps ho => ⟨by have := together_len 5 ps; simp only [lP, lAlt]; omega, together_ok 5 ps ho.1⟩) rfl rfl
  refine good_bnd (γ := Unit) (la2 := true) (st2 := false) hp ?_ rfl rfl
  refine hc.pre (fun x : Unit × Pt => [x.2]) (fun x x2 h => ?_) fun x ho => ⟨?_, fun p hp => ?_, by simp⟩
  · simp only [Prod.mk.injEq, true_and] at h
    simp only [tPs, List.map_cons, List.map_nil, h]
  · simp only [lAlt, sumL, lP, List.length_cons, List.length_nil]; omega
  · simp at hp; rw [hp]; exact ho.2

theorem pat_good {S : List UInt8 → Option (List RS.Rg)} (hS : SetS S) (c : Nat) : ∀ m, Good true false tP lP oP (patP S c m) := by
  intro m
  induction m with
  | zero => intro _ ts y s h; dsimp only at h; rw [patP] at h; cases h
  | succ m ih =>
    have e : patP S c (m + 1) = altP (rowP (partP S c (patP S c m) m)) := by funext ts; rw [patP]
    rw [e]
    exact alt_good (row_good (part_good hS c ih m))

theorem side_len (p : Pt) : (sideT p).length ≤ p.text.length + 1 := by
  unfold sideT; split <;> simp

theorem side_T {p p2 : Pt} (h : tP p = tP p2) : sideT p = sideT p2 := by
  have : p.text = p2.text := congrArg Prod.fst h
  unfold sideT; rw [this]

theorem rule_good {S : List UInt8 → Option (List RS.Rg)} (hS : SetS S) (c : Nat) : Good false true Ru.text (fun r => r.text.length) Ru.Ok (ruleP S c) := by
  have e : ruleP S c = bnd peek fun a => bnd (breaksP c) fun k => bnd (patP S c 9) fun x => bnd (markR c [58]) fun _ => bnd (patP S c 9) fun y => bnd (markR c [59]) fun _ => ret (fun _ : Unit => (⟨a, k, x, y⟩ : Ru)) () := by
    funext ts
    unfold ruleP peek bnd markR ret
    dsimp only
    cases breaksP c ts with
    | error b => rfl
    | ok v =>
      obtain ⟨k, r⟩ := v
      dsimp only
      cases patP S c 9 r with
      | error b => rfl
      | ok v =>
        obtain ⟨x, r2⟩ := v
        dsimp only
        cases markP c [58] r2 with
        | error b => rfl
        | ok r3 =>
          dsimp only
          cases patP S c 9 r3 with
          | error b => rfl
          | ok v =>
            obtain ⟨y, r4⟩ := v
            dsimp only
            cases markP c [59] r4 <;> rfl
  rw [e]
  refine good_bnd (γ := Unit) (la2 := false) (st2 := true) peek_good ?_ rfl rfl
  refine good_bnd (la2 := false) (st2 := true) (breaks_good c) ?_ rfl rfl
  refine good_bnd (la2 := false) (st2 := true) (pat_good hS c 9) ?_ rfl rfl
  refine good_bnd (la2 := false) (st2 := true) (mark_good c [58]) ?_ rfl rfl
  refine good_bnd (la2 := false) (st2 := true) (pat_good hS c 9) ?_ rfl rfl
  refine good_bnd (la2 := false) (st2 := false) (mark_good c [59]) ?_ rfl rfl
  refine good_ret (γ := (((((Unit × Nat) × Bool) × Pt) × Unit) × Pt) × Unit) (fun x => (⟨x.1.1.1.1.1.2, x.1.1.1.1.2, x.1.1.1.2, x.1.2⟩ : Ru)) ?_ ?_
  · rintro ⟨⟨⟨⟨⟨⟨⟨⟩, a⟩, k⟩, x⟩, ⟨⟩⟩, y⟩, ⟨⟩⟩ ⟨⟨⟨⟨⟨⟨⟨⟩, a'⟩, k'⟩, x'⟩, ⟨⟩⟩, y'⟩, ⟨⟩⟩ h
    simp only [Prod.mk.injEq, true_and, and_true] at h
    obtain ⟨⟨rfl, h1⟩, h2⟩ := h
    show Ru.text _ = Ru.text _
    unfold Ru.text
    dsimp only
    rw [side_T h1, side_T h2]
  · rintro ⟨⟨⟨⟨⟨⟨⟨⟩, a⟩, k⟩, x⟩, ⟨⟩⟩, y⟩, ⟨⟩⟩ ⟨⟨⟨⟨_, h1⟩, _⟩, h2⟩, _⟩
    refine ⟨?_, h1, h2⟩
    have s1 := side_len x
    have s2 := side_len y
    have s3 : (if k = true then wBreak else wKeep).length ≤ 5 := by split <;> decide
    dsimp only
    unfold Ru.text
    dsimp only
    simp only [List.length_append, List.length_cons, List.length_nil, lP]
    omega

theorem else_good (c : Nat) : Good true false (fun b : Bool => b) (fun _ => 0) (fun _ => True) (elseP c) := by
  have ht : Good false true (fun _ : Tok => ()) (fun _ => 100) (fun _ => True) (takeP c 8) := by
    refine good_tok (fun t => if t.kind = 8 then .ok t else .error (refuse c 3 t)) ?_ ?_ ?_ ?_
    · intro v h; cases h
    · intro t r
      unfold takeP
      dsimp only
      by_cases h : t.kind = 8
      · rw [if_pos h, if_pos h]
      · rw [if_neg h, if_neg h]
    · intro t t2 y hE h
      by_cases h1 : t.kind = 8
      · exact ⟨t2, by rw [if_pos (by rw [← Ekind hE]; exact h1)], rfl⟩
      · rw [if_neg h1] at h; cases h
    · intro t y _ _
      exact ⟨by omega, trivial⟩
  have e : elseP c = fun ts => if (hd ts).kind = 8 then (bnd (takeP c 8) fun _ => bnd (breaksP c) fun k => bnd (markR c [59]) fun _ => ret (fun _ : Unit => k) ()) ts else ret (fun _ : Unit => true) () ts := by
    funext ts
    unfold elseP
    by_cases h : (hd ts).kind = 8
    · rw [if_pos h, if_pos h]
      cases ts with
      | nil => exact absurd h (by decide)
      | cons t r =>
        have h' : t.kind = 8 := h
        unfold bnd takeP markR ret
        dsimp only
        rw [if_pos h']
        dsimp only [List.tail_cons]
        cases breaksP c r with
        | error b => rfl
        | ok v =>
          obtain ⟨k, r2⟩ := v
          dsimp only
          cases markP c [59] r2 <;> rfl
    · rw [if_neg h, if_neg h]; rfl
  rw [e]
  refine good_ite (γ := Unit) (la1 := false) (st1 := true) (la2 := false) (st2 := false) (fun t => t.kind = 8) (fun t t2 hE => by rw [Ekind hE]) ?_ ?_ rfl rfl
  · refine good_bnd (la2 := false) (st2 := true) ht ?_ rfl rfl
    refine good_bnd (la2 := false) (st2 := true) (breaks_good c) ?_ rfl rfl
    refine good_bnd (la2 := false) (st2 := false) (mark_good c [59]) ?_ rfl rfl
    exact good_ret (γ := ((Unit × Tok) × Bool) × Unit) (fun x => x.1.2) (fun x x2 h => by simp only [Prod.mk.injEq, true_and, and_true] at h; exact h) fun x h => ⟨by simp, trivial⟩
  · exact good_ret (γ := Unit) (fun _ => true) (fun _ _ _ => rfl) fun _ _ => ⟨by simp, trivial⟩

end RP

namespace RP

theorem dropW_app (p : UInt8 → Bool) (c : UInt8) (hc : p c = false) (u : List UInt8) : ∀ r : List UInt8, (r ++ c :: u).dropWhile p = r.dropWhile p ++ c :: u
  | [] => by rw [List.nil_append, List.dropWhile_cons, if_neg (by rw [hc]; simp)]; rfl
  | a :: r => by
    rw [List.cons_append, List.dropWhile_cons, List.dropWhile_cons]
    by_cases h : p a = true
    · rw [if_pos h, if_pos h]; exact dropW_app p c hc u r
    · rw [if_neg h, if_neg h]; rfl

theorem dropW_blank (u : List UInt8) : ∀ r : List UInt8, (r.dropWhile blank = [] → (r ++ 10 :: u).dropWhile blank = u.dropWhile blank) ∧ ∀ c t, r.dropWhile blank = c :: t → (r ++ 10 :: u).dropWhile blank = (c :: t) ++ 10 :: u
  | [] => ⟨fun _ => by rw [List.nil_append, List.dropWhile_cons, if_pos (by decide)], fun c t h => by simp at h⟩
  | a :: r => by
    have ih := dropW_blank u r
    rw [List.cons_append, List.dropWhile_cons, List.dropWhile_cons]
    by_cases h : blank a = true
    · rw [if_pos h, if_pos h]; exact ih
    · rw [if_neg h, if_neg h]
      exact ⟨fun e => by simp at e, fun c t e => by cases e; rfl⟩

theorem skip_join (u : List UInt8) : ∀ (n : Nat) (r : List UInt8), r.length ≤ n → (skipL r = [] → skipL (r ++ 10 :: u) = skipL u) ∧ ∀ c t, skipL r = c :: t → skipL (r ++ 10 :: u) = (c :: t) ++ 10 :: u := by
  intro n
  induction n with
  | zero =>
    intro r hr
    have : r = [] := List.length_eq_zero_iff.1 (by omega)
    subst this
    refine ⟨fun _ => ?_, fun c t h => ?_⟩
    · rw [skipL_eq, skipL_eq, (dropW_blank u []).1 rfl]
    · exact absurd h (by simp [skipL, tailF])
  | succ n ih =>
    intro r hr
    rw [skipL_eq r, skipL_eq (r ++ 10 :: u)]
    obtain ⟨d1, d2⟩ := dropW_blank u r
    cases hd : r.dropWhile blank with
    | nil =>
      rw [d1 hd, ← skipL_eq u]
      exact ⟨fun _ => rfl, fun c t h => by rw [tailL_stop (by simp)] at h; cases h⟩
    | cons c t =>
      rw [d2 c t hd]
      by_cases h35 : c = 35
      · subst h35
        have hl := remark_lt (35 :: t) rfl
        have hlen : (35 :: t).length ≤ r.length := by rw [← hd]; exact dropWhile_le _ _
        have e1 : tailL (35 :: t) = skipL ((35 :: t).dropWhile ofLine) := by rw [tailL_remark rfl, skipL_eq]
        have e2 : tailL ((35 :: t) ++ 10 :: u) = skipL ((35 :: t).dropWhile ofLine ++ 10 :: u) := by
          rw [tailL_remark rfl, skipL_eq, dropW_app ofLine 10 (by decide)]
        rw [e1, e2]
        refine ih _ ?_
        have e3 : (35 :: t).dropWhile ofLine = t.dropWhile ofLine := by rw [List.dropWhile_cons, if_pos (by decide)]
        have := dropWhile_le ofLine t
        rw [e3]
        simp only [List.length_cons] at hlen
        omega
      · have e1 : tailL (c :: t) = c :: t := tailL_stop (by simp; exact h35)
        have e2 : tailL ((c :: t) ++ 10 :: u) = (c :: t) ++ 10 :: u := tailL_stop (by simp; exact h35)
        rw [e1, e2]
        exact ⟨fun h => absurd h (by simp), fun c' t' h => by rw [h]⟩

theorem takeW_app (p : UInt8 → Bool) (c : UInt8) (hc : p c = false) (u : List UInt8) : ∀ r : List UInt8, (r ++ c :: u).takeWhile p = r.takeWhile p
  | [] => by rw [List.nil_append, List.takeWhile_cons, if_neg (by rw [hc]; simp)]; rfl
  | a :: r => by
    rw [List.cons_append, List.takeWhile_cons, List.takeWhile_cons]
    by_cases h : p a = true
    · rw [if_pos h, if_pos h, takeW_app p c hc u r]
    · rw [if_neg h, if_neg h]

theorem upto93_app (u : List UInt8) : ∀ (r x : List UInt8), upto93 r = some x → upto93 (r ++ u) = some x
  | [], x, h => by cases h
  | c :: r, x, h => by
    rw [List.cons_append, upto93]
    rw [upto93] at h
    by_cases hc : c = 93
    · rw [if_pos hc] at h ⊢; exact h
    · rw [if_neg hc] at h ⊢
      cases hu : upto93 r with
      | none => rw [hu] at h; cases h
      | some y => rw [hu] at h; rw [upto93_app u r y hu]; exact h

theorem token_join {r : List UInt8} {kx : Nat × List UInt8} (u : List UInt8) (h : tokenL r = some kx) : tokenL (r ++ 10 :: u) = some kx := by
  cases r with
  | nil => cases h
  | cons c t =>
    rw [List.cons_append, tokenL]
    rw [tokenL] at h
    have ea : ∀ p : UInt8 → Bool, p 10 = false → (c :: (t ++ 10 :: u)).takeWhile p = (c :: t).takeWhile p := fun p hp => takeW_app p 10 hp u (c :: t)
    by_cases h1 : letter c = true
    · rw [if_pos h1] at h ⊢; rw [ea either (by decide)]; exact h
    rw [if_neg h1] at h ⊢
    by_cases h2 : digit c = true
    · rw [if_pos h2] at h ⊢; rw [ea digit (by decide)]; exact h
    rw [if_neg h2] at h ⊢
    by_cases h3 : c = 91
    · rw [if_pos h3] at h ⊢
      cases hu : upto93 (c :: t) with
      | none => rw [hu] at h; cases h
      | some y =>
        have := upto93_app (10 :: u) _ _ hu
        rw [List.cons_append] at this
        rw [this]
        rw [hu] at h
        exact h
    rw [if_neg h3] at h ⊢
    exact h

/-- The same tokens elsewhere. -/
theorem toks_shift (L L2 : Nat) : ∀ (f n n2 : Nat) (r : List UInt8) (l : List Tok), toksF L f n r = .ok l → n2 + l.length ≤ 501 → ∃ l2, toksF L2 f n2 r = .ok l2 ∧ l.map E = l2.map E := by
  intro f
  induction f with
  | zero => intro n n2 r l h _; cases h; exact ⟨_, rfl, rfl⟩
  | succ f ih =>
    intro n n2 r l h hl
    rw [toksF] at h ⊢
    cases hs : skipL r with
    | nil => rw [hs] at h; cases h; exact ⟨_, rfl, rfl⟩
    | cons c t =>
      rw [hs] at h
      dsimp only at h ⊢
      cases ht : tokenL (c :: t) with
      | none => rw [ht] at h; cases h
      | some kx =>
        obtain ⟨k, x⟩ := kx
        rw [ht] at h
        dsimp only at h ⊢
        by_cases h5 : n = 500
        · rw [if_pos h5] at h; cases h
        rw [if_neg h5] at h
        cases hq : toksF L f (n + 1) ((c :: t).drop x.length) with
        | error b => rw [hq] at h; cases h
        | ok q =>
          rw [hq] at h
          cases h
          have hq1 : 1 ≤ q.length := by
            cases f with
            | zero => cases hq; simp
            | succ f =>
              cases q with
              | nil =>
                rw [toksF] at hq
                split at hq
                · cases hq
                · split at hq
                  · cases hq
                  · split at hq
                    · cases hq
                    · split at hq <;> cases hq
              | cons a b => simp
          simp only [List.length_cons] at hl
          obtain ⟨l2, h1, h2⟩ := ih (n + 1) (n2 + 1) _ q hq (by omega)
          refine ⟨_, by rw [if_neg (by omega), h1], ?_⟩
          simp only [List.map_cons, h2]
          rfl

/-- The tokens of one text and then another. -/
theorem toks_join (L L2 : Nat) (u : List UInt8) : ∀ (f f2 n n2 : Nat) (r : List UInt8) (l : List Tok), r.length < f → (r ++ 10 :: u).length < f2 → toksF L f n r = .ok l → n2 + l.length ≤ 501 →
    ∃ a e a2 g, l = a ++ [e] ∧ e.kind = 0 ∧ a.map E = a2.map E ∧ u.length < g ∧ toksF L2 f2 n2 (r ++ 10 :: u) = (match toksF L2 g (n2 + a.length) u with | .error b => .error b | .ok q => .ok (a2 ++ q)) := by
  intro f
  induction f with
  | zero => intro f2 n n2 r l h; omega
  | succ f ih =>
    intro f2 n n2 r l hf hf2 h hl
    cases f2 with
    | zero => omega
    | succ f2 =>
      obtain ⟨sj1, sj2⟩ := skip_join u r.length r (Nat.le_refl _)
      rw [toksF] at h
      cases hs : skipL r with
      | nil =>
        rw [hs] at h
        cases h
        refine ⟨[], ⟨0, L, []⟩, [], f2 + 1, rfl, rfl, rfl, by simp only [List.length_append, List.length_cons] at hf2; omega, ?_⟩
        rw [toksF, sj1 hs, toksF]
        simp only [List.length_nil, Nat.add_zero, List.nil_append]
        split
        · rfl
        · split
          · rfl
          · split
            · rfl
            · split <;> rfl
      | cons c t =>
        rw [hs] at h
        dsimp only at h
        cases ht : tokenL (c :: t) with
        | none => rw [ht] at h; cases h
        | some kx =>
          obtain ⟨k, x⟩ := kx
          rw [ht] at h
          dsimp only at h
          by_cases h5 : n = 500
          · rw [if_pos h5] at h; cases h
          rw [if_neg h5] at h
          have hxl := tokenL_len ht
          have hsl := skipL_le r
          rw [hs] at hsl
          cases hq : toksF L f (n + 1) ((c :: t).drop x.length) with
          | error b => rw [hq] at h; cases h
          | ok q =>
            rw [hq] at h
            cases h
            simp only [List.length_cons] at hl
            have hdl : ((c :: t).drop x.length).length < f := by rw [List.length_drop]; omega
            obtain ⟨a, e, a2, g, e1, e2, e3, e4, e5⟩ := ih f2 (n + 1) (n2 + 1) _ q hdl (by simp only [List.length_append, List.length_drop, List.length_cons] at hf2 hxl hsl ⊢; omega) hq (by omega)
            refine ⟨⟨kindOf k x, L - (c :: t).length, x⟩ :: a, e, ⟨kindOf k x, L2 - ((c :: t) ++ 10 :: u).length, x⟩ :: a2, g, by rw [e1]; rfl, e2, by simp only [List.map_cons, e3]; rfl, e4, ?_⟩
            have hq1 : 1 ≤ q.length := by rw [e1]; simp
            rw [toksF, sj2 c t hs]
            rw [List.cons_append]
            dsimp only
            have ht2 := token_join u ht
            rw [List.cons_append] at ht2
            rw [ht2]
            dsimp only
            rw [if_neg (by omega)]
            have hdd : (c :: (t ++ 10 :: u)).drop x.length = (c :: t).drop x.length ++ 10 :: u := by
              rw [← List.cons_append, List.drop_append_of_le_length hxl.2.1]
            rw [hdd, e5]
            have en : n2 + 1 + a.length = n2 + (a.length + 1) := by omega
            simp only [List.length_cons, en]
            cases toksF L2 g (n2 + (a.length + 1)) u <;> rfl

theorem dropW_suffix (p : UInt8 → Bool) (r : List UInt8) : ∃ z, r = z ++ r.dropWhile p := ⟨r.takeWhile p, (List.takeWhile_append_dropWhile (p := p) (l := r)).symm⟩

theorem tailF_suffix : ∀ (f : Nat) (r : List UInt8), ∃ z, r = z ++ tailF f r
  | 0, r => ⟨[], rfl⟩
  | f + 1, r => by
    rw [tailF]
    split
    · obtain ⟨z1, h1⟩ := dropW_suffix ofLine r
      obtain ⟨z2, h2⟩ := dropW_suffix blank (r.dropWhile ofLine)
      obtain ⟨z3, h3⟩ := tailF_suffix f ((r.dropWhile ofLine).dropWhile blank)
      exact ⟨z1 ++ z2 ++ z3, by rw [List.append_assoc, List.append_assoc, ← h3, ← h2, ← h1]⟩
    · exact ⟨[], rfl⟩

theorem skipL_suffix (r : List UInt8) : ∃ z, r = z ++ skipL r := by
  obtain ⟨z1, h1⟩ := dropW_suffix blank r
  obtain ⟨z2, h2⟩ := tailF_suffix r.length (r.dropWhile blank)
  exact ⟨z1 ++ z2, by unfold skipL; rw [List.append_assoc, ← h2, ← h1]⟩

/-- No token but what stands in the text. -/
theorem toks_text (L : Nat) : ∀ (f n : Nat) (r : List UInt8) (l : List Tok), toksF L f n r = .ok l → ∀ t ∈ l, t.kind = 8 → ∃ a b, r = a ++ wElse ++ b := by
  intro f
  induction f with
  | zero => intro n r l h t ht hk; cases h; simp at ht; subst ht; simp at hk
  | succ f ih =>
    intro n r l h t ht hk
    rw [toksF] at h
    have hsuf : ∃ z, r = z ++ skipL r := skipL_suffix r
    obtain ⟨z, hz⟩ := hsuf
    cases hs : skipL r with
    | nil => rw [hs] at h; cases h; simp at ht; subst ht; simp at hk
    | cons c w =>
      rw [hs] at h hz
      dsimp only at h
      cases hto : tokenL (c :: w) with
      | none => rw [hto] at h; cases h
      | some kx =>
        obtain ⟨k, x⟩ := kx
        rw [hto] at h
        dsimp only at h
        by_cases h5 : n = 500
        · rw [if_pos h5] at h; cases h
        rw [if_neg h5] at h
        have hxl := tokenL_len hto
        have hsplit : c :: w = x ++ (c :: w).drop x.length := by
          have := List.take_append_drop x.length (c :: w)
          rw [hxl.2.2] at this
          exact this.symm
        cases hq : toksF L f (n + 1) ((c :: w).drop x.length) with
        | error b => rw [hq] at h; cases h
        | ok q =>
          rw [hq] at h
          cases h
          rcases List.mem_cons.1 ht with rfl | ht
          · have hx : x = wElse := by
              have hk' : kindOf k x = 8 := hk
              have h9 : k ≤ 4 := by
                rcases tokenL_is hto with h | h | h | h <;> omega
              unfold kindOf at hk'
              split at hk'; · omega
              split at hk'; · omega
              split at hk'; · omega
              split at hk'
              · assumption
              · omega
            exact ⟨z, (c :: w).drop x.length, by rw [List.append_assoc, ← hx, ← hsplit]; exact hz⟩
          · obtain ⟨a, b, hab⟩ := ih (n + 1) _ q hq t ht hk
            refine ⟨z ++ x ++ a, b, ?_⟩
            rw [hz]
            conv => lhs; rw [hsplit, hab]
            simp only [List.append_assoc]

end RP

namespace RP

theorem toks_len (L : Nat) : ∀ (f n : Nat) (r : List UInt8) (l : List Tok), toksF L f n r = .ok l → l.length ≤ r.length + 1 := by
  intro f
  induction f with
  | zero => intro n r l h; cases h; simp
  | succ f ih =>
    intro n r l h
    rw [toksF] at h
    have hsl := skipL_le r
    cases hs : skipL r with
    | nil => rw [hs] at h; cases h; simp
    | cons c t =>
      rw [hs] at h hsl
      dsimp only at h
      cases ht : tokenL (c :: t) with
      | none => rw [ht] at h; cases h
      | some kx =>
        obtain ⟨k, x⟩ := kx
        rw [ht] at h
        dsimp only at h
        by_cases h5 : n = 500
        · rw [if_pos h5] at h; cases h
        rw [if_neg h5] at h
        have hxl := tokenL_len ht
        cases hq : toksF L f (n + 1) ((c :: t).drop x.length) with
        | error b => rw [hq] at h; cases h
        | ok q =>
          rw [hq] at h
          cases h
          have := ih _ _ _ hq
          rw [List.length_drop] at this
          simp only [List.length_cons] at this hsl hxl ⊢
          omega

variable {S : List UInt8 → Option (List RS.Rg)}

/-- What rules leave is an end; they are more; they are written in no more than there was. -/
theorem rulesL_facts (hS : SetS S) (c : Nat) : ∀ (f : Nat) (rs : List Ru) (ts : List Tok) (x : List Ru) (r : List Tok), rulesL S c f rs ts = .ok (x, r) →
    (∃ z, ts = z ++ r) ∧ rs.length ≤ x.length ∧ (Lt ts → (∀ y ∈ rs, y.Ok) → (rulesT x).length + wt r ≤ (rulesT rs).length + wt ts ∧ ∀ y ∈ x, y.Ok) := by
  intro f
  induction f with
  | zero => intro rs ts x r h; cases h; exact ⟨⟨[], rfl⟩, Nat.le_refl _, fun _ ho => ⟨Nat.le_refl _, ho⟩⟩
  | succ f ih =>
    intro rs ts x r h
    rw [rulesL] at h
    by_cases h0 : (hd ts).kind = 6 ∨ (hd ts).kind = 7
    · rw [if_pos h0] at h
      by_cases h20 : rs.length = 20
      · rw [if_pos h20] at h; cases h
      rw [if_neg h20] at h
      cases h1 : ruleP S c ts with
      | error b => rw [h1] at h; cases h
      | ok v =>
        obtain ⟨y, s⟩ := v
        rw [h1] at h
        obtain ⟨⟨z1, hz1, _⟩, hl1, _⟩ := rule_good hS c () ts y s h1
        obtain ⟨⟨z2, hz2⟩, hl2, hl3⟩ := ih _ _ _ _ h
        refine ⟨⟨z1 ++ z2, by rw [hz1, hz2, List.append_assoc]⟩, by simp only [List.length_append, List.length_cons, List.length_nil] at hl2; omega, fun hlt ho => ?_⟩
        have a1 := hl1 hlt trivial
        have a2 := hl3 (by rw [hz1] at hlt; exact hlt.drop) (fun q hq => by simp at hq; rcases hq with hq | rfl; · exact ho q hq
                                                                            · exact a1.2)
        refine ⟨?_, a2.2⟩
        have h5 := a1.1
        have h6 := a2.1
        have e : (rulesT (rs ++ [y])).length = (rulesT rs).length + y.text.length := by unfold rulesT; simp
        simp only [l0] at h5
        rw [e] at h6
        omega
    · rw [if_neg h0] at h; cases h; exact ⟨⟨[], rfl⟩, Nat.le_refl _, fun _ ho => ⟨Nat.le_refl _, ho⟩⟩

theorem Pkind {p p2 q q2 : List Tok} (h : p.map E = p2.map E) (hp : p ≠ []) : (hd (p ++ q)).kind = (hd (p2 ++ q2)).kind := Ekind (hd_of h hp)

/-- Rules up to where another text begins. -/
theorem rules_on (hS : SetS S) (c : Nat) : ∀ (f : Nat) (rs : List Ru) (p q : List Tok) (x : List Ru), rulesL S c f rs (p ++ q) = .ok (x, q) → (p ++ q).length ≤ f →
    ∀ (f2 : Nat) (rs2 : List Ru) (p2 q2 : List Tok), (p2 ++ q2).length ≤ f2 → rs.map Ru.text = rs2.map Ru.text → p.map E = p2.map E →
      ∃ x2 f3, rulesL S c f2 rs2 (p2 ++ q2) = rulesL S c f3 x2 q2 ∧ q2.length ≤ f3 ∧ x.map Ru.text = x2.map Ru.text := by
  intro f
  induction f with
  | zero =>
    intro rs p q x h hl f2 rs2 p2 q2 hl2 hT hE
    have hv := Except.ok.inj (show Except.ok (rs, p ++ q) = Except.ok (x, q) from h)
    have e1 := congrArg Prod.fst hv
    dsimp only at e1
    subst e1
    have hp : p = [] := by have : (p ++ q).length = 0 := by omega
                           rw [List.length_append] at this
                           exact List.length_eq_zero_iff.1 (by omega)
    subst hp
    have hp2 : p2 = [] := List.length_eq_zero_iff.1 (by have := len_of hE; simpa using this.symm)
    subst hp2
    exact ⟨rs2, f2, rfl, by simpa using hl2, hT⟩
  | succ f ih =>
    intro rs p q x h hl f2 rs2 p2 q2 hl2 hT hE
    rw [rulesL] at h
    by_cases h0 : (hd (p ++ q)).kind = 6 ∨ (hd (p ++ q)).kind = 7
    · rw [if_pos h0] at h
      by_cases h20 : rs.length = 20
      · rw [if_pos h20] at h; cases h
      rw [if_neg h20] at h
      cases h1 : ruleP S c (p ++ q) with
      | error b => rw [h1] at h; cases h
      | ok v =>
        obtain ⟨y, s⟩ := v
        rw [h1] at h
        dsimp only at h
        obtain ⟨⟨z1, hz1, hs1⟩, _, hc1⟩ := rule_good hS c () (p ++ q) y s h1
        obtain ⟨⟨z2, hz2⟩, _, _⟩ := rulesL_facts hS c f _ _ _ _ h
        have hz1n := hs1 rfl
        have hpe : p = z1 ++ z2 := List.append_cancel_right (bs := q) (by rw [hz1, hz2, List.append_assoc])
        have hpn : p ≠ [] := by rw [hpe]; exact fun e => hz1n (List.append_eq_nil_iff.1 e).1
        obtain ⟨y2, r2, k1, k2, k3⟩ := hc1 p q z2 rfl hz2 (by simp) () p2 q2 rfl hE
        dsimp only at k1
        have l1 := len_of hE
        have l2 := len_of k3
        have l3 := congrArg List.length hpe
        have l4 : 0 < z1.length := List.length_pos_iff.2 hz1n
        rw [List.length_append] at l3 hl hl2
        cases f2 with
        | zero => omega
        | succ f2 =>
          rw [hz2] at h
          obtain ⟨x2, f3, m1, m2, m3⟩ := ih (rs ++ [y]) z2 q x h (by rw [List.length_append]; omega) f2 (rs2 ++ [y2]) r2 q2 (by rw [List.length_append]; omega) (by rw [List.map_append, List.map_append, hT, List.map_cons, List.map_cons, k2]) k3
          refine ⟨x2, f3, ?_, m2, m3⟩
          have h02 : (hd (p2 ++ q2)).kind = 6 ∨ (hd (p2 ++ q2)).kind = 7 := by rw [← Pkind (q := q) hE hpn]; exact h0
          have h202 : ¬ rs2.length = 20 := by have := congrArg List.length hT; simp only [List.length_map] at this; omega
          rw [rulesL, if_pos h02, if_neg h202, k1]
          exact m1
    · rw [if_neg h0] at h
      have hv := Except.ok.inj h
      have e1 := congrArg Prod.fst hv
      have e2 := congrArg Prod.snd hv
      dsimp only at e1 e2
      subst e1
      have hp : p = [] := by have := congrArg List.length e2; rw [List.length_append] at this; exact List.length_eq_zero_iff.1 (by omega)
      subst hp
      have hp2 : p2 = [] := List.length_eq_zero_iff.1 (by have := len_of hE; simpa using this.symm)
      subst hp2
      exact ⟨rs2, f2, rfl, by simpa using hl2, hT⟩

/-- The same rules elsewhere, others ahead. -/
theorem rules_again (hS : SetS S) (c : Nat) (pre : List Ru) : ∀ (f : Nat) (rs : List Ru) (ts : List Tok) (x : List Ru) (r : List Tok), rulesL S c f rs ts = .ok (x, r) → ts.length ≤ f → r ≠ [] → pre.length + x.length ≤ 20 →
    ∀ (f2 : Nat) (rs2 : List Ru) (ts2 : List Tok), ts2.length ≤ f2 → rs.map Ru.text = rs2.map Ru.text → ts.map E = ts2.map E →
      ∃ x2 r2, rulesL S c f2 (pre ++ rs2) ts2 = .ok (pre ++ x2, r2) ∧ x.map Ru.text = x2.map Ru.text ∧ r.map E = r2.map E := by
  intro f
  induction f with
  | zero =>
    intro rs ts x r h hl hr
    cases h
    exact absurd (List.length_eq_zero_iff.1 (by omega)) hr
  | succ f ih =>
    intro rs ts x r h hl hr h20x f2 rs2 ts2 hl2 hT hE
    have hfacts := rulesL_facts hS c _ _ _ _ _ h
    obtain ⟨⟨z, hz⟩, hlen, _⟩ := hfacts
    have htn : ts ≠ [] := by rw [hz]; exact fun e => hr (List.append_eq_nil_iff.1 e).2
    have l1 := len_of hE
    have ltn : 0 < ts.length := List.length_pos_iff.2 htn
    have hk : (hd ts).kind = (hd ts2).kind := by have := Pkind (q := []) (q2 := []) hE htn; simpa using this
    have lT := congrArg List.length hT
    simp only [List.length_map] at lT
    rw [rulesL] at h
    cases f2 with
    | zero => omega
    | succ f2 =>
      by_cases h0 : (hd ts).kind = 6 ∨ (hd ts).kind = 7
      · rw [if_pos h0] at h
        by_cases h20 : rs.length = 20
        · rw [if_pos h20] at h; cases h
        rw [if_neg h20] at h
        cases h1 : ruleP S c ts with
        | error b => rw [h1] at h; cases h
        | ok v =>
          obtain ⟨y, s⟩ := v
          rw [h1] at h
          dsimp only at h
          obtain ⟨⟨z1, hz1, hs1⟩, _, hc1⟩ := rule_good hS c () ts y s h1
          have hz1n := hs1 rfl
          obtain ⟨y2, r2, k1, k2, k3⟩ := hc1 ts [] s (by simp) (by simp) (by simp) () ts2 [] rfl hE
          dsimp only at k1
          rw [List.append_nil, List.append_nil] at k1
          have hlen2 := (rulesL_facts hS c _ _ _ _ _ h).2.1
          simp only [List.length_append, List.length_cons, List.length_nil] at hlen2
          have l2 := len_of k3
          have l3 := congrArg List.length hz1
          rw [List.length_append] at l3
          have l4 : 0 < z1.length := List.length_pos_iff.2 hz1n
          obtain ⟨x2, r3, m1, m2, m3⟩ := ih (rs ++ [y]) s x r h (by omega) hr h20x f2 (rs2 ++ [y2]) r2 (by omega) (by rw [List.map_append, List.map_append, hT, List.map_cons, List.map_cons, k2]) k3
          refine ⟨x2, r3, ?_, m2, m3⟩
          have h02 : (hd ts2).kind = 6 ∨ (hd ts2).kind = 7 := by rw [← hk]; exact h0
          rw [rulesL, if_pos h02, if_neg (by rw [List.length_append]; omega), k1]
          dsimp only
          rw [List.append_assoc]
          exact m1
      · rw [if_neg h0] at h
        cases h
        refine ⟨rs2, ts2, ?_, hT, hE⟩
        rw [rulesL, if_neg (by rw [← hk]; exact h0)]

theorem rulesT_of {x x2 : List Ru} (h : x.map Ru.text = x2.map Ru.text) : rulesT x = rulesT x2 := by
  unfold rulesT
  rw [List.flatMap_def, List.flatMap_def, h]

theorem clsL_none (S : List UInt8 → Option (List RS.Rg)) : ∀ (f : Nat) (cs : List Cl) (ts : List Tok) (x : List Cl) (r : List Tok), clsL S f cs ts = .ok (x, r) → cs.length ≤ x.length ∧ (x.length = cs.length → 0 < f → r = ts ∧ x = cs ∧ (hd ts).kind ≠ 5) := by
  intro f
  induction f with
  | zero => intro cs ts x r h; cases h; exact ⟨Nat.le_refl _, fun _ h => absurd h (by omega)⟩
  | succ f ih =>
    intro cs ts x r h
    rw [clsL] at h
    by_cases h0 : (hd ts).kind = 5
    · rw [if_pos h0] at h
      cases h1 : classP S cs.length ts with
      | error b => rw [h1] at h; cases h
      | ok v =>
        obtain ⟨y, q⟩ := v
        rw [h1] at h
        have := (ih _ _ _ _ h).1
        simp only [List.length_append, List.length_cons, List.length_nil] at this
        exact ⟨by omega, fun e => by omega⟩
    · rw [if_neg h0] at h
      cases h
      exact ⟨Nat.le_refl _, fun _ _ => ⟨rfl, rfl, h0⟩⟩

/-- A file without classes, in parts. -/
theorem file_parts {ts : List Tok} {f : Fi} {q : List Tok} (hts : ts ≠ []) (h : fileP S ts = .ok (f, q)) (hc : f.classes = []) :
    (hd ts).kind ≠ 5 ∧ ∃ r2 r3 t, rulesL S 0 ts.length [] ts = .ok (f.rules, r2) ∧ elseP 0 r2 = .ok (f.els, r3) ∧ r3 = t :: q ∧ t.kind = 0 := by
  unfold fileP at h
  cases h1 : clsL S ts.length [] ts with
  | error b => rw [h1] at h; cases h
  | ok v =>
    obtain ⟨cs, r⟩ := v
    rw [h1] at h
    dsimp only at h
    cases h2 : rulesL S cs.length r.length [] r with
    | error b => rw [h2] at h; cases h
    | ok v =>
      obtain ⟨rs, r2⟩ := v
      rw [h2] at h
      dsimp only at h
      cases h3 : elseP cs.length r2 with
      | error b => rw [h3] at h; cases h
      | ok v =>
        obtain ⟨k, r3⟩ := v
        rw [h3] at h
        dsimp only at h
        cases h4 : takeP cs.length 0 r3 with
        | error b => rw [h4] at h; cases h
        | ok v =>
          obtain ⟨t, r4⟩ := v
          rw [h4] at h
          cases h
          dsimp only at hc
          subst hc
          obtain ⟨rfl, _, hk⟩ := (clsL_none S _ _ _ _ _ h1).2 rfl (List.length_pos_iff.2 hts)
          cases r3 with
          | nil => cases h4
          | cons u r3 =>
            rw [takeP] at h4
            by_cases hu : u.kind = 0
            · rw [if_pos hu] at h4
              cases h4
              exact ⟨hk, r2, _, _, h2, h3, rfl, hu⟩
            · rw [if_neg hu] at h4; cases h4

/-- And such a file out of its parts. -/
theorem file_of {ts : List Tok} {rs : List Ru} {k : Bool} {r2 r3 q : List Tok} {t : Tok} (hk : (hd ts).kind ≠ 5) (h2 : rulesL S 0 ts.length [] ts = .ok (rs, r2)) (h3 : elseP 0 r2 = .ok (k, r3)) (h4 : r3 = t :: q) (ht : t.kind = 0) :
    fileP S ts = .ok (⟨[], rs, k⟩, q) := by
  unfold fileP
  have h1 : clsL S ts.length [] ts = .ok ([], ts) := by
    cases hl : ts.length with
    | zero => rfl
    | succ n => rw [clsL, if_neg hk]
  rw [h1]
  dsimp only [List.length_nil]
  rw [h2]
  dsimp only
  rw [h3, h4]
  dsimp only
  rw [takeP, if_pos ht]

theorem suffix_end {e : Tok} : ∀ {a z : List Tok} {t : Tok} {q : List Tok}, (∀ u ∈ a, u.kind ≠ 0) → a ++ [e] = z ++ t :: q → t.kind = 0 → t :: q = [e]
  | [], [], _, _, _, h, _ => h.symm
  | [], b :: z, _, _, _, h, _ => by have := congrArg List.length h; simp at this
  | b :: a, [], t, q, hA, h, ht => by
    simp at h
    exact absurd ht (by rw [← h.1]; exact hA b (by simp))
  | b :: a, c :: z, t, q, hA, h, ht => by
    simp at h
    exact suffix_end (a := a) (z := z) (fun u hu => hA u (by simp [hu])) h.2 ht

theorem files_join (hS : SetS S) {a a2 B B2 : List Tok} {e : Tok} {fa fb : Fi} {qa qb : List Tok} (he : e.kind = 0) (hA : ∀ t ∈ a, t.kind ≠ 0 ∧ t.kind ≠ 8) (ha2 : a.map E = a2.map E) (hB2 : B.map E = B2.map E) (hBn : B ≠ [])
    (ha : fileP S (a ++ [e]) = .ok (fa, qa)) (hb : fileP S B = .ok (fb, qb)) (hca : fa.classes = []) (hcb : fb.classes = []) (hl : fa.rules.length + fb.rules.length ≤ 20) :
    ∃ fc q, fileP S (a2 ++ B2) = .ok (fc, q) ∧ fc.classes = [] ∧ fc.text = fa.text ++ fb.text := by
  obtain ⟨ka, ra2, ra3, ta, ha2', ha3, hra3, hta⟩ := file_parts (by simp) ha hca
  obtain ⟨kb, rb2, rb3, tb, hb2', hb3, hrb3, htb⟩ := file_parts hBn hb hcb
  obtain ⟨⟨za, hza⟩, _, _⟩ := rulesL_facts hS 0 _ _ _ _ _ ha2'
  -- the first file's rules end where its tokens do
  have hpair : ∀ {x y : Bool} {l m : List Tok}, (Except.ok (x, l) : Res Bool) = .ok (y, m) → x = y ∧ l = m := fun h => by
    have := Except.ok.inj h
    exact ⟨congrArg Prod.fst this, congrArg Prod.snd this⟩
  have hra2n : ra2 ≠ [] := by
    intro e0
    rw [e0] at ha3
    have h3 : elseP 0 [] = .ok (true, []) := rfl
    rw [h3] at ha3
    rw [← (hpair ha3).2] at hra3
    cases hra3
  have hk8 : (hd ra2).kind ≠ 8 := by
    cases ra2 with
    | nil => exact absurd rfl hra2n
    | cons t r =>
      have hm : t ∈ a ++ [e] := by rw [hza]; simp
      simp at hm
      rcases hm with hm | rfl
      · exact (hA t hm).2
      · show t.kind ≠ 8; omega
  have h3 : elseP 0 ra2 = .ok (true, ra2) := by unfold elseP; rw [if_neg hk8]
  rw [h3] at ha3
  have hels : fa.els = true := (hpair ha3).1.symm
  have hra2 : ra2 = [e] := by
    rw [← (hpair ha3).2] at hra3
    rw [hra3] at hza ⊢
    exact suffix_end (fun t ht => (hA t ht).1) hza hta
  rw [hra2] at ha2'
  obtain ⟨x2, f3, m1, m2, m3⟩ := rules_on hS 0 _ [] a [e] fa.rules ha2' (Nat.le_refl _) (a2 ++ B2).length [] a2 B2 (Nat.le_refl _) rfl ha2
  have hrb2n : rb2 ≠ [] := by
    intro e0
    rw [e0] at hb3
    have h3 : elseP 0 [] = .ok (true, []) := rfl
    rw [h3] at hb3
    rw [← (hpair hb3).2] at hrb3
    cases hrb3
  have lx : x2.length = fa.rules.length := by have := congrArg List.length m3; simpa using this.symm
  obtain ⟨y2, r2, n1, n2, n3⟩ := rules_again hS 0 x2 _ [] B fb.rules rb2 hb2' (Nat.le_refl _) hrb2n (by omega) f3 [] B2 m2 rfl hB2
  rw [List.append_nil] at n1
  obtain ⟨⟨ze, hze, _⟩, _, hce⟩ := else_good 0 () rb2 fb.els rb3 hb3
  obtain ⟨k2, r3, o1, o2, o3⟩ := hce rb2 [] rb3 (by simp) (by simp) (fun _ => by rw [hrb3]; simp) () r2 [] rfl n3
  dsimp only at o1 o2
  rw [List.append_nil, List.append_nil] at o1
  rw [hrb3] at o3
  obtain ⟨t3, q3, hr3, ht3, _⟩ := cons_of o3
  have hk5 : (hd (a2 ++ B2)).kind ≠ 5 := by
    cases a with
    | nil =>
      have : a2 = [] := List.length_eq_zero_iff.1 (by have := len_of ha2; simpa using this.symm)
      subst this
      rw [List.nil_append]
      have := Pkind (q := []) (q2 := []) hB2 hBn
      simp only [List.append_nil] at this
      rw [← this]
      exact kb
    | cons t a =>
      rw [← Pkind (q := [e]) ha2 (by simp)]
      exact ka
  refine ⟨_, q3, file_of hk5 (m1.trans n1) o1 hr3 (by rw [← Ekind ht3]; exact htb), rfl, ?_⟩
  unfold Fi.text
  dsimp only
  rw [hca, hcb, hels, ← o2]
  have e1 : rulesT (x2 ++ y2) = rulesT fa.rules ++ rulesT fb.rules := by
    rw [rulesT_of m3, rulesT_of n2]
    unfold rulesT
    simp
  rw [e1]
  simp [classesT]

end RP
