/- The contract of rule.tokens. -/
import Derived.Test.YtjbmdnkpfkelmaaGreatDoorTokC
import Derived.Maps.OwnSet
namespace Go.Proofs.YtjbmdnkpfkelmaaGreatDoor.Q
open Go.RowKit Go.Shelf Go.Maps

theorem owns_mono {w : World} {B B' : Nat} {e : TypeId} {size : Nat} {v : Value} {n : Nat} {xs : List Value} (h : w.ownsRow B e size v n xs) (hB : B' ≤ B) : w.ownsRow B' e size v n xs := by
  obtain ⟨h1, h2 | ⟨g, cap, cur, rfl, hg, rest⟩⟩ := h
  · exact ⟨h1, Or.inl h2⟩
  · exact ⟨h1, Or.inr ⟨g, cap, cur, rfl, Nat.le_trans hB hg, rest⟩⟩

theorem owns_below {w w' : World} {base B : Nat} {e : TypeId} {size : Nat} {v : Value} {n : Nat} {xs : List Value} (h : w.ownsRow base e size v n xs) (hlt : ∀ g, v.ownBlock = some g → g < B) (hb : Below B w w') : w'.ownsRow base e size v n xs := by
  obtain ⟨h1, h2 | ⟨g, cap, cur, rfl, hg, hh, rest⟩⟩ := h
  · exact ⟨h1, Or.inl h2⟩
  · exact ⟨h1, Or.inr ⟨g, cap, cur, rfl, hg, (hb.block g (hlt g rfl)).trans hh, rest⟩⟩

theorem owns_later {w w' : World} {base : Nat} {e : TypeId} {size : Nat} {v : Value} {n : Nat} {xs : List Value} (h : w.ownsRow base e size v n xs) (hb : Below w.heap.size w w') : w'.ownsRow base e size v n xs :=
  owns_below h (fun g hg => (h.lt g hg).2) hb

/-- tokenAt, out of the token that stands there. -/
theorem tokenAt_ok (s : ByteArray) (n : Nat) (hs : s.size ≤ 1000000) (hn : n < s.size) (k : Nat) (x : List UInt8) (h : RP.tokenL (s.data.toList.drop n) = some (k, x)) (w : World) :
    Calls Tryz.prog 15 #[.string s, .int .i64 n] w fun e w' => e = .returned (tokV k n ⟨x.toArray⟩) ∧ Below w.heap.size w w' := by
  have hd := drop_byte s n hn
  rw [hd] at h
  unfold RP.tokenL at h
  simp only at h
  by_cases hl : RP.letter s[n] = true
  · rw [if_pos hl, ← hd] at h
    cases h
    exact tokenAt_letter s n hs hn hl w
  · rw [if_neg hl] at h
    replace hl := Bool.eq_false_iff.2 hl
    by_cases hg : RP.digit s[n] = true
    · rw [if_pos hg, ← hd] at h
      cases h
      exact tokenAt_digit s n hs hn hl hg w
    · rw [if_neg hg] at h
      replace hg := Bool.eq_false_iff.2 hg
      by_cases h91 : s[n] = 91
      · rw [if_pos h91, ← hd] at h
        obtain ⟨y, hy, e⟩ := Option.map_eq_some_iff.1 h
        cases e
        exact tokenAt_set s n hs hn hl hg h91 x hy w
      · rw [if_neg h91] at h
        by_cases hm : RP.marks.contains s[n] = true
        · rw [if_pos hm] at h
          cases h
          exact tokenAt_mark s n hs hn hl hg h91 hm w
        · rw [if_neg hm] at h
          cases h

/-- tokenAt, where there is none. -/
theorem tokenAt_bad (s : ByteArray) (n : Nat) (hs : s.size ≤ 1000000) (hn : n < s.size) (h : RP.tokenL (s.data.toList.drop n) = none) (w : World) :
    Calls Tryz.prog 15 #[.string s, .int .i64 n] w fun e w' => Throws w 3 n e w' ∧ Below w.heap.size w w' := by
  have hd := drop_byte s n hn
  rw [hd] at h
  unfold RP.tokenL at h
  simp only at h
  by_cases hl : RP.letter s[n] = true
  · rw [if_pos hl] at h; cases h
  · rw [if_neg hl] at h
    replace hl := Bool.eq_false_iff.2 hl
    by_cases hg : RP.digit s[n] = true
    · rw [if_pos hg] at h; cases h
    · rw [if_neg hg] at h
      replace hg := Bool.eq_false_iff.2 hg
      by_cases h91 : s[n] = 91
      · rw [if_pos h91, ← hd] at h
        exact tokenAt_open s n hs hn hl hg h91 (by simpa using h) w
      · rw [if_neg h91] at h
        by_cases hm : RP.marks.contains s[n] = true
        · rw [if_pos hm] at h; cases h
        · exact tokenAt_none s n hs hn hl hg h91 (Bool.eq_false_iff.2 hm) w

/-- The words that are no names, as the map reads. -/
def wordsD : DataW Unit := .map [(.string RP.wBreak, .lit (.int .i64 6)), (.string RP.wClass, .lit (.int .i64 5)), (.string RP.wElse, .lit (.int .i64 8)), (.string RP.wKeep, .lit (.int .i64 7))]

theorem words_made : ((((DataW.map [] : DataW Unit).put (.string RP.wClass) (.lit (.int .i64 5))).put (.string RP.wBreak) (.lit (.int .i64 6))).put (.string RP.wKeep) (.lit (.int .i64 7))).put (.string RP.wElse) (.lit (.int .i64 8)) = wordsD := by rfl

theorem words_look (k : Nat) (x : List UInt8) : (Maps.has wordsD (.string x) = false ∧ RP.kindOf k x = k) ∨ (Maps.has wordsD (.string x) = true ∧ wordsD.atKey (.string x) (.lit (.int .i64 0)) = .lit (.int .i64 (RP.kindOf k x : Nat))) := by
  by_cases h1 : x = RP.wClass
  · subst h1; exact .inr ⟨rfl, rfl⟩
  by_cases h2 : x = RP.wBreak
  · subst h2; exact .inr ⟨rfl, rfl⟩
  by_cases h3 : x = RP.wKeep
  · subst h3; exact .inr ⟨rfl, rfl⟩
  by_cases h4 : x = RP.wElse
  · subst h4; exact .inr ⟨rfl, rfl⟩
  refine .inl ⟨?_, ?_⟩
  · have e : ∀ y : List UInt8, y ≠ x → (Lit.string y).sameKey (.string x) = false := fun y h => by simpa [Lit.sameKey] using h
    simp [Maps.has, wordsD, e _ (Ne.symm h1), e _ (Ne.symm h2), e _ (Ne.symm h3), e _ (Ne.symm h4)]
  · unfold RP.kindOf
    rw [if_neg h1, if_neg h2, if_neg h3, if_neg h4]

/-- A map's literal, entry by entry. -/
theorem wpList_insert_own {H : Type} {P : Program} (w : World) {ops : Array Oper} {rest : List Oper} {o : Oper} {a : Act} {Q : Exit → Act → World → Prop}
    (hg : o.guard = none) (m x v : Operand) (t : TypeId) (hop : o.op = Op.insert t m x v)
    (k e : TypeId) (K : Keyed P k) (ht : P.underlying t = some (.map k e)) (R : Value → Option (DataW H × List MemPlace)) (b n : Nat) (D : DataW H)
    (hm : a.eval m = .map (some b)) (hown : w.ownsMap P k R b n D) (hn : n < maxLen) (key val : Value) (kl : Lit) (hx : a.eval x = key) (hv : a.eval v = val) (hkey : keyOf P k key = some kl)
    (d : DataW H) (ps : List MemPlace) (hval : R val = some (d, ps))
    (hK : ∀ w', w'.ownsMap P k R b (n + 1) (D.put kl d) → w.grownBy w' (some b) → wpList P ops Q rest (a.put o.dst undef) w') :
    wpList P ops Q (o :: rest) a w := by
  refine wpList_plain hg fun K' hK' => ?_
  obtain ⟨w', hrun, r1, r2⟩ := hown.update K ht hn hkey hval
  unfold Oper.wp
  simp [execOp, hop, hm, hx, hv, hrun, Result.andThen]
  exact hK' _ _ (hK w' r1 r2)

theorem map_block {H : Type} {w w' : World} {P : Program} {k : TypeId} {R : Value → Option (DataW H × List MemPlace)} {b n : Nat} {D : DataW H} (h : w.ownsMap P k R b n D) (hb : w'.heap[b]? = w.heap[b]?) : w'.ownsMap P k R b n D := by
  obtain ⟨es, clock, h1, rest⟩ := h
  exact ⟨es, clock, hb.trans h1, rest⟩

/-- Tokens' cells. -/
def cells3 (t : RP.Tok) : List Value := [.int .i64 t.kind, .int .i64 t.at_, .string ⟨t.text.toArray⟩]
def flat3 (ts : List RP.Tok) : List Value := ts.flatMap cells3
theorem flat3_snoc (ts : List RP.Tok) (t : RP.Tok) : flat3 (ts ++ [t]) = flat3 ts ++ cells3 t := by simp [flat3]
theorem cells3_one (t : RP.Tok) : ∀ u ∈ cells3 t, u.oneCell' = true := by
  intro u hu; simp [cells3] at hu; rcases hu with rfl | rfl | rfl <;> rfl
theorem cells3_at {w : World} {b : Nat} {t : RP.Tok} (h0 : w.cell? ⟨b, 0, none⟩ = some (.int .i64 t.kind)) (h1 : w.cell? ⟨b, 1, none⟩ = some (.int .i64 t.at_)) (h2 : w.cell? ⟨b, 2, none⟩ = some (.string ⟨t.text.toArray⟩)) :
    ∀ j u, (cells3 t)[j]? = some u → w.cell? ((⟨b, 0, none⟩ : Addr).add j) = some u := by
  intro j u hj
  match j, hj with
  | 0, hj => simp [cells3] at hj; subst hj; simpa [Addr.add] using h0
  | 1, hj => simp [cells3] at hj; subst hj; simpa [Addr.add] using h1
  | 2, hj => simp [cells3] at hj; subst hj; simpa [Addr.add] using h2
  | j + 3, hj => simp [cells3] at hj

theorem info53' : (Tryz.prog.info? 53).map (fun i => (i.zero, i.size, i.bytes)) = some (some (.agg #[.int .i64 0, .int .i64 0, .string ⟨#[]⟩]), 3, 32) := by kernel_rfl

/-- What was read, and what comes behind. -/
def join (acc : List RP.Tok) : Except RP.Bad (List RP.Tok) → Except RP.Bad (List RP.Tok)
  | .error b => .error b
  | .ok l => .ok (acc ++ l)

theorem toks_end {L n : Nat} {q : List UInt8} (h : RP.skipL q = []) : RP.toksF L (q.length + 1) n q = .ok [⟨0, L, []⟩] := by
  rw [RP.toksF, h]

theorem toks_bad {L n : Nat} {q : List UInt8} {c : UInt8} {t : List UInt8} (h : RP.skipL q = c :: t) (ht : RP.tokenL (c :: t) = none) : RP.toksF L (q.length + 1) n q = .error ⟨3, L - (c :: t).length⟩ := by
  rw [RP.toksF, h]
  simp only [ht]

theorem toks_full {L : Nat} {q : List UInt8} {c : UInt8} {t x : List UInt8} {k : Nat} (h : RP.skipL q = c :: t) (ht : RP.tokenL (c :: t) = some (k, x)) : RP.toksF L (q.length + 1) 500 q = .error ⟨4, L - (c :: t).length⟩ := by
  rw [RP.toksF, h]
  simp only [ht, if_true]

theorem toks_step {L n : Nat} {q : List UInt8} {c : UInt8} {t x : List UInt8} {k : Nat} (h : RP.skipL q = c :: t) (ht : RP.tokenL (c :: t) = some (k, x)) (hn : n ≠ 500) :
    RP.toksF L (q.length + 1) n q = join [⟨RP.kindOf k x, L - (c :: t).length, x⟩] (RP.toksF L (((c :: t).drop x.length).length + 1) (n + 1) ((c :: t).drop x.length)) := by
  have hs := RP.skipL_le q
  rw [h] at hs
  have hx := RP.tokenL_len ht
  rw [RP.toksF, h]
  simp only [ht, if_neg hn]
  rw [RP.toksF_more L q.length (((c :: t).drop x.length).length + 1) (n + 1) ((c :: t).drop x.length) (by rw [List.length_drop]; omega) (by omega)]
  cases RP.toksF L (((c :: t).drop x.length).length + 1) (n + 1) ((c :: t).drop x.length) <;> rfl

theorem join_join (a b : List RP.Tok) (e : Except RP.Bad (List RP.Tok)) : join a (join b e) = join (a ++ b) e := by
  cases e <;> simp [join]

end Go.Proofs.YtjbmdnkpfkelmaaGreatDoor.Q
