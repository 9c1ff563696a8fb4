/- What strings.Trim, Fields and SplitN make of texts, of those too that a set is written as. -/
import Derived.Test.YtefcjoomongcmaaGreatDoorSRead
import Derived.Shelf.Strings.FieldsAny
import Derived.Lib.Split
import Derived.Lib.SlTrimSet
namespace Go.Proofs.YtefcjoomongcmaaGreatDoor
open Go.RowKit

theorem fieldsGoD_len : ∀ (f : Nat) (cur l : List UInt8), (∀ x ∈ Lib.fieldsGoD f cur l, x.length ≤ cur.length + l.length) ∧ (Lib.fieldsGoD f cur l).length ≤ l.length + 1 := by
  intro f
  induction f with
  | zero =>
    intro cur l
    rw [Lib.fieldsGoD]
    split
    · simp
    · simp
  | succ f ih =>
    intro cur l
    have hw := Lib.decodeL_width l
    rw [Lib.fieldsGoD]
    by_cases hl : l = []
    · rw [if_pos hl]
      split <;> simp
    · rw [if_neg hl]
      have hpos : 0 < l.length := List.length_pos_iff.2 hl
      split
      · obtain ⟨h1, h2⟩ := ih [] (l.drop (Lib.decodeL l).2)
        rw [List.length_drop] at h1 h2
        constructor
        · intro x hx
          rcases List.mem_append.1 hx with h | h
          · split at h
            · simp at h
            · simp at h; subst h; omega
          · have := h1 x h
            simp at this
            omega
        · rw [List.length_append]
          split <;> simp <;> omega
      · obtain ⟨h1, h2⟩ := ih (cur ++ l.take (Lib.decodeL l).2) (l.drop (Lib.decodeL l).2)
        rw [List.length_drop] at h1 h2
        constructor
        · intro x hx
          have := h1 x hx
          simp at this
          omega
        · omega

theorem dropWhile_len (p : UInt8 → Bool) (l : List UInt8) : (l.dropWhile p).length ≤ l.length := (List.dropWhile_sublist p).length_le

theorem trimS_len (l cs : List UInt8) : (Lib.trimS l cs).length ≤ l.length := by
  unfold Lib.trimS Lib.trimLeftS Lib.trimRightS
  have h1 := dropWhile_len (cs.contains ·) l.reverse
  have h2 := dropWhile_len (cs.contains ·) (l.reverse.dropWhile (cs.contains ·)).reverse
  rw [List.length_reverse] at h1 h2
  omega

theorem dropWhile_stop (p : UInt8 → Bool) (l t : List UInt8) (h : ∀ b ∈ l, p b = false) (hl : l ≠ []) : (l ++ t).dropWhile p = l ++ t := by
  cases l with
  | nil => exact absurd rfl hl
  | cons b l =>
    rw [List.cons_append, List.dropWhile_cons, h b (List.mem_cons_self ..)]
    rfl

theorem trim_mid (m : List UInt8) (h1 : (91 : UInt8) ∉ m) (h2 : (93 : UInt8) ∉ m) : Lib.trimS (91 :: (m ++ [93])) [91, 93] = m := by
  have hc : ∀ b ∈ m, ([91, 93] : List UInt8).contains b = false := by
    intro b hb
    have a1 : b ≠ 91 := fun e => h1 (e ▸ hb)
    have a2 : b ≠ 93 := fun e => h2 (e ▸ hb)
    simp [a1, a2]
  by_cases hm : m = []
  · subst hm
    decide
  · unfold Lib.trimS Lib.trimLeftS Lib.trimRightS
    have e1 : (91 :: (m ++ [93])).reverse = 93 :: (m.reverse ++ [91]) := by simp
    have e2 : ((93 : UInt8) :: (m.reverse ++ [91])).dropWhile (([91, 93] : List UInt8).contains ·) = m.reverse ++ [91] := by
      rw [List.dropWhile_cons, if_pos (by decide)]
      exact dropWhile_stop _ _ _ (fun b hb => hc b (List.mem_reverse.1 hb)) (by simpa using hm)
    rw [e1, e2]
    have e3 : (m.reverse ++ [91]).reverse = (91 : UInt8) :: m := by simp
    rw [e3, List.dropWhile_cons, if_pos (by decide)]
    have := dropWhile_stop (([91, 93] : List UInt8).contains ·) m [] hc hm
    simpa using this

theorem fields_word (wd : List UInt8) (hw : ∀ b ∈ wd, Lib.isSp b = false) : ∀ (cur l : List UInt8), Lib.fieldsGo cur (wd ++ l) = Lib.fieldsGo (cur ++ wd) l := by
  induction wd with
  | nil => intro cur l; simp
  | cons b wd ih =>
    intro cur l
    rw [List.cons_append, Lib.fieldsGo_more _ _ _ (hw b (List.mem_cons_self ..)), ih (fun c hc => hw c (List.mem_cons_of_mem _ hc)), List.append_assoc]
    rfl

theorem hexF_in : ∀ f u, ∀ b ∈ RS.hexF f u, 48 ≤ b ∧ b < 128 ∧ b ≠ 91 ∧ b ≠ 93 := by
  intro f
  have hd : ∀ d, d < 16 → 48 ≤ RS.dig d ∧ RS.dig d < 128 ∧ RS.dig d ≠ 91 ∧ RS.dig d ≠ 93 := by
    intro d h
    unfold RS.dig
    split <;> omega
  induction f with
  | zero => intro u b hb; simp [RS.hexF] at hb; subst hb; exact hd _ (Nat.mod_lt _ (by omega))
  | succ f ih =>
    intro u b hb
    rw [RS.hexF] at hb
    split at hb
    · simp at hb; subst hb; exact hd _ (by assumption)
    · rcases List.mem_append.1 hb with hb | hb
      · exact ih _ b hb
      · simp at hb; subst hb; exact hd _ (Nat.mod_lt _ (by omega))

theorem rgText_in (r : RS.Rg) : ∀ b ∈ RS.rgText r, 45 ≤ b ∧ b < 128 ∧ b ≠ 91 ∧ b ≠ 93 := by
  intro b hb
  unfold RS.rgText at hb
  rcases List.mem_append.1 hb with hb | hb
  · have := hexF_in 16 _ b hb; omega
  · split at hb
    · simp at hb
    · rcases List.mem_cons.1 hb with rfl | hb
      · omega
      · have := hexF_in 16 _ b hb; omega

theorem midText_in (s : List RS.Rg) : ∀ k, ∀ b ∈ RS.midText k s, b < 128 ∧ b ≠ 91 ∧ b ≠ 93 := by
  induction s with
  | nil => intro k b hb; simp [RS.midText] at hb
  | cons r s ih =>
    intro k b hb
    rw [RS.midText] at hb
    rcases List.mem_append.1 hb with hb | hb
    · rcases List.mem_append.1 hb with hb | hb
      · split at hb
        · simp at hb; omega
        · simp at hb
      · have := rgText_in r b hb; omega
    · exact ih _ b hb

theorem noSp : ∀ b : Fin 128, 33 ≤ b.val → Lib.isSp (UInt8.ofNat b.val) = false := by decide

theorem rgText_noSp (r : RS.Rg) : ∀ b ∈ (RS.rgText r).map UInt8.ofNat, Lib.isSp b = false := by
  intro b hb
  obtain ⟨c, hc, rfl⟩ := List.mem_map.1 hb
  have := rgText_in r c hc
  exact noSp ⟨c, this.2.1⟩ (by show 33 ≤ c; omega)

theorem fields_mid : ∀ s : List RS.Rg, Lib.fieldsGo [] ((RS.midText 0 s).map UInt8.ofNat) = s.map fun r => (RS.rgText r).map UInt8.ofNat := by
  intro s
  induction s with
  | nil => rfl
  | cons r s ih =>
    have hne : (RS.rgText r).map UInt8.ofNat ≠ [] := by
      intro e
      exact rgText_ne r (List.map_eq_nil_iff.1 e)
    cases s with
    | nil =>
      rw [midText_one]
      have := fields_word _ (rgText_noSp r) [] []
      rw [List.append_nil, List.nil_append] at this
      rw [this, Lib.fieldsGo]
      rw [if_neg (by simpa using hne)]
      rfl
    | cons q s =>
      rw [midText_cons, List.map_append, List.map_cons, fields_word _ (rgText_noSp r), List.nil_append, Lib.fieldsGo_end _ _ _ (by decide) hne, ih]
      rfl

/-- What Trim and Fields make of what a set is written as: its ranges. -/
theorem words_text (x : List RS.Rg) : Lib.fieldsD (Lib.trimS (bytesOf (RS.setText x)).data.toList [91, 93]) = x.map fun r => (RS.rgText r).map UInt8.ofNat := by
  have e : (bytesOf (RS.setText x)).data.toList = 91 :: ((RS.midText 0 x).map UInt8.ofNat ++ [93]) := by
    rw [bytesOf_toList]
    simp [RS.setText]
  have n1 : (91 : UInt8) ∉ (RS.midText 0 x).map UInt8.ofNat := not_mem_u8 91 (by omega) _ fun b hb => by have := midText_in x 0 b hb; omega
  have n2 : (93 : UInt8) ∉ (RS.midText 0 x).map UInt8.ofNat := not_mem_u8 93 (by omega) _ fun b hb => by have := midText_in x 0 b hb; omega
  rw [e, trim_mid _ n1 n2, Lib.fieldsD_ascii]
  · exact fields_mid x
  · intro b hb
    obtain ⟨c, hc, rfl⟩ := List.mem_map.1 hb
    have := midText_in x 0 c hc
    rw [UInt8.toNat_ofNat']
    omega

theorem splitK_one (u v : List UInt8) (k : Nat) (hu : (45 : UInt8) ∉ u) : Lib.splitK [45] 0 (k + 1) (u ++ 45 :: v) = u :: Lib.splitK [45] 0 k v := by
  rw [Lib.splitK, Lib.index_one, ib_at 45 v u hu]
  rw [if_neg (by simp)]
  simp

theorem splitK_none (k : Nat) (s : List UInt8) (h : (45 : UInt8) ∉ s) : Lib.splitK [45] 0 k s = [s] := by
  cases k with
  | zero => rfl
  | succ k => rw [Lib.splitK, Lib.index_one, ib_none 45 s h]; rfl

theorem splitK_first (k : Nat) (s : List UInt8) : ∃ p t, Lib.splitK [45] 0 k s = p :: t ∧ p.length ≤ s.length := by
  cases k with
  | zero => exact ⟨s, [], rfl, Nat.le_refl _⟩
  | succ k =>
    rcases split_at 45 s with h | ⟨u, v, rfl, hu⟩
    · exact ⟨s, [], splitK_none _ s h, Nat.le_refl _⟩
    · exact ⟨u, _, splitK_one u v k hu, by simp⟩

/-- The two first pieces of a word, '-', and the word again. -/
theorem two_parts (t : List UInt8) (k : Nat) (hk : 1 ≤ k) : ∃ f s rest, Lib.splitK [45] 0 k (t ++ 45 :: t) = f :: s :: rest ∧ f.length ≤ t.length ∧ s.length ≤ 2 * t.length + 1 := by
  obtain ⟨k, rfl⟩ : ∃ j, k = j + 1 := ⟨k - 1, by omega⟩
  rcases split_at 45 t with h | ⟨u, v, rfl, hu⟩
  · obtain ⟨p, r, e, hp⟩ := splitK_first k t
    exact ⟨t, p, r, by rw [splitK_one t t k h, e], Nat.le_refl _, by omega⟩
  · obtain ⟨p, r, e, hp⟩ := splitK_first k (v ++ 45 :: (u ++ 45 :: v))
    refine ⟨u, p, r, ?_, by simp, ?_⟩
    · rw [List.append_assoc, List.cons_append, splitK_one u _ k hu, e]
    · simp at hp ⊢; omega

/-- At a range that was written: its two numbers. -/
theorem two_text (r : RS.Rg) : ∃ rest, Lib.splitK [45] 0 2 ((RS.rgText r).map UInt8.ofNat ++ 45 :: (RS.rgText r).map UInt8.ofNat) = (RS.hex r.1.toNat).map UInt8.ofNat :: (RS.hex r.2.toNat).map UInt8.ofNat :: rest := by
  have n1 : (45 : UInt8) ∉ (RS.hex r.1.toNat).map UInt8.ofNat := hex_not 45 (by omega) _
  have n2 : (45 : UInt8) ∉ (RS.hex r.2.toNat).map UInt8.ofNat := hex_not 45 (by omega) _
  by_cases e : r.2 = r.1
  · have et : RS.rgText r = RS.hex r.1.toNat := by unfold RS.rgText; simp [e]
    rw [et, splitK_one _ _ 1 n1, splitK_none 1 _ n1, e]
    exact ⟨[], rfl⟩
  · have et : RS.rgText r = RS.hex r.1.toNat ++ 45 :: RS.hex r.2.toNat := by unfold RS.rgText; simp [e]
    rw [et, List.map_append, List.map_cons, List.append_assoc, List.cons_append]
    have e45 : UInt8.ofNat 45 = 45 := rfl
    rw [e45, splitK_one _ _ 1 n1, splitK_one _ _ 0 n2]
    exact ⟨_, rfl⟩

end Go.Proofs.YtefcjoomongcmaaGreatDoor
