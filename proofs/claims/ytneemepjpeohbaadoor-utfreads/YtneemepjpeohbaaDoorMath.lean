/- Plain mathematics of UTF-8 that the walks of package utf lean on: what a code point is written as, what stands at the head of bytes, and the units of bytes. -/
namespace Go.Proofs.YtneemepjpeohbaaDoor.U8

/-- A code point that has UTF-8. -/
def isPt (p : Int) : Bool := decide (0 ≤ p) && decide (p ≤ 1114111) && (decide (p < 55296) || decide (57343 < p))

theorem isPt_iff (p : Int) : isPt p = true ↔ 0 ≤ p ∧ p ≤ 1114111 ∧ (p < 55296 ∨ 57343 < p) := by
  simp [isPt, and_assoc]

/-- How many bytes a code point has. -/
def lenOf (p : Nat) : Nat := if p < 128 then 1 else if p < 2048 then 2 else if p < 65536 then 3 else 4

/-- What a code point is written as. -/
def enc (p : Nat) : List UInt8 :=
  if p < 128 then [UInt8.ofNat p]
  else if p < 2048 then [UInt8.ofNat (192 + p / 64), UInt8.ofNat (128 + p % 64)]
  else if p < 65536 then [UInt8.ofNat (224 + p / 4096), UInt8.ofNat (128 + p / 64 % 64), UInt8.ofNat (128 + p % 64)]
  else [UInt8.ofNat (240 + p / 262144), UInt8.ofNat (128 + p / 4096 % 64), UInt8.ofNat (128 + p / 64 % 64), UInt8.ofNat (128 + p % 64)]

theorem enc_length (p : Nat) : (enc p).length = lenOf p := by
  unfold enc lenOf; split <;> (try rfl); split <;> (try rfl); split <;> rfl

/-- How many bytes a code point has whose first one is given. -/
def lenBy (a : Nat) : Nat := if a < 128 then 1 else if a / 32 = 6 then 2 else if a / 16 = 14 then 3 else if a / 8 = 30 then 4 else 0

def chk (n p : Nat) : Option (Nat × Nat) := if lenOf p = n ∧ isPt p = true then some (p, n) else none

def low (a : UInt8) : Nat := a.toNat % 64
def cont (a : UInt8) : Bool := decide (a.toNat / 64 = 2)

/-- The code point with whose UTF-8 bytes begin, and how many it has. -/
def first (l : List UInt8) : Option (Nat × Nat) :=
  match l with
  | [] => none
  | a :: r =>
    if lenBy a.toNat = 1 then some (a.toNat, 1)
    else if lenBy a.toNat = 2 then
      match r with
      | b :: _ => if cont b then chk 2 (a.toNat % 32 * 64 + low b) else none
      | _ => none
    else if lenBy a.toNat = 3 then
      match r with
      | b :: c :: _ => if cont b && cont c then chk 3 ((a.toNat % 16 * 64 + low b) * 64 + low c) else none
      | _ => none
    else if lenBy a.toNat = 4 then
      match r with
      | b :: c :: d :: _ => if cont b && cont c && cont d then chk 4 (((a.toNat % 8 * 64 + low b) * 64 + low c) * 64 + low d) else none
      | _ => none
    else none

theorem u8_eq {a : UInt8} {n : Nat} (h : a.toNat = n) : UInt8.ofNat n = a := by
  apply UInt8.toNat_inj.1
  rw [UInt8.toNat_ofNat', ← h]
  have := a.toNat_lt
  omega

theorem toNat_of {n : Nat} (h : n < 256) : (UInt8.ofNat n).toNat = n := by
  rw [UInt8.toNat_ofNat']; omega

theorem isPt_nat (p : Nat) : isPt (p : Int) = true ↔ p ≤ 1114111 ∧ (p < 55296 ∨ 57343 < p) := by
  rw [isPt_iff]; omega

theorem first_some {l : List UInt8} {p n : Nat} (h : first l = some (p, n)) : isPt p = true ∧ enc p <+: l ∧ n = lenOf p := by
  unfold first at h
  split at h
  · cases h
  · rename_i a r
    have ha := a.toNat_lt
    split at h
    · rename_i h1
      have h2 : a.toNat < 128 := by unfold lenBy at h1; split at h1 <;> (try assumption); split at h1 <;> (try omega); split at h1 <;> (try omega); split at h1 <;> omega
      cases h
      refine ⟨(isPt_nat _).2 (by omega), ?_, by simp [lenOf, h2]⟩
      simp [enc, h2]
    split at h
    · rename_i h1
      have h2 : a.toNat / 32 = 6 := by unfold lenBy at h1; split at h1 <;> (try omega); split at h1 <;> (try omega); split at h1 <;> (try omega); split at h1 <;> omega
      split at h
      · rename_i b t
        split at h
        · rename_i hc
          unfold chk at h
          split at h
          · rename_i hk
            simp only [Option.some.injEq, Prod.mk.injEq] at h
            obtain ⟨hp, hn⟩ := h
            have hb := b.toNat_lt
            simp only [cont, decide_eq_true_eq] at hc
            obtain ⟨k1, k2⟩ := hk
            rw [hp] at k1 k2
            refine ⟨k2, ?_, by omega⟩
            simp only [low] at hp
            have g1 : ¬ p < 128 := by intro g; simp [lenOf, g] at k1
            have g2 : p < 2048 := by omega
            simp only [enc, g1, g2, if_false, if_true]
            rw [u8_eq (a := a) (by omega), u8_eq (a := b) (by omega)]
            simp
          · cases h
        · cases h
      · cases h
    split at h
    · rename_i h1
      have h2 : a.toNat / 16 = 14 := by unfold lenBy at h1; split at h1 <;> (try omega); split at h1 <;> (try omega); split at h1 <;> (try omega); split at h1 <;> omega
      split at h
      · rename_i b c t
        split at h
        · rename_i hc
          unfold chk at h
          split at h
          · rename_i hk
            simp only [Option.some.injEq, Prod.mk.injEq] at h
            obtain ⟨hp, hn⟩ := h
            have hb := b.toNat_lt
            have hcc := c.toNat_lt
            simp only [cont, Bool.and_eq_true, decide_eq_true_eq] at hc
            obtain ⟨k1, k2⟩ := hk
            rw [hp] at k1 k2
            refine ⟨k2, ?_, by omega⟩
            simp only [low] at hp
            have g1 : ¬ p < 128 := by intro g; simp [lenOf, g] at k1
            have g2 : ¬ p < 2048 := by intro g; simp [lenOf, g, g1] at k1
            have g3 : p < 65536 := by omega
            simp only [enc, g1, g2, g3, if_false, if_true]
            rw [u8_eq (a := a) (by omega), u8_eq (a := b) (by omega), u8_eq (a := c) (by omega)]
            simp
          · cases h
        · cases h
      · cases h
    split at h
    · rename_i h1
      have h2 : a.toNat / 8 = 30 := by unfold lenBy at h1; split at h1 <;> (try omega); split at h1 <;> (try omega); split at h1 <;> (try omega); split at h1 <;> omega
      split at h
      · rename_i b c d t
        split at h
        · rename_i hc
          unfold chk at h
          split at h
          · rename_i hk
            simp only [Option.some.injEq, Prod.mk.injEq] at h
            obtain ⟨hp, hn⟩ := h
            have hb := b.toNat_lt
            have hcc := c.toNat_lt
            have hd := d.toNat_lt
            simp only [cont, Bool.and_eq_true, decide_eq_true_eq] at hc
            obtain ⟨k1, k2⟩ := hk
            rw [hp] at k1 k2
            refine ⟨k2, ?_, by omega⟩
            simp only [low] at hp
            have g1 : ¬ p < 128 := by intro g; simp [lenOf, g] at k1
            have g2 : ¬ p < 2048 := by intro g; simp [lenOf, g, g1] at k1
            have g3 : ¬ p < 65536 := by intro g; simp [lenOf, g, g1, g2] at k1
            simp only [enc, g1, g2, g3, if_false]
            rw [u8_eq (a := a) (by omega), u8_eq (a := b) (by omega), u8_eq (a := c) (by omega), u8_eq (a := d) (by omega)]
            simp
          · cases h
        · cases h
      · cases h
    cases h

theorem first_enc {p : Nat} (h : isPt p = true) (t : List UInt8) : first (enc p ++ t) = some (p, lenOf p) := by
  have hk := h
  rw [isPt_nat] at h
  by_cases g1 : p < 128
  · have e1 : lenBy p = 1 := by simp [lenBy, g1]
    simp only [enc, g1, if_true, List.cons_append, List.nil_append, first, toNat_of (show p < 256 by omega), e1, lenOf]
  by_cases g2 : p < 2048
  · have e1 : lenBy (192 + p / 64) = 2 := by unfold lenBy; rw [if_neg (by omega), if_pos (by omega)]
    have hl : lenOf p = 2 := by simp [lenOf, g1, g2]
    simp only [enc, g1, g2, if_true, if_false, List.cons_append, List.nil_append, first, toNat_of (show 192 + p / 64 < 256 by omega), e1, cont, low, toNat_of (show 128 + p % 64 < 256 by omega)]
    rw [if_neg (by omega), if_pos (by simp; omega)]
    have e2 : (192 + p / 64) % 32 * 64 + (128 + p % 64) % 64 = p := by omega
    rw [e2, hl, chk, if_pos ⟨hl, hk⟩]
  by_cases g3 : p < 65536
  · have e1 : lenBy (224 + p / 4096) = 3 := by unfold lenBy; rw [if_neg (by omega), if_neg (by omega), if_pos (by omega)]
    have hl : lenOf p = 3 := by simp [lenOf, g1, g2, g3]
    simp only [enc, g1, g2, g3, if_true, if_false, List.cons_append, List.nil_append, first, toNat_of (show 224 + p / 4096 < 256 by omega), e1, cont, low, toNat_of (show 128 + p % 64 < 256 by omega), toNat_of (show 128 + p / 64 % 64 < 256 by omega)]
    rw [if_neg (by omega), if_neg (by omega), if_pos (by simp; omega)]
    have e2 : ((224 + p / 4096) % 16 * 64 + (128 + p / 64 % 64) % 64) * 64 + (128 + p % 64) % 64 = p := by omega
    rw [e2, hl, chk, if_pos ⟨hl, hk⟩]
  · have e1 : lenBy (240 + p / 262144) = 4 := by unfold lenBy; rw [if_neg (by omega), if_neg (by omega), if_neg (by omega), if_pos (by omega)]
    have hl : lenOf p = 4 := by simp [lenOf, g1, g2, g3]
    simp only [enc, g1, g2, g3, if_true, if_false, List.cons_append, List.nil_append, first, toNat_of (show 240 + p / 262144 < 256 by omega), e1, cont, low, toNat_of (show 128 + p % 64 < 256 by omega), toNat_of (show 128 + p / 64 % 64 < 256 by omega), toNat_of (show 128 + p / 4096 % 64 < 256 by omega)]
    rw [if_neg (by omega), if_neg (by omega), if_neg (by omega), if_pos (by simp; omega)]
    have e2 : (((240 + p / 262144) % 8 * 64 + (128 + p / 4096 % 64) % 64) * 64 + (128 + p / 64 % 64) % 64) * 64 + (128 + p % 64) % 64 = p := by omega
    rw [e2, hl, chk, if_pos ⟨hl, hk⟩]

theorem lenOf_pos (p : Nat) : 1 ≤ lenOf p ∧ lenOf p ≤ 4 := by unfold lenOf; split <;> (try omega); split <;> (try omega); split <;> omega

/-- The unit at the head: the code point there, or fffd and one byte. -/
def unit (l : List UInt8) : Nat × Nat := (first l).getD (65533, 1)

theorem first_len {l : List UInt8} {p n : Nat} (h : first l = some (p, n)) : 1 ≤ n ∧ n ≤ 4 ∧ n ≤ l.length := by
  obtain ⟨_, h2, h3⟩ := first_some h
  have := lenOf_pos p
  have := h2.length_le
  rw [enc_length] at this
  omega

theorem unit_len (l : List UInt8) (h : l ≠ []) : 1 ≤ (unit l).2 ∧ (unit l).2 ≤ 4 ∧ (unit l).2 ≤ l.length := by
  unfold unit
  cases hf : first l with
  | none => have : 0 < l.length := List.length_pos_iff.2 h; simp; omega
  | some x => obtain ⟨p, n⟩ := x; simpa using first_len hf

theorem unit_pt (l : List UInt8) : isPt (unit l).1 = true := by
  unfold unit
  cases hf : first l with
  | none => decide
  | some x => obtain ⟨p, n⟩ := x; simpa using (first_some hf).1

/-- The units of bytes, by fuel. -/
def decF : Nat → List UInt8 → Nat → List (Nat × Nat × Nat)
  | 0, _, _ => []
  | f + 1, l, k => if l = [] then [] else ((unit l).1, k, (unit l).2) :: decF f (l.drop (unit l).2) (k + (unit l).2)

theorem decF_more : ∀ (f g : Nat) (l : List UInt8) (k : Nat), l.length ≤ f → l.length ≤ g → decF f l k = decF g l k
  | 0, g, l, k, hf, _ => by
    obtain rfl : l = [] := List.length_eq_zero_iff.1 (by omega)
    cases g <;> simp [decF]
  | f + 1, 0, l, k, _, hg => by
    obtain rfl : l = [] := List.length_eq_zero_iff.1 (by omega)
    simp [decF]
  | f + 1, g + 1, l, k, hf, hg => by
    simp only [decF]
    split
    · rfl
    · rename_i h
      have := unit_len l h
      rw [decF_more f g _ _ (by rw [List.length_drop]; omega) (by rw [List.length_drop]; omega)]

/-- The units of bytes: the code point, where, and how many bytes. -/
def dec (l : List UInt8) (k : Nat) : List (Nat × Nat × Nat) := decF l.length l k

theorem dec_nil (k : Nat) : dec [] k = [] := rfl

theorem dec_step {l : List UInt8} (h : l ≠ []) (k : Nat) : dec l k = ((unit l).1, k, (unit l).2) :: dec (l.drop (unit l).2) (k + (unit l).2) := by
  have h1 := unit_len l h
  have h0 : 0 < l.length := List.length_pos_iff.2 h
  obtain ⟨m, hm⟩ : ∃ m, l.length = m + 1 := ⟨l.length - 1, by omega⟩
  unfold dec
  rw [hm, decF, if_neg h, decF_more m (l.drop (unit l).2).length _ _ (by rw [List.length_drop]; omega) (Nat.le_refl _)]

/-- Induction along the units. -/
theorem dec_induct {C : List UInt8 → Prop} (h0 : C []) (h1 : ∀ l, l ≠ [] → C (l.drop (unit l).2) → C l) (l : List UInt8) : C l := by
  suffices H : ∀ n l, l.length ≤ n → C l from H l.length l (Nat.le_refl _)
  intro n
  induction n with
  | zero => intro l hl; obtain rfl : l = [] := List.length_eq_zero_iff.1 (by omega); exact h0
  | succ n ih =>
    intro l hl
    by_cases h : l = []
    · rw [h]; exact h0
    · have := unit_len l h
      exact h1 l h (ih _ (by rw [List.length_drop]; omega))

theorem dec_length_le (l : List UInt8) : ∀ k, (dec l k).length ≤ l.length := by
  refine dec_induct (C := fun l => ∀ k, (dec l k).length ≤ l.length) (fun k => by simp [dec_nil]) (fun l h ih k => ?_) l
  rw [dec_step h]
  have h1 := unit_len l h
  have h2 := ih (k + (unit l).2)
  rw [List.length_drop] at h2
  simp only [List.length_cons]
  omega

/-- The code points of bytes. -/
def pts (l : List UInt8) : List Nat := (dec l 0).map (·.1)

theorem dec_shift (l : List UInt8) : ∀ k j, dec l (k + j) = (dec l k).map fun u => (u.1, u.2.1 + j, u.2.2) := by
  refine dec_induct (C := fun l => ∀ k j, dec l (k + j) = (dec l k).map fun u => (u.1, u.2.1 + j, u.2.2)) (fun k j => by simp [dec_nil]) (fun l h ih k j => ?_) l
  rw [dec_step h, dec_step h, List.map_cons, ← ih]
  congr 2
  omega

theorem dec_pts (l : List UInt8) (k : Nat) : (dec l k).map (·.1) = pts l := by
  have := dec_shift l 0 k
  rw [Nat.zero_add] at this
  rw [this, pts, List.map_map]
  rfl

theorem pts_nil : pts [] = [] := rfl
theorem pts_step {l : List UInt8} (h : l ≠ []) : pts l = (unit l).1 :: pts (l.drop (unit l).2) := by
  rw [pts, dec_step h, List.map_cons, dec_pts]

theorem pts_isPt (l : List UInt8) : ∀ p ∈ pts l, isPt p = true := by
  refine dec_induct (C := fun l => ∀ p ∈ pts l, isPt p = true) (by simp [pts_nil]) (fun l h ih => ?_) l
  rw [pts_step h]
  intro p hp
  rcases List.mem_cons.1 hp with rfl | hp
  · exact unit_pt l
  · exact ih p hp

/-- Code points, written down. -/
def encs (ps : List Nat) : List UInt8 := ps.flatMap enc

theorem unit_enc {p : Nat} (h : isPt p = true) (t : List UInt8) : unit (enc p ++ t) = (p, lenOf p) := by
  rw [unit, first_enc h]; rfl

theorem enc_ne (p : Nat) : enc p ≠ [] := by
  intro h
  have h1 := enc_length p
  have h2 := lenOf_pos p
  rw [h] at h1
  simp at h1
  omega

theorem pts_encs (ps : List Nat) (h : ∀ p ∈ ps, isPt p = true) : pts (encs ps) = ps := by
  induction ps with
  | nil => rfl
  | cons p ps ih =>
    have hp := h p (by simp)
    have e : encs (p :: ps) = enc p ++ encs ps := rfl
    rw [e, pts_step (by simp [enc_ne]), unit_enc hp, List.drop_left' (enc_length p), ih (fun q hq => h q (by simp [hq]))]

theorem encs_len_le (l : List UInt8) : (encs (pts l)).length ≤ 3 * l.length := by
  refine dec_induct (C := fun l => (encs (pts l)).length ≤ 3 * l.length) (by simp [pts_nil, encs]) (fun l h ih => ?_) l
  rw [pts_step h]
  have e : encs ((unit l).1 :: pts (l.drop (unit l).2)) = enc (unit l).1 ++ encs (pts (l.drop (unit l).2)) := rfl
  rw [e, List.length_append, enc_length]
  have h1 := unit_len l h
  rw [List.length_drop] at ih
  have h2 : lenOf (unit l).1 ≤ 3 * (unit l).2 := by
    unfold unit
    cases hf : first l with
    | none => simp [lenOf]
    | some x => obtain ⟨p, n⟩ := x; have := (first_some hf).2.2; simp; omega
  omega

theorem encs_pts_same (l : List UInt8) (hn : 65533 ∉ pts l) : encs (pts l) = l := by
  revert hn
  refine dec_induct (C := fun l => 65533 ∉ pts l → encs (pts l) = l) (fun _ => rfl) (fun l h ih => ?_) l
  rw [pts_step h]
  intro hn
  have e : encs ((unit l).1 :: pts (l.drop (unit l).2)) = enc (unit l).1 ++ encs (pts (l.drop (unit l).2)) := rfl
  rw [e, ih (fun g => hn (by simp [g]))]
  have h1 : (unit l).1 ≠ 65533 := fun g => hn (by simp [g])
  unfold unit at h1 ⊢
  cases hf : first l with
  | none => rw [hf] at h1; simp at h1
  | some x =>
    obtain ⟨p, n⟩ := x
    obtain ⟨_, ⟨t, ht⟩, h3⟩ := first_some hf
    simp only [Option.getD_some]
    conv => rhs; rw [← ht]
    congr 1
    rw [← ht, h3]
    exact List.drop_left' (enc_length p)

end Go.Proofs.YtneemepjpeohbaaDoor.U8
