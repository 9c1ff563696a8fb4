/- Plain mathematics of the document's own reading: what would stand there, and whether it does. -/
import Derived.Test.YtneemepjpeohbaaDoorMathB
namespace Go.Proofs.YtneemepjpeohbaaDoor.U8

/-- The number that the first bytes make. -/
def pv (l : List UInt8) : Nat → Nat
  | 0 => 0
  | 1 => (l.getD 0 0).toNat
  | k + 1 => pv l k * 64 + (l.getD k 0).toNat % 64

/-- .. without what the first byte says of how many there are. -/
def qv (l : List UInt8) (n : Nat) : Nat := if n ≤ 1 then pv l n else pv l n % 2 ^ (5 * n + 1)

theorem pv1 (l : List UInt8) : pv l 1 = (l.getD 0 0).toNat := rfl
theorem pv2 (l : List UInt8) : pv l 2 = (l.getD 0 0).toNat * 64 + (l.getD 1 0).toNat % 64 := rfl
theorem pv3 (l : List UInt8) : pv l 3 = ((l.getD 0 0).toNat * 64 + (l.getD 1 0).toNat % 64) * 64 + (l.getD 2 0).toNat % 64 := rfl
theorem pv4 (l : List UInt8) : pv l 4 = (((l.getD 0 0).toNat * 64 + (l.getD 1 0).toNat % 64) * 64 + (l.getD 2 0).toNat % 64) * 64 + (l.getD 3 0).toNat % 64 := rfl

theorem pv_lt (l : List UInt8) (j : Nat) (h : j ≤ 4) : pv l j < 100000000 := by
  have h0 := (l.getD 0 0).toNat_lt
  rcases (show j = 0 ∨ j = 1 ∨ j = 2 ∨ j = 3 ∨ j = 4 by omega) with rfl | rfl | rfl | rfl | rfl
  · simp [pv]
  · rw [pv1]; omega
  · rw [pv2]; omega
  · rw [pv3]; omega
  · rw [pv4]; omega

theorem qv_enc (p : Nat) (hp : isPt p = true) (t : List UInt8) : qv (enc p ++ t) (lenOf p) = p := by
  rw [isPt_nat] at hp
  by_cases g1 : p < 128
  · have hl : lenOf p = 1 := by simp [lenOf, g1]
    rw [hl]
    simp only [qv, Nat.le_refl, if_true, pv1, enc, g1, List.cons_append, List.nil_append, List.getD_cons_zero]
    exact toNat_of (by omega)
  by_cases g2 : p < 2048
  · have hl : lenOf p = 2 := by simp [lenOf, g1, g2]
    rw [hl]
    simp only [qv, show ¬ (2 ≤ 1) by omega, if_false, pv2, enc, g1, g2, if_true, List.cons_append, List.nil_append, List.getD_cons_zero, List.getD_cons_succ]
    rw [toNat_of (by omega), toNat_of (by omega)]
    omega
  by_cases g3 : p < 65536
  · have hl : lenOf p = 3 := by simp [lenOf, g1, g2, g3]
    rw [hl]
    simp only [qv, show ¬ (3 ≤ 1) by omega, if_false, pv3, enc, g1, g2, g3, if_true, List.cons_append, List.nil_append, List.getD_cons_zero, List.getD_cons_succ]
    rw [toNat_of (by omega), toNat_of (by omega), toNat_of (by omega)]
    omega
  · have hl : lenOf p = 4 := by simp [lenOf, g1, g2, g3]
    rw [hl]
    simp only [qv, show ¬ (4 ≤ 1) by omega, if_false, pv4, enc, g1, g2, g3, List.cons_append, List.nil_append, List.getD_cons_zero, List.getD_cons_succ]
    rw [toNat_of (by omega), toNat_of (by omega), toNat_of (by omega), toNat_of (by omega)]
    omega

/-- What a number is written as: its bytes, or none. -/
def refL (q : Nat) : List UInt8 := if isPt q then enc q else []

theorem stands_iff (l : List UInt8) (n : Nat) (h0 : 0 < n) (h1 : n ≤ l.length) : refL (qv l n) = l.take n ↔ first l = some (qv l n, n) := by
  constructor
  · intro h
    unfold refL at h
    split at h
    · rename_i hp
      have e : l = enc (qv l n) ++ l.drop n := by rw [h, List.take_append_drop]
      have hlen : lenOf (qv l n) = n := by
        rw [← enc_length, h, List.length_take]; omega
      have := first_enc hp (l.drop n)
      rw [← e, hlen] at this
      exact this
    · have := congrArg List.length h
      rw [List.length_take] at this
      simp at this
      omega
  · intro h
    obtain ⟨hp, ⟨t, ht⟩, hn⟩ := first_some h
    unfold refL
    rw [if_pos hp]
    conv => rhs; rw [← ht]
    rw [List.take_left' (by rw [enc_length]; exact hn.symm)]

theorem stands_of {l : List UInt8} {p n : Nat} (h : first l = some (p, n)) : p = qv l n := by
  obtain ⟨hp, ⟨t, ht⟩, hn⟩ := first_some h
  have := qv_enc p hp t
  rw [ht, ← hn] at this
  exact this.symm

/-- The unit, as far as looked at. -/
def upto (l : List UInt8) (j : Nat) : Nat × Nat := match first l with
  | some (p, n) => if n ≤ j then (p, n) else (65533, 1)
  | none => (65533, 1)

theorem upto_zero (l : List UInt8) : upto l 0 = (65533, 1) := by
  unfold upto
  split
  · rename_i p n h
    have := first_len h
    rw [if_neg (by omega)]
  · rfl

theorem upto_hit {l : List UInt8} {j : Nat} (h : first l = some (qv l (j + 1), j + 1)) : upto l (j + 1) = (qv l (j + 1), j + 1) := by
  unfold upto; rw [h]; simp

theorem upto_miss {l : List UInt8} {j : Nat} (h : ¬ first l = some (qv l (j + 1), j + 1)) : upto l (j + 1) = upto l j := by
  unfold upto
  split
  · rename_i p n hf
    by_cases hn : n = j + 1
    · subst hn
      exact absurd (by rw [hf, stands_of hf]) h
    · by_cases h2 : n ≤ j
      · rw [if_pos (by omega), if_pos h2]
      · rw [if_neg (by omega), if_neg h2]
  · rfl

theorem upto_end {l : List UInt8} {j : Nat} (h : j = 4 ∨ j = l.length) : upto l j = unit l := by
  unfold upto unit
  split
  · rename_i p n hf
    have := first_len hf
    rw [if_pos (by omega), hf]; rfl
  · rename_i hf; rw [hf]; rfl

end Go.Proofs.YtneemepjpeohbaaDoor.U8
