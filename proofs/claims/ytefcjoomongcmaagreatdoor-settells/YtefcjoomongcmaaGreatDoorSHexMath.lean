/- Numbers in small hexadecimal digits, and sets as text: no program is named here. -/
import Derived.Test.YtefcjoomongcmaaGreatDoorSetMath
namespace RS

/-- The letter of a digit. -/
def dig (d : Nat) : Nat := if d < 10 then 48 + d else 87 + d

def hexF : Nat → Nat → List Nat
  | 0, u => [dig (u % 16)]
  | f + 1, u => if u < 16 then [dig u] else hexF f (u / 16) ++ [dig (u % 16)]

/-- A number (below 2^64) in hexadecimal digits, without a nought ahead. -/
def hex (u : Nat) : List Nat := hexF 16 u

theorem hexF_small (f u : Nat) (h : u < 16) : hexF f u = [dig u] := by
  cases f with
  | zero => rw [hexF, Nat.mod_eq_of_lt h]
  | succ f => rw [hexF, if_pos h]

theorem hexF_step (f u : Nat) (h : ¬ u < 16) : hexF (f + 1) u = hexF f (u / 16) ++ [dig (u % 16)] := by
  rw [hexF, if_neg h]

theorem hexF_length : ∀ f u, 1 ≤ (hexF f u).length ∧ (hexF f u).length ≤ f + 1 := by
  intro f
  induction f with
  | zero => intro u; simp [hexF]
  | succ f ih =>
    intro u
    rw [hexF]
    split
    · simp
    · have := ih (u / 16)
      simp
      omega

theorem dig_lt (d : Nat) (h : d < 16) : dig d < 128 := by unfold dig; split <;> omega

theorem hexF_lt : ∀ f u, ∀ b ∈ hexF f u, b < 128 := by
  intro f
  induction f with
  | zero => intro u b hb; simp [hexF] at hb; subst hb; exact dig_lt _ (Nat.mod_lt _ (by omega))
  | succ f ih =>
    intro u b hb
    rw [hexF] at hb
    split at hb
    · simp at hb; subst hb; exact dig_lt _ (by assumption)
    · rcases List.mem_append.1 hb with hb | hb
      · exact ih _ b hb
      · simp at hb; subst hb; exact dig_lt _ (Nat.mod_lt _ (by omega))

/-- One range as it is written. -/
def rgText (r : Rg) : List Nat := hex r.1.toNat ++ (if r.2 = r.1 then [] else 45 :: hex r.2.toNat)

/-- Ranges with a blank between, from the k-th on. -/
def midText : Nat → List Rg → List Nat
  | _, [] => []
  | k, r :: s => (if 0 < k then [32] else []) ++ rgText r ++ midText (k + 1) s

def setText (s : List Rg) : List Nat := 91 :: midText 0 s ++ [93]

theorem rgText_length (r : Rg) : (rgText r).length ≤ 40 := by
  unfold rgText hex
  have h1 := hexF_length 16 r.1.toNat
  have h2 := hexF_length 16 r.2.toNat
  split <;> simp <;> omega

theorem midText_length : ∀ (s : List Rg) (k : Nat), (midText k s).length ≤ 41 * s.length := by
  intro s
  induction s with
  | nil => intro k; simp [midText]
  | cons r s ih =>
    intro k
    have h1 := rgText_length r
    have h2 := ih (k + 1)
    rw [midText]
    split <;> simp <;> omega

theorem midText_append (s : List Rg) (r : Rg) : ∀ k, midText k (s ++ [r]) = midText k s ++ ((if 0 < k + s.length then [32] else []) ++ rgText r) := by
  induction s with
  | nil => intro k; simp [midText]
  | cons q s ih =>
    intro k
    rw [List.cons_append, midText, ih, midText, List.length_cons, show k + 1 + s.length = k + (s.length + 1) by omega]
    simp [List.append_assoc]

end RS
