/- Reading numbers in hexadecimal digits: no program is named here. -/
import Derived.Test.YtefcjoomongcmaaGreatDoorSHexMath
namespace RS

/-- What comes of reading: a number; no number; one that is too great. -/
inductive PU where
  | good (n : Nat)
  | bad
  | great

/-- What a letter is worth, as the library reads it (great letters too). -/
def worth (c : Nat) : Option Nat :=
  if 48 ≤ c ∧ c ≤ 57 then some (c - 48) else if 97 ≤ (c ||| 32) ∧ (c ||| 32) ≤ 122 then some ((c ||| 32) - 87) else none

def pu (M : Nat) : Nat → List Nat → PU
  | acc, [] => .good acc
  | acc, c :: l => match worth c with
    | none => .bad
    | some d => if 16 ≤ d then .bad else if M < acc * 16 + d then .great else pu M (acc * 16 + d) l

theorem worth_dig (d : Nat) (h : d < 16) : worth (dig d) = some d := by
  have : ∀ d : Fin 16, worth (dig d.val) = some d.val := by decide
  exact this ⟨d, h⟩

theorem pu_step {M acc d : Nat} {l : List Nat} (h : d < 16) (hm : acc * 16 + d ≤ M) : pu M acc (dig d :: l) = pu M (acc * 16 + d) l := by
  rw [pu, worth_dig d h]
  simp only
  rw [if_neg (by omega), if_neg (by omega)]

/-- A number that was written is read as it was. -/
theorem pu_hexF {M : Nat} : ∀ (f u : Nat), u < 16 ^ (f + 1) → ∀ acc l, acc * 16 ^ (hexF f u).length + u ≤ M → pu M acc (hexF f u ++ l) = pu M (acc * 16 ^ (hexF f u).length + u) l := by
  intro f
  induction f with
  | zero =>
    intro u hu acc l hm
    have hu' : u < 16 := by simpa using hu
    have e : hexF 0 u = [dig u] := hexF_small 0 u hu'
    rw [e] at hm ⊢
    simp at hm ⊢
    exact pu_step hu' hm
  | succ f ih =>
    intro u hu acc l hm
    by_cases h16 : u < 16
    · have e : hexF (f + 1) u = [dig u] := hexF_small _ u h16
      rw [e] at hm ⊢
      simp at hm ⊢
      exact pu_step h16 hm
    · rw [hexF_step f u h16] at hm ⊢
      have hd : u / 16 < 16 ^ (f + 1) := by
        rw [Nat.pow_succ] at hu
        exact Nat.div_lt_of_lt_mul (by omega)
      rw [List.length_append, List.length_singleton, Nat.pow_succ] at hm ⊢
      have key : (acc * 16 ^ (hexF f (u / 16)).length + u / 16) * 16 + u % 16 = acc * (16 ^ (hexF f (u / 16)).length * 16) + u := by
        rw [Nat.add_mul, ← Nat.mul_assoc]
        omega
      rw [List.append_assoc, ih (u / 16) hd acc ([dig (u % 16)] ++ l) (by omega), List.singleton_append, pu_step (Nat.mod_lt _ (by omega)) (by omega), key]

theorem pu_hex {M u : Nat} (hM : u ≤ M) (hu : u < 18446744073709551616) : pu M 0 (hex u) = .good u := by
  have h := pu_hexF (M := M) 16 u (by omega) 0 [] (by omega)
  rw [List.append_nil, Nat.zero_mul, Nat.zero_add] at h
  exact h

end RS
