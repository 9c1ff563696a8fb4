/- bits.TrailingZeros64: a word's lowest bit. -/
import Derived.Test.YtjbdlihlcoldlaaGreatDoorG03
namespace Go.Proofs.YtjbdlihlcoldlaaGreatDoor.M
open Go.RowKit Go.Shelf

/-- i is the lowest of a word's bits. -/
def Lowest (x i : Nat) : Prop := x.testBit i = true ∧ ∀ j, j < i → x.testBit j = false

theorem Lowest.form {x i : Nat} (h : Lowest x i) : ∃ m, x = 2 ^ i * (2 * m + 1) := by
  induction i generalizing x with
  | zero =>
    refine ⟨x / 2, ?_⟩
    have := h.1
    rw [Nat.testBit_zero] at this
    simp at this
    omega
  | succ i ih =>
    have h0 : x.testBit 0 = false := h.2 0 (by omega)
    rw [Nat.testBit_zero] at h0
    simp at h0
    have h2 : Lowest (x / 2) i := ⟨by rw [← Nat.testBit_succ]; exact h.1, fun j hj => by rw [← Nat.testBit_succ]; exact h.2 (j + 1) (by omega)⟩
    obtain ⟨m, hm⟩ := ih h2
    refine ⟨m, ?_⟩
    rw [Nat.pow_succ, Nat.mul_right_comm, ← hm]
    omega

theorem exists_lowest : ∀ (n x : Nat), x < 2 ^ n → x ≠ 0 → ∃ i, i < n ∧ Lowest x i := by
  intro n
  induction n with
  | zero => intro x h h0; simp at h; omega
  | succ n ih =>
    intro x h h0
    by_cases hb : x % 2 = 1
    · exact ⟨0, by omega, by rw [Nat.testBit_zero]; simp [hb], fun j hj => by omega⟩
    · have h1 : x / 2 < 2 ^ n := by rw [Nat.pow_succ] at h; omega
      obtain ⟨i, hi, h2, h3⟩ := ih (x / 2) h1 (by omega)
      refine ⟨i + 1, by omega, by rw [Nat.testBit_succ]; exact h2, fun j hj => ?_⟩
      cases j with
      | zero => rw [Nat.testBit_zero]; simp; try omega
      | succ j => rw [Nat.testBit_succ]; exact h3 j (by omega)

theorem odd_bit (m k : Nat) : (2 * m + 1).testBit k = if k = 0 then true else m.testBit (k - 1) := by
  cases k with
  | zero => rw [Nat.testBit_zero]; simp
  | succ k =>
    rw [Nat.testBit_succ, if_neg (by omega)]
    congr 1
    omega

theorem alone_bit {x i : Nat} (hi : i < 64) (h : Lowest x i) (hx : x < 2 ^ 64) : x &&& (2 ^ 64 - x) = 2 ^ i := by
  obtain ⟨m, rfl⟩ := h.form
  have hp : 2 ^ 64 = 2 ^ i * (2 * 2 ^ (63 - i)) := by
    rw [← Nat.pow_succ', ← Nat.pow_add]; congr 1; omega
  have hm : m < 2 ^ (63 - i) := by
    rw [hp] at hx
    have := Nat.lt_of_mul_lt_mul_left hx
    omega
  have e : 2 ^ 64 - 2 ^ i * (2 * m + 1) = 2 ^ i * (2 * (2 ^ (63 - i) - (m + 1)) + 1) := by
    rw [hp, ← Nat.mul_sub]
    congr 1
    omega
  rw [e]
  apply Nat.eq_of_testBit_eq
  intro j
  rw [Nat.testBit_and, Nat.testBit_two_pow_mul, Nat.testBit_two_pow_mul, Nat.testBit_two_pow, odd_bit, odd_bit, Nat.testBit_two_pow_sub_succ hm]
  by_cases h1 : j < i
  · have h2 : ¬ i ≤ j := by omega
    have h3 : ¬ i = j := by omega
    simp [h2, h3]
  · by_cases h2 : j = i
    · subst h2; simp
    · have h3 : i ≤ j := by omega
      have h4 : ¬ i = j := by omega
      have h5 : ¬ j - i = 0 := by omega
      simp [h3, h4, h5]
      exact fun a _ => a

/-- Where a word's lowest bit is told. -/
def slot (i : Nat) : Nat := (2 ^ i * 285870213051353865 % 18446744073709551616) / 288230376151711744

theorem slot_lt (i : Nat) : slot i < 64 := by unfold slot; omega

theorem slot_u64 {x i : Nat} (hi : i < 64) (hl : Lowest x i) (hx : x < 18446744073709551616) (hx0 : x ≠ 0) :
    IntKind.u64.wrap (bits .and .u64 (x : Int) (IntKind.u64.wrap (-(x : Int))) * 285870213051353865) / 288230376151711744 = (slot i : Int) := by
  have hn : IntKind.u64.wrap (-(x : Int)) = ((18446744073709551616 - x : Nat) : Int) := by
    simp [IntKind.wrap, IntKind.bits, IntKind.signed]
    omega
  rw [hn, and_u64 _ _ hx (by omega), show x &&& (18446744073709551616 - x) = 2 ^ i from alone_bit hi hl hx]
  unfold slot
  generalize 2 ^ i = p
  simp [IntKind.wrap, IntKind.bits, IntKind.signed]

/-- The table of words' lowest bits is laid in block 3. -/
def TZ64 (w : World) : Prop := ∀ i, i < 64 → w.cell? ⟨3, slot i, none⟩ = some (.int .u8 (i : Nat))

theorem TZ64.below {w w' : World} {B : Nat} (h : TZ64 w) (hb : Below B w w') (hB : 3 < B) : TZ64 w' := fun i hi => (hb.cell (by exact hB)).trans (h i hi)

set_option maxHeartbeats 1000000 in
theorem zeros_core (x i o : Nat) (w : World) (hz : ((x : Int) == 0) = false)
    (key : IntKind.u64.wrap (bits BinOp.and IntKind.u64 (x : Int) (IntKind.u64.wrap (-(x : Int))) * 285870213051353865) / 288230376151711744 = (o : Int))
    (ho : o < 64) (hi : i < 64) (hc : w.cell? ⟨3, o, none⟩ = some (.int .u8 i)) :
    Calls Tryz.prog 214 #[.int .u64 x] w fun e w' => e = .returned (.int .i64 i) ∧ w' = w := by
  go_enter Tryz.func214, Tryz.ntmps214
  go_wp2_with (simp only [key])
  go_ret
  exact ⟨rfl, rfl⟩

theorem zeros_any (x i : Nat) (hi : i < 64) (hl : Lowest x i) (hx : x < 18446744073709551616) (w : World) (hT : TZ64 w) :
    Calls Tryz.prog 214 #[.int .u64 x] w fun e w' => e = .returned (.int .i64 i) ∧ w' = w := by
  have hx0 : x ≠ 0 := by
    rintro rfl
    have := hl.1
    simp at this
  exact zeros_core x i (slot i) w (by simp; omega) (slot_u64 hi hl hx hx0) (slot_lt i) hi (hT i hi)

end Go.Proofs.YtjbdlihlcoldlaaGreatDoor.M

namespace Go.Proofs.YtjbdlihlcoldlaaGreatDoor.M

/-- Without its lowest bit a word has the others. -/
theorem strip_bit {x i : Nat} (h : Lowest x i) (j : Nat) : (x &&& (x - 1)).testBit j = (x.testBit j && !decide (j = i)) := by
  obtain ⟨m, rfl⟩ := h.form
  have hp : 0 < 2 ^ i := Nat.two_pow_pos i
  have e : 2 ^ i * (2 * m + 1) - 1 = 2 ^ i * (2 * m) + (2 ^ i - 1) := by
    rw [Nat.mul_add, Nat.mul_one]
    omega
  rw [e, Nat.testBit_and, Nat.testBit_two_pow_mul_add _ (by omega), Nat.testBit_two_pow_mul]
  by_cases h1 : j < i
  · have h2 : ¬ i ≤ j := by omega
    simp [h2]
  · have h3 : i ≤ j := by omega
    rw [if_neg h1, odd_bit]
    by_cases h2 : j = i
    · subst h2
      simp
    · have h5 : ¬ j - i = 0 := by omega
      have h6 : (2 * m).testBit (j - i) = m.testBit (j - i - 1) := by
        obtain ⟨k, hk⟩ : ∃ k, j - i = k + 1 := ⟨j - i - 1, by omega⟩
        rw [hk, Nat.testBit_succ, Nat.add_sub_cancel]
        congr 1
        omega
      simp [h3, h5, h2, h6]

theorem strip_lt {x i : Nat} (h : Lowest x i) : x &&& (x - 1) < x := by
  have h1 : x &&& (x - 1) ≤ x - 1 := Nat.and_le_right
  have h2 : x ≠ 0 := by
    rintro rfl
    have := h.1
    simp at this
  omega

/-- It is the lowest bit and the rest. -/
theorem strip_or {x i : Nat} (h : Lowest x i) : x = 2 ^ i ||| (x &&& (x - 1)) := by
  apply Nat.eq_of_testBit_eq
  intro j
  rw [Nat.testBit_or, strip_bit h, Nat.testBit_two_pow]
  by_cases h1 : i = j
  · subst h1; simp [h.1]
  · have h2 : ¬ j = i := fun e => h1 e.symm
    simp [h1, h2]

/-- A word's places, rising. -/
def spots : Nat → Nat → List Nat
  | 0, _ => []
  | n + 1, x => spots n x ++ if x.testBit n then [n] else []

theorem spots_low {x i : Nat} (h : Lowest x i) : ∀ n, n ≤ i → spots n x = [] := by
  intro n
  induction n with
  | zero => intro _; rfl
  | succ n ih =>
    intro hn
    show spots n x ++ _ = []
    rw [ih (by omega), h.2 n (by omega)]
    rfl

theorem spots_strip {x i : Nat} (h : Lowest x i) : ∀ n, i < n → spots n x = i :: spots n (x &&& (x - 1)) := by
  intro n
  induction n with
  | zero => intro hn; omega
  | succ n ih =>
    intro hn
    show spots n x ++ _ = i :: (spots n (x &&& (x - 1)) ++ _)
    by_cases e : i = n
    · subst e
      have h0 : ∀ k, k ≤ i → spots k (x &&& (x - 1)) = [] := by
        intro k
        induction k with
        | zero => intro _; rfl
        | succ k ih2 =>
          intro hk
          show spots k _ ++ _ = []
          rw [ih2 (by omega), strip_bit h, h.2 k (by omega)]
          rfl
      rw [spots_low h i (Nat.le_refl _), h0 i (Nat.le_refl _), h.1, strip_bit h]
      simp
    · rw [ih (by omega), strip_bit h]
      have : decide (n = i) = false := decide_eq_false (fun e2 => e e2.symm)
      rw [this]
      simp

theorem spots_zero : ∀ n, spots n 0 = [] := by
  intro n
  induction n with
  | zero => rfl
  | succ n ih =>
    show spots n 0 ++ _ = []
    rw [ih]
    simp

end Go.Proofs.YtjbdlihlcoldlaaGreatDoor.M
