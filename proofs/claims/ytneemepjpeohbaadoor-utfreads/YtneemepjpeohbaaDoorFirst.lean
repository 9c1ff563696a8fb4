/- The contract of utf.first, whole: it hands back the code point at the head, or none. -/
import Derived.Test.YtneemepjpeohbaaDoorLeaf
namespace Go.Proofs.YtneemepjpeohbaaDoor
open Go.RowKit

theorem at_list (s : ByteArray) (k : Nat) (h : k < s.size) : s.data.toList[k]? = some s[k] := by
  rw [List.getElem?_eq_getElem (by simpa using h)]; rfl

theorem cont_int {c : UInt8} : ((c.toNat : Int) / 64 != 2) = !(U8.cont c) := by
  unfold U8.cont
  by_cases h : c.toNat / 64 = 2
  · have : ((c.toNat : Int) / 64) = 2 := by omega
    simp [h, this]
  · have : ((c.toNat : Int) / 64) ≠ 2 := by omega
    simp [h, this]

theorem lenBy_five (a : Nat) : U8.lenBy a = 0 ∨ U8.lenBy a = 1 ∨ U8.lenBy a = 2 ∨ U8.lenBy a = 3 ∨ U8.lenBy a = 4 := by
  unfold U8.lenBy; split <;> (try omega); split <;> (try omega); split <;> (try omega); split <;> omega

theorem lenBy_one {a : Nat} (h : U8.lenBy a = 1) : a < 128 := by
  unfold U8.lenBy at h; split at h <;> (try assumption); split at h <;> (try omega); split at h <;> (try omega); split at h <;> omega

theorem chk_none_lt {n p : Nat} (h : U8.lenOf p < n) : U8.chk n p = none := by
  unfold U8.chk; rw [if_neg]; rintro ⟨h1, _⟩; omega
theorem chk_no {n p : Nat} (h : U8.isPt p = false) : U8.chk n p = none := by
  unfold U8.chk; rw [if_neg]; rintro ⟨_, h1⟩; rw [h] at h1; cases h1
theorem chk_yes {n p : Nat} (h1 : U8.lenOf p = n) (h : U8.isPt p = true) : U8.chk n p = some (p, n) := by
  unfold U8.chk; rw [if_pos ⟨h1, h⟩]
theorem lenOf2 {p : Nat} (h1 : 128 ≤ p) (h2 : p < 2048) : U8.lenOf p = 2 := by unfold U8.lenOf; rw [if_neg (by omega), if_pos h2]
theorem lenOf3 {p : Nat} (h1 : 2048 ≤ p) (h2 : p < 65536) : U8.lenOf p = 3 := by unfold U8.lenOf; rw [if_neg (by omega), if_neg (by omega), if_pos h2]
theorem lenOf4 {p : Nat} (h1 : 65536 ≤ p) : U8.lenOf p = 4 := by unfold U8.lenOf; rw [if_neg (by omega), if_neg (by omega), if_neg (by omega)]
theorem lenOf_lt2 {p : Nat} (h1 : p < 128) : U8.lenOf p < 2 := by unfold U8.lenOf; rw [if_pos h1]; omega
theorem lenOf_lt3 {p : Nat} (h1 : p < 2048) : U8.lenOf p < 3 := by unfold U8.lenOf; split <;> omega
theorem lenOf_lt4 {p : Nat} (h1 : p < 65536) : U8.lenOf p < 4 := by unfold U8.lenOf; (split <;> try omega) <;> split <;> omega

theorem first_any (s : ByteArray) (hs : s.size ≤ 1000000) (h0 : 0 < s.size) (w : World) (hL : LE w) :
    Calls Tryd.prog 18 #[.string s] w fun e w' => e = .returned (told (U8.first s.data.toList)) ∧ w' = w := by
  have hlen : s.data.toList.length = s.size := by simp
  have g0 := at_list s 0 h0
  have b0 : (s[0]'h0).toNat < 256 := UInt8.toNat_lt _
  rcases lenBy_five (s[0]'h0).toNat with hn | hn | hn | hn | hn
  · have e : told (U8.first s.data.toList) = nothing := by
      cases hl : s.data.toList with
      | nil => rfl
      | cons a r =>
        rw [hl] at g0; simp at g0; subst g0
        simp [U8.first, hn, told, nothing]
    rw [e]
    exact first_0 s hs h0 w hL hn
  · have hb := lenBy_one hn
    have hp : U8.isPt (((s[0]'h0).toNat : Nat) : Int) = true := (U8.isPt_nat _).2 (by omega)
    have e : told (U8.first s.data.toList) = .tuple #[.int .i64 ((s[0]'h0).toNat : Nat), .int .i64 1, .bool true] := by
      cases hl : s.data.toList with
      | nil => rw [hl] at g0; simp at g0
      | cons a r =>
        rw [hl] at g0; simp at g0; subst g0
        simp [U8.first, hn, told]
    rw [e]
    exact first_1 s hs h0 w hL hn hb hp
  · by_cases h1 : s.size < 2
    · have e : told (U8.first s.data.toList) = nothing := by
        match hl : s.data.toList with
        | [] => rfl
        | [a] => rw [hl] at g0; simp at g0; subst g0; simp [U8.first, hn, told, nothing]
        | a :: b :: r => rw [hl] at hlen; simp at hlen; omega
      rw [e]
      exact first_2s s hs h0 h1 w hL hn
    · have g1 := at_list s 1 (by omega)
      have b1 : (s[1]'(by omega)).toNat < 256 := UInt8.toNat_lt _
      have e : U8.first s.data.toList = if U8.cont (s[1]'(by omega)) then U8.chk 2 ((s[0]'h0).toNat % 32 * 64 + U8.low (s[1]'(by omega))) else none := by
        match hl : s.data.toList with
        | [] => rw [hl] at hlen; simp at hlen; omega
        | [a] => rw [hl] at hlen; simp at hlen; omega
        | a :: b :: r =>
          rw [hl] at g0 g1; simp at g0 g1; subst g0 g1
          simp [U8.first, hn]
      rw [e]
      have hlow : U8.low (s[1]'(by omega)) < 64 := by unfold U8.low; omega
      have ha := and31 _ b0
      cases hc : U8.cont (s[1]'(by omega)) with
      | false => exact first_2b1 s hs (by omega) w hL hn (by rw [cont_int, hc]; rfl) ha
      | true =>
        simp only [if_true]
        have c1 : (((s[1]'(by omega)).toNat : Int) / 64 != 2) = false := by rw [cont_int, hc]; rfl
        have e1 : bits .or .i64 (((s[0]'h0).toNat : Int) % 32 * 64) (((s[1]'(by omega)).toNat : Int) % 64) = (((s[0]'h0).toNat % 32 * 64 + U8.low (s[1]'(by omega)) : Nat) : Int) := by
          rw [i64_or6 _ _ (by omega) (by omega) (by omega) (by omega)]; unfold U8.low; omega
        generalize hP : (s[0]'h0).toNat % 32 * 64 + U8.low (s[1]'(by omega)) = P at e1 ⊢
        by_cases hl : P < 128
        · rw [chk_none_lt (lenOf_lt2 hl)]
          exact first_2l s hs (by omega) w hL hn P c1 ha e1 (by omega) (by omega) (by omega)
        · cases hp : U8.isPt (P : Int) with
          | false => rw [chk_no hp]; exact first_2n s hs (by omega) w hL hn P c1 ha e1 (by omega) (by omega) (by omega) hp
          | true => rw [chk_yes (lenOf2 (by omega) (by omega)) hp]; exact first_2y s hs (by omega) w hL hn P c1 ha e1 (by omega) (by omega) (by omega) hp
  · by_cases h1 : s.size < 3
    · have e : told (U8.first s.data.toList) = nothing := by
        match hl : s.data.toList with
        | [] => rfl
        | [a] => rw [hl] at g0; simp at g0; subst g0; simp [U8.first, hn, told, nothing]
        | [a, b] => rw [hl] at g0; simp at g0; subst g0; simp [U8.first, hn, told, nothing]
        | a :: b :: c :: r => rw [hl] at hlen; simp at hlen; omega
      rw [e]
      exact first_3s s hs h0 h1 w hL hn
    · have g1 := at_list s 1 (by omega)
      have g2 := at_list s 2 (by omega)
      have b1 : (s[1]'(by omega)).toNat < 256 := UInt8.toNat_lt _
      have b2 : (s[2]'(by omega)).toNat < 256 := UInt8.toNat_lt _
      have e : U8.first s.data.toList = if U8.cont (s[1]'(by omega)) && U8.cont (s[2]'(by omega)) then U8.chk 3 (((s[0]'h0).toNat % 16 * 64 + U8.low (s[1]'(by omega))) * 64 + U8.low (s[2]'(by omega))) else none := by
        match hl : s.data.toList with
        | [] => rw [hl] at hlen; simp at hlen; omega
        | [a] => rw [hl] at hlen; simp at hlen; omega
        | [a, b] => rw [hl] at hlen; simp at hlen; omega
        | a :: b :: c :: r =>
          rw [hl] at g0 g1 g2; simp at g0 g1 g2; subst g0 g1 g2
          simp [U8.first, hn]
      rw [e]
      have hlow : U8.low (s[1]'(by omega)) < 64 := by unfold U8.low; omega
      have hlow2 : U8.low (s[2]'(by omega)) < 64 := by unfold U8.low; omega
      have ha := and15 _ b0
      cases hc : U8.cont (s[1]'(by omega)) with
      | false => exact first_3b1 s hs (by omega) w hL hn (by rw [cont_int, hc]; rfl) ha
      | true =>
        have c1 : (((s[1]'(by omega)).toNat : Int) / 64 != 2) = false := by rw [cont_int, hc]; rfl
        have e1 : bits .or .i64 (((s[0]'h0).toNat : Int) % 16 * 64) (((s[1]'(by omega)).toNat : Int) % 64) = (((s[0]'h0).toNat % 16 * 64 + U8.low (s[1]'(by omega)) : Nat) : Int) := by
          rw [i64_or6 _ _ (by omega) (by omega) (by omega) (by omega)]; unfold U8.low; omega
        generalize hP : (s[0]'h0).toNat % 16 * 64 + U8.low (s[1]'(by omega)) = P at e1 ⊢
        cases hc2 : U8.cont (s[2]'(by omega)) with
        | false => exact first_3b2 s hs (by omega) w hL hn P c1 (by rw [cont_int, hc2]; rfl) ha e1 (by omega) (by omega)
        | true =>
          simp only [Bool.and_self, if_true]
          have c2 : (((s[2]'(by omega)).toNat : Int) / 64 != 2) = false := by rw [cont_int, hc2]; rfl
          have e2 : bits .or .i64 ((P : Int) * 64) (((s[2]'(by omega)).toNat : Int) % 64) = ((P * 64 + U8.low (s[2]'(by omega)) : Nat) : Int) := by
            rw [i64_or6 _ _ (by omega) (by omega) (by omega) (by omega)]; unfold U8.low; omega
          generalize hP2 : P * 64 + U8.low (s[2]'(by omega)) = P2 at e2 ⊢
          by_cases hl : P2 < 2048
          · rw [chk_none_lt (lenOf_lt3 hl)]
            exact first_3l s hs (by omega) w hL hn P P2 c1 c2 ha e1 e2 (by omega) (by omega) (by omega) (by omega) (by omega)
          · cases hp : U8.isPt (P2 : Int) with
            | false => rw [chk_no hp]; exact first_3n s hs (by omega) w hL hn P P2 c1 c2 ha e1 e2 (by omega) (by omega) (by omega) (by omega) (by omega) hp
            | true => rw [chk_yes (lenOf3 (by omega) (by omega)) hp]; exact first_3y s hs (by omega) w hL hn P P2 c1 c2 ha e1 e2 (by omega) (by omega) (by omega) (by omega) (by omega) hp
  · by_cases h1 : s.size < 4
    · have e : told (U8.first s.data.toList) = nothing := by
        match hl : s.data.toList with
        | [] => rfl
        | [a] => rw [hl] at g0; simp at g0; subst g0; simp [U8.first, hn, told, nothing]
        | [a, b] => rw [hl] at g0; simp at g0; subst g0; simp [U8.first, hn, told, nothing]
        | [a, b, c] => rw [hl] at g0; simp at g0; subst g0; simp [U8.first, hn, told, nothing]
        | a :: b :: c :: d :: r => rw [hl] at hlen; simp at hlen; omega
      rw [e]
      exact first_4s s hs h0 h1 w hL hn
    · have g1 := at_list s 1 (by omega)
      have g2 := at_list s 2 (by omega)
      have g3 := at_list s 3 (by omega)
      have b1 : (s[1]'(by omega)).toNat < 256 := UInt8.toNat_lt _
      have b2 : (s[2]'(by omega)).toNat < 256 := UInt8.toNat_lt _
      have b3 : (s[3]'(by omega)).toNat < 256 := UInt8.toNat_lt _
      have e : U8.first s.data.toList = if U8.cont (s[1]'(by omega)) && U8.cont (s[2]'(by omega)) && U8.cont (s[3]'(by omega)) then U8.chk 4 ((((s[0]'h0).toNat % 8 * 64 + U8.low (s[1]'(by omega))) * 64 + U8.low (s[2]'(by omega))) * 64 + U8.low (s[3]'(by omega))) else none := by
        match hl : s.data.toList with
        | [] => rw [hl] at hlen; simp at hlen; omega
        | [a] => rw [hl] at hlen; simp at hlen; omega
        | [a, b] => rw [hl] at hlen; simp at hlen; omega
        | [a, b, c] => rw [hl] at hlen; simp at hlen; omega
        | a :: b :: c :: d :: r =>
          rw [hl] at g0 g1 g2 g3; simp at g0 g1 g2 g3; subst g0 g1 g2 g3
          simp [U8.first, hn]
      rw [e]
      have hlow : U8.low (s[1]'(by omega)) < 64 := by unfold U8.low; omega
      have hlow2 : U8.low (s[2]'(by omega)) < 64 := by unfold U8.low; omega
      have hlow3 : U8.low (s[3]'(by omega)) < 64 := by unfold U8.low; omega
      have ha := and7 _ b0
      cases hc : U8.cont (s[1]'(by omega)) with
      | false => exact first_4b1 s hs (by omega) w hL hn (by rw [cont_int, hc]; rfl) ha
      | true =>
        have c1 : (((s[1]'(by omega)).toNat : Int) / 64 != 2) = false := by rw [cont_int, hc]; rfl
        have e1 : bits .or .i64 (((s[0]'h0).toNat : Int) % 8 * 64) (((s[1]'(by omega)).toNat : Int) % 64) = (((s[0]'h0).toNat % 8 * 64 + U8.low (s[1]'(by omega)) : Nat) : Int) := by
          rw [i64_or6 _ _ (by omega) (by omega) (by omega) (by omega)]; unfold U8.low; omega
        generalize hP : (s[0]'h0).toNat % 8 * 64 + U8.low (s[1]'(by omega)) = P at e1 ⊢
        cases hc2 : U8.cont (s[2]'(by omega)) with
        | false => exact first_4b2 s hs (by omega) w hL hn P c1 (by rw [cont_int, hc2]; rfl) ha e1 (by omega) (by omega)
        | true =>
          have c2 : (((s[2]'(by omega)).toNat : Int) / 64 != 2) = false := by rw [cont_int, hc2]; rfl
          have e2 : bits .or .i64 ((P : Int) * 64) (((s[2]'(by omega)).toNat : Int) % 64) = ((P * 64 + U8.low (s[2]'(by omega)) : Nat) : Int) := by
            rw [i64_or6 _ _ (by omega) (by omega) (by omega) (by omega)]; unfold U8.low; omega
          generalize hP2 : P * 64 + U8.low (s[2]'(by omega)) = P2 at e2 ⊢
          cases hc3 : U8.cont (s[3]'(by omega)) with
          | false => exact first_4b3 s hs (by omega) w hL hn P P2 c1 c2 (by rw [cont_int, hc3]; rfl) ha e1 e2 (by omega) (by omega) (by omega) (by omega)
          | true =>
            simp only [Bool.and_self, if_true]
            have c3 : (((s[3]'(by omega)).toNat : Int) / 64 != 2) = false := by rw [cont_int, hc3]; rfl
            have e3 : bits .or .i64 ((P2 : Int) * 64) (((s[3]'(by omega)).toNat : Int) % 64) = ((P2 * 64 + U8.low (s[3]'(by omega)) : Nat) : Int) := by
              rw [i64_or6 _ _ (by omega) (by omega) (by omega) (by omega)]; unfold U8.low; omega
            generalize hP3 : P2 * 64 + U8.low (s[3]'(by omega)) = P3 at e3 ⊢
            by_cases hl : P3 < 65536
            · rw [chk_none_lt (lenOf_lt4 hl)]
              exact first_4l s hs (by omega) w hL hn P P2 P3 c1 c2 c3 ha e1 e2 e3 (by omega) (by omega) (by omega) (by omega) (by omega) (by omega) (by omega)
            · cases hp : U8.isPt (P3 : Int) with
              | false => rw [chk_no hp]; exact first_4n s hs (by omega) w hL hn P P2 P3 c1 c2 c3 ha e1 e2 e3 (by omega) (by omega) (by omega) (by omega) (by omega) (by omega) (by omega) hp
              | true => rw [chk_yes (lenOf4 (by omega)) hp]; exact first_4y s hs (by omega) w hL hn P P2 P3 c1 c2 c3 ha e1 e2 e3 (by omega) (by omega) (by omega) (by omega) (by omega) (by omega) (by omega) hp

end Go.Proofs.YtneemepjpeohbaaDoor
