/- The document's own Has and RightSet. -/
import Derived.Test.YtddjppkpgflbjaaDoorSHas
import Derived.BigQuiet
import Derived.Deep.QuietTactic
namespace Go.Proofs.YtddjppkpgflbjaaDoor
open Go.RowKit

theorem wrap_little {x : Int} (h0 : -1000000000 ≤ x) (h1 : x ≤ 1000000000) : IntKind.i64.wrap x = x := by
  simp [IntKind.wrap, IntKind.bits, IntKind.signed]; omega

set_option maxHeartbeats 1000000 in
set_option maxRecDepth 100000 in
theorem in_any (n lo hi : Int) (w : World) : Calls Tryd.prog 33 #[.int .i64 n, .int .i64 lo, .int .i64 hi] w fun e w' => e = .returned (.bool (decide (lo ≤ n) && decide (n ≤ hi))) ∧ w' = w := by
  by_cases h1 : lo ≤ n
  · by_cases h2 : n ≤ hi
    · go_enter Tryd.func33, Tryd.ntmps33
      go_wp2_with fail
      go_ret
      exact ⟨ret_bool (by simp; omega), rfl⟩
    · go_enter Tryd.func33, Tryd.ntmps33
      go_wp2_with fail
      go_ret
      exact ⟨ret_bool (by simp; omega), rfl⟩
  · go_enter Tryd.func33, Tryd.ntmps33
    go_wp2_with fail
    go_ret
    exact ⟨ret_bool (by simp; omega), rfl⟩

set_option maxHeartbeats 1000000 in
set_option maxRecDepth 100000 in
theorem rhas_some (b off cap : Nat) (s : List RS.Rg) (p : Int) (hlen : s.length ≤ 1000000) (w : World) (hb : b < w.heap.size)
    (hc : ∀ k (h : k < s.length), w.cell? ⟨b, off + k * 2, none⟩ = some (.int .i64 s[k].1) ∧ w.cell? ⟨b, off + k * 2 + 1, none⟩ = some (.int .i64 s[k].2)) :
    Calls Tryd.prog 24 #[.slice (some ⟨b, off, none⟩) s.length cap, .int .i64 p] w fun e w' => e = .returned (.bool (RS.has s p)) ∧ Below w.heap.size w w' := by
  have HC : Hid (∀ k (h : k < s.length), w.cell? ⟨b, off + k * 2, none⟩ = some (.int .i64 s[k].1) ∧ w.cell? ⟨b, off + k * 2 + 1, none⟩ = some (.int .i64 s[k].2)) := hc
  clear hc
  go_enter Tryd.func24, Tryd.ntmps24
  go_wp2
  go_loopw [9] (fun i wr => ∃ (k : Nat), k ≤ s.length ∧ i = .int .i64 k ∧ RS.has s p = RS.has (s.drop k) p ∧ Below w.heap.size w wr) (fun i _ => s.length - (intOf i).toNat)
  case atStart => exact ⟨0, Nat.zero_le _, rfl, rfl, Below.refl _ _⟩
  case round =>
    obtain ⟨k, hk, rfl, hr, hnx⟩ := hrel
    have HR : Hid (RS.has s p = RS.has (s.drop k) p) := hr
    clear hr
    by_cases hlt : k < s.length
    · obtain ⟨x0, x1⟩ := HC.out k hlt
      replace x0 := (hnx.cell (p := ⟨b, off + k * 2, none⟩) (by exact hb)).trans x0
      replace x1 := (hnx.cell (p := ⟨b, off + k * 2 + 1, none⟩) (by exact hb)).trans x1
      obtain ⟨r, hr⟩ : ∃ r, r = s[k] := ⟨_, rfl⟩
      rw [← hr] at x0 x1
      have hrk : s.drop k = r :: s.drop (k + 1) := by rw [hr]; exact List.drop_eq_getElem_cons hlt
      clear hr
      obtain ⟨lo, hi⟩ := r
      dsimp only at x0 x1
      have HB := hnx.alloc hnx.size (Obj.cells #[Value.int IntKind.i64 lo, Value.int IntKind.i64 hi] 78)
      have HE : Hid (RS.has s p = (decide (lo ≤ p ∧ p ≤ hi) || RS.has (s.drop (k + 1)) p)) := by
        show _ = _
        rw [HR.out, hrk]; simp [RS.has]
      clear HR hrk
      by_cases h1 : lo ≤ p
      · by_cases h2 : p ≤ hi
        · go_wp2
          all_goals (go_ret; refine ⟨ret_bool ?_, HB⟩; rw [HE.out]; simp [h1, h2])
        · go_wp2
          case roundEnd => exact ⟨⟨k + 1, by omega, by go_num, by rw [HE.out]; simp [h1, h2], HB⟩, by simp [intOf]; omega⟩
      · go_wp2
        case roundEnd => exact ⟨⟨k + 1, by omega, by go_num, by rw [HE.out]; simp [h1], HB⟩, by simp [intOf]; omega⟩
    · go_wp2
      go_ret
      refine ⟨ret_bool ?_, hnx⟩
      rw [HR.out, List.drop_of_length_le (by omega)]
      rfl

set_option maxHeartbeats 1000000 in
set_option maxRecDepth 100000 in
theorem rhas_nil (ao : Option Addr) (cap : Nat) (p : Int) (w : World) :
    Calls Tryd.prog 24 #[.slice ao 0 cap, .int .i64 p] w fun e w' => e = .returned (.bool false) ∧ w' = w := by
  go_enter Tryd.func24, Tryd.ntmps24
  go_wp2_with fail
  refine wp_loop_rounds 1 ?_
  rw [rounds_succ]
  go_wp2_with fail
  go_ret
  exact ⟨rfl, rfl⟩

/-- The document's Has, at whatever ranges. -/
theorem rhas_any (v : Value) (s : List RS.Rg) (p : Int) (hlen : s.length ≤ 1000000) (w : World) (hv : RgAt w.heap.size w v s) :
    Calls Tryd.prog 24 #[v, .int .i64 p] w fun e w' => e = .returned (.bool (RS.has s p)) ∧ Below w.heap.size w w' := by
  obtain ⟨ao, cap, rfl, _, h⟩ := hv
  by_cases hz : s = []
  · subst hz
    refine (rhas_nil ao cap p w).mono ?_
    rintro e w' ⟨rfl, rfl⟩
    exact ⟨rfl, Below.refl _ _⟩
  · obtain ⟨b, off, rfl, hb, hc⟩ := h hz
    exact rhas_some b off cap s p hlen w hb hc

/-- What RightSet asks of one range, with the end of the one ahead of it. -/
theorem rightR (last lo hi : Int) (t : Bool) : (decide (last + 1 < lo) && decide (lo ≤ hi) && decide (hi ≤ 1114111) && t) = (if (last + 1 < lo ∧ lo ≤ hi ∧ hi ≤ 1114111) then t else false) := by
  by_cases h1 : last + 1 < lo <;> by_cases h2 : lo ≤ hi <;> by_cases h3 : hi ≤ 1114111 <;> simp [h1, h2, h3]

set_option maxHeartbeats 1000000 in
set_option maxRecDepth 100000 in
theorem rright_some (b off cap : Nat) (s : List RS.Rg) (hlen : s.length ≤ 1000000) (w : World) (hb : b < w.heap.size)
    (hc : ∀ k (h : k < s.length), w.cell? ⟨b, off + k * 2, none⟩ = some (.int .i64 s[k].1) ∧ w.cell? ⟨b, off + k * 2 + 1, none⟩ = some (.int .i64 s[k].2)) :
    Calls Tryd.prog 34 #[.slice (some ⟨b, off, none⟩) s.length cap] w fun e w' => e = .returned (.bool (RS.right s)) ∧ Below w.heap.size w w' := by
  have HC : Hid (∀ k (h : k < s.length), w.cell? ⟨b, off + k * 2, none⟩ = some (.int .i64 s[k].1) ∧ w.cell? ⟨b, off + k * 2 + 1, none⟩ = some (.int .i64 s[k].2)) := hc
  clear hc
  go_enter Tryd.func34, Tryd.ntmps34
  go_wp2
  go_loopw [7] (fun i wr => ∃ (k : Nat) (last : Int), k ≤ s.length ∧ i = .int .i64 k ∧ (k = 0 ∧ last = -2 ∨ ∃ j, ∃ h : j < s.length, k = j + 1 ∧ last = s[j].2 ∧ 0 ≤ last ∧ last ≤ 1114111) ∧ RS.right s = RS.rightFrom last (s.drop k) ∧ Below w.heap.size w wr) (fun i _ => s.length - (intOf i).toNat)
  case atStart => exact ⟨0, -2, Nat.zero_le _, rfl, .inl ⟨rfl, rfl⟩, rfl, Below.refl _ _⟩
  case round =>
    obtain ⟨k, last, hk, rfl, hlast, hr, hnx⟩ := hrel
    have HR : Hid (RS.right s = RS.rightFrom last (s.drop k)) := hr
    clear hr
    by_cases hlt : k < s.length
    · obtain ⟨x0, x1⟩ := HC.out k hlt
      replace x0 := (hnx.cell (p := ⟨b, off + k * 2, none⟩) (by exact hb)).trans x0
      replace x1 := (hnx.cell (p := ⟨b, off + k * 2 + 1, none⟩) (by exact hb)).trans x1
      obtain ⟨r, hr⟩ : ∃ r, r = s[k] := ⟨_, rfl⟩
      rw [← hr] at x0 x1
      have HRK : Hid (s.drop k = r :: s.drop (k + 1)) := by show _ = _; rw [hr]; exact List.drop_eq_getElem_cons hlt
      have HRE : Hid (r = s[k]) := hr
      clear hr
      obtain ⟨lo, hi⟩ := r
      dsimp only at x0 x1
      have HB := hnx.alloc hnx.size (Obj.cells #[Value.int IntKind.i64 lo, Value.int IntKind.i64 hi] 78)
      have HE : Hid (RS.right s = (if (last + 1 < lo ∧ lo ≤ hi ∧ hi ≤ 1114111) then RS.rightFrom hi (s.drop (k + 1)) else false)) := by
        show _ = _
        rw [HR.out, HRK.out, ← rightR]; rfl
      clear HR HRK
      by_cases h1 : 0 ≤ lo ∧ lo ≤ 1114111
      · have q1 : (decide (0 ≤ lo) && decide (lo ≤ 1114111)) = true := by simp; omega
        by_cases h2 : lo ≤ hi ∧ hi ≤ 1114111
        · have q2 : (decide (lo ≤ hi) && decide (hi ≤ 1114111)) = true := by simp; omega
          rcases hlast with ⟨hk0, rfl⟩ | ⟨j, hj, hkj, hl, hl0, hl1⟩
          · have HN : Hid (RS.right s = RS.rightFrom hi (s.drop (k + 1))) := by show _ = _; rw [HE.out, if_pos (by omega)]
            have HL : Hid (∃ j, ∃ h : j < s.length, k + 1 = j + 1 ∧ hi = s[j].2 ∧ 0 ≤ hi ∧ hi ≤ 1114111) := ⟨k, hlt, rfl, by rw [← HRE.out], by omega, by omega⟩
            have hg : decide (0 < k) = false := by simp; omega
            clear HE HRE hk0 h1 h2
            go_wp2_with fail
            go_quiet ((go_at_call 33; exact Calls.quiet_of_same (in_any _ _ _ _)))
            go_wp2_with fail
            exact ⟨⟨k + 1, hi, by omega, by go_num, .inr HL.out, HN.out, below_drewN HB _⟩, by simp [intOf]; omega⟩
          · have hg : decide (0 < k) = true := by simp; omega
            have xj := (HC.out j hj).2
            replace xj := (HB.cell (p := ⟨b, off + j * 2 + 1, none⟩) (by exact hb)).trans xj
            rw [← hl] at xj
            have HK : Hid (k = j + 1) := hkj
            have hk1 : 1 ≤ k := by omega
            have ej : j = k - 1 := by omega
            rw [ej] at xj
            have H12 : Hid ((0 ≤ lo ∧ lo ≤ 1114111) ∧ lo ≤ hi ∧ hi ≤ 1114111) := ⟨h1, h2⟩
            have hw1 : IntKind.i64.wrap ((k : Int) - 1) = ((k - 1 : Nat) : Int) := by rw [wrap_little (by omega) (by omega)]; omega
            have hw2 : IntKind.i64.wrap (last + 2) = last + 2 := wrap_little (by omega) (by omega)
            have hkl : k - 1 < s.length := by omega
            have HL : Hid (∃ j, ∃ h : j < s.length, k + 1 = j + 1 ∧ hi = s[j].2 ∧ 0 ≤ hi ∧ hi ≤ 1114111) := ⟨k, hlt, rfl, by rw [← HRE.out], by omega, by omega⟩
            clear h1 h2 hl hkj ej HRE
            by_cases h3 : lo < last + 2
            · have HN : Hid (RS.right s = false) := by show _ = _; rw [HE.out, if_neg (by omega)]
              have q3 : decide (lo < last + 2) = true := by simpa using h3
              clear HE h3
              go_wp2_with fail
              go_quiet ((go_at_call 33; exact Calls.quiet_of_same (in_any _ _ _ _)))
              go_wp2_with fail
              go_ret
              exact ⟨ret_bool HN.out.symm, below_drewN HB _⟩
            · have HN : Hid (RS.right s = RS.rightFrom hi (s.drop (k + 1))) := by show _ = _; rw [HE.out, if_pos (by have := H12.out; omega)]
              have q3 : decide (lo < last + 2) = false := by simpa using h3
              clear HE h3
              go_wp2_with fail
              go_quiet ((go_at_call 33; exact Calls.quiet_of_same (in_any _ _ _ _)))
              go_wp2_with fail
              exact ⟨⟨k + 1, hi, by omega, by go_num, .inr HL.out, HN.out, below_drewN HB _⟩, by simp [intOf]; omega⟩
        · have q2 : (decide (lo ≤ hi) && decide (hi ≤ 1114111)) = false := by simp; omega
          have HN : Hid (RS.right s = false) := by show _ = _; rw [HE.out, if_neg (by omega)]
          clear HE HRE h1 h2 hlast
          go_wp2_with fail
          go_quiet ((go_at_call 33; exact Calls.quiet_of_same (in_any _ _ _ _)))
          go_wp2_with fail
          go_ret
          exact ⟨ret_bool HN.out.symm, below_drewN HB _⟩
      · have q1 : (decide (0 ≤ lo) && decide (lo ≤ 1114111)) = false := by simp; omega
        have HN : Hid (RS.right s = false) := by
          show _ = _
          rw [HE.out, if_neg]
          rcases hlast with ⟨_, rfl⟩ | ⟨_, _, _, _, _, _⟩ <;> omega
        clear HE HRE h1 hlast
        go_wp2_with fail
        go_quiet ((go_at_call 33; exact Calls.quiet_of_same (in_any _ _ _ _)))
        go_wp2_with fail
        go_ret
        exact ⟨ret_bool HN.out.symm, below_drewN HB _⟩
    · go_wp2
      go_ret
      refine ⟨ret_bool ?_, hnx⟩
      rw [HR.out, List.drop_of_length_le (by omega)]
      rfl

set_option maxHeartbeats 1000000 in
set_option maxRecDepth 100000 in
theorem rright_nil (ao : Option Addr) (cap : Nat) (w : World) :
    Calls Tryd.prog 34 #[.slice ao 0 cap] w fun e w' => e = .returned (.bool true) ∧ w' = w := by
  go_enter Tryd.func34, Tryd.ntmps34
  go_wp2_with fail
  refine wp_loop_rounds 1 ?_
  rw [rounds_succ]
  go_wp2_with fail
  go_ret
  exact ⟨rfl, rfl⟩

/-- The document's RightSet says what set.Right says. -/
theorem rright_any (v : Value) (s : List RS.Rg) (hlen : s.length ≤ 1000000) (w : World) (hv : RgAt w.heap.size w v s) :
    Calls Tryd.prog 34 #[v] w fun e w' => e = .returned (.bool (RS.right s)) ∧ Below w.heap.size w w' := by
  obtain ⟨ao, cap, rfl, _, h⟩ := hv
  by_cases hz : s = []
  · subst hz
    refine (rright_nil ao cap w).mono ?_
    rintro e w' ⟨rfl, rfl⟩
    exact ⟨rfl, Below.refl _ _⟩
  · obtain ⟨b, off, rfl, hb, hc⟩ := h hz
    exact rright_some b off cap s hlen w hb hc

end Go.Proofs.YtddjppkpgflbjaaDoor
