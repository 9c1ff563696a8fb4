/- The contracts of slices.Contains and slices.Equal at integers. -/
import Derived.Test.YtneemepjpeohbaaDoorPoints
namespace Go.Proofs.YtneemepjpeohbaaDoor
open Go.RowKit

theorem ints_of_own {w : World} {B : Nat} {v : Value} {ps : List Nat} (h : w.ownsRow B 3 1 v ps.length (ps.map ptV)) : IntsAt w.heap.size w v (ps.map fun p : Nat => (p : Int)) := by
  have hk := h
  obtain ⟨h1, h2 | ⟨g, cap, cur, rfl, hg, hh, hn, hc, hs, ht⟩⟩ := h
  · obtain ⟨rfl, h0⟩ := h2
    obtain rfl : ps = [] := List.length_eq_zero_iff.1 h0
    exact ⟨none, 0, rfl, fun h => absurd rfl h⟩
  · refine ⟨some ⟨g, 0, none⟩, cap, by rw [List.length_map], fun _ => ⟨g, 0, rfl, lt_of_block hh, fun j hj => ?_⟩⟩
    have := hk.cells (g := g) rfl j (ptV (ps[j]'(by simpa using hj))) (by rw [List.length_map] at hj; simp [hj])
    simpa [ptV, Addr.add_lit] using this

theorem IntsAt.below {w w' : World} {B : Nat} {v : Value} {zs : List Int} (h : IntsAt B w v zs) (hb : Below B w w') (B' : Nat) (hB : B ≤ B') : IntsAt B' w' v zs := by
  obtain ⟨ao, cap, rfl, h⟩ := h
  refine ⟨ao, cap, rfl, fun hz => ?_⟩
  obtain ⟨b, off, e, hbl, hc⟩ := h hz
  exact ⟨b, off, e, by omega, fun j hj => (hb.cell (by exact hbl)).trans (hc j hj)⟩

theorem index_ints (v : Value) (zs : List Int) (B : Nat) (x : Int) (hlen : zs.length ≤ 1000000) (w : World) (hv : IntsAt B w v zs) :
    Calls Tryd.prog 24 #[v, .int .i64 x] w fun e w' => ∃ r : Int, e = .returned (.int .i64 r) ∧ (0 ≤ r ↔ x ∈ zs) ∧ w' = w := by
  obtain ⟨ao, cap, rfl, h⟩ := hv
  by_cases hz : zs = []
  · subst hz
    refine (index_nil ao cap x w).mono ?_
    rintro e w' ⟨rfl, rfl⟩
    exact ⟨-1, rfl, by simp, rfl⟩
  · obtain ⟨b, off, rfl, hb, hc⟩ := h hz
    exact index_any b off cap zs x hlen w hc

set_option maxHeartbeats 1000000 in
set_option maxRecDepth 100000 in
theorem contains_any (v : Value) (zs : List Int) (B : Nat) (x : Int) (hlen : zs.length ≤ 1000000) (w : World) (hv : IntsAt B w v zs) :
    Calls Tryd.prog 17 #[v, .int .i64 x] w fun e w' => e = .returned (.bool (decide (x ∈ zs))) ∧ w' = w := by
  have HV : Hid (IntsAt B w v zs) := hv
  clear hv
  go_enter Tryd.func17, Tryd.ntmps17
  go_wp2_with fail
  refine (index_ints _ zs B x hlen _ HV.out).mono ?_
  rintro e w' ⟨r, rfl, hr, rfl⟩
  have HR : Hid (0 ≤ r ↔ x ∈ zs) := hr
  clear hr
  go_wp2
  go_ret
  refine ⟨ret_bool ?_, rfl⟩
  have hh := HR.out
  rw [Bool.eq_iff_iff, decide_eq_true_iff, decide_eq_true_iff]
  exact hh

set_option maxHeartbeats 1000000 in
set_option maxRecDepth 100000 in
theorem equal_len (a b : Option Addr) (m n ca cb : Nat) (_hm : m ≤ 1000000) (_hn : n ≤ 1000000) (h : m ≠ n) (w : World) :
    Calls Tryd.prog 16 #[.slice a m ca, .slice b n cb] w fun e w' => e = .returned (.bool false) ∧ w' = w := by
  have hq : ((m : Int) != (n : Int)) = true := by simp; omega
  go_enter Tryd.func16, Tryd.ntmps16
  go_wp2_with fail
  go_ret
  exact ⟨rfl, rfl⟩

set_option maxHeartbeats 1000000 in
set_option maxRecDepth 100000 in
theorem equal_nil (a b : Option Addr) (ca cb : Nat) (w : World) :
    Calls Tryd.prog 16 #[.slice a 0 ca, .slice b 0 cb] w fun e w' => e = .returned (.bool true) ∧ w' = w := by
  go_enter Tryd.func16, Tryd.ntmps16
  go_wp2_with fail
  refine wp_loop_rounds 1 ?_
  rw [rounds_succ]
  go_wp2_with fail
  go_ret
  exact ⟨rfl, rfl⟩

set_option maxHeartbeats 1000000 in
set_option maxRecDepth 100000 in
theorem equal_some (a oa b ob ca cb : Nat) (xs ys : List Int) (hl : xs.length = ys.length) (hlen : xs.length ≤ 1000000) (w : World) (ha : a < w.heap.size) (hb : b < w.heap.size)
    (hx : ∀ j (h : j < xs.length), w.cell? ⟨a, oa + j, none⟩ = some (.int .i64 xs[j])) (hy : ∀ j (h : j < ys.length), w.cell? ⟨b, ob + j, none⟩ = some (.int .i64 ys[j])) :
    Calls Tryd.prog 16 #[.slice (some ⟨a, oa, none⟩) xs.length ca, .slice (some ⟨b, ob, none⟩) xs.length cb] w fun e w' => e = .returned (.bool (decide (xs = ys))) ∧ Below w.heap.size w w' := by
  have HX : Hid (∀ j (h : j < xs.length), w.cell? ⟨a, oa + j, none⟩ = some (.int .i64 xs[j])) := hx
  have HY : Hid (∀ j (h : j < ys.length), w.cell? ⟨b, ob + j, none⟩ = some (.int .i64 ys[j])) := hy
  have HL : Hid (xs.length = ys.length) := hl
  clear hx hy hl
  go_enter Tryd.func16, Tryd.ntmps16
  go_wp2
  go_loopw [13] (fun i wr => ∃ k : Nat, k ≤ xs.length ∧ i = .int .i64 k ∧ xs.take k = ys.take k ∧ Below w.heap.size w wr) (fun i _ => xs.length - (intOf i).toNat)
  case atStart => exact ⟨0, Nat.zero_le _, rfl, by simp, Below.refl _ _⟩
  case round =>
    obtain ⟨k, hk, rfl, hno, hnx⟩ := hrel
    have HNO : Hid (xs.take k = ys.take k) := hno
    clear hno
    by_cases hlt : k < xs.length
    · have hlt2 : k < ys.length := by rw [← HL.out]; exact hlt
      have hcx := (hnx.cell (p := ⟨a, oa + k, none⟩) (by exact ha)).trans (HX.out k hlt)
      have hcy := (hnx.cell (p := ⟨b, ob + k, none⟩) (by exact hb)).trans (HY.out k hlt2)
      obtain ⟨x, hx⟩ : ∃ x, x = xs[k] := ⟨_, rfl⟩
      rw [← hx] at hcx
      have HHX : Hid (x = xs[k]) := hx
      clear hx
      obtain ⟨y, hy⟩ : ∃ y, y = ys[k] := ⟨_, rfl⟩
      rw [← hy] at hcy
      have HHY : Hid (y = ys[k]) := hy
      clear hy
      by_cases hxy : x = y
      · have hq : (x != y) = false := by simp [hxy]
        have HXY : Hid (x = y) := hxy
        clear hxy
        go_wp2
        go_region
        all_goals go_wp2
        all_goals go_roundw
        case rel => exact ⟨k + 1, by omega, by go_num, by rw [List.take_succ_eq_append_getElem hlt, List.take_succ_eq_append_getElem hlt2, HNO.out, ← HHX.out, ← HHY.out, HXY.out], hnx.drew⟩
        case measure => simp [intOf]; omega
      · have hq : (x != y) = true := by simp [hxy]
        have HXY : Hid (¬ x = y) := hxy
        clear hxy
        go_wp2
        go_region
        all_goals go_wp2
        all_goals go_ret
        refine ⟨ret_bool ?_, hnx.drew⟩
        have : xs ≠ ys := by
          intro e
          subst e
          exact HXY.out (HHX.out.trans HHY.out.symm)
        simp [this]
    · go_wp2
      go_ret
      refine ⟨ret_bool ?_, hnx⟩
      have hkl : k = xs.length := by omega
      have := HNO.out
      rw [hkl, List.take_length, HL.out, List.take_length] at this
      simp [this]

theorem equal_any (va vb : Value) (xs ys : List Int) (hx : xs.length ≤ 1000000) (hy : ys.length ≤ 1000000) (w : World) (ha : IntsAt w.heap.size w va xs) (hb : IntsAt w.heap.size w vb ys) :
    Calls Tryd.prog 16 #[va, vb] w fun e w' => e = .returned (.bool (decide (xs = ys))) ∧ Below w.heap.size w w' := by
  obtain ⟨ao, ca, rfl, ha⟩ := ha
  obtain ⟨bo, cb, rfl, hb⟩ := hb
  by_cases hl : xs.length = ys.length
  · by_cases hz : xs = []
    · subst hz
      obtain rfl : ys = [] := List.length_eq_zero_iff.1 hl.symm
      refine (equal_nil ao bo ca cb w).mono ?_
      rintro e w' ⟨rfl, rfl⟩
      exact ⟨by simp, Below.refl _ _⟩
    · obtain ⟨a, oa, rfl, h1, h2⟩ := ha hz
      obtain ⟨b, ob, rfl, h3, h4⟩ := hb (by intro e; subst e; exact hz (List.length_eq_zero_iff.1 hl))
      rw [← hl]
      exact equal_some a oa b ob ca cb xs ys hl hx w h1 h3 h2 h4
  · refine (equal_len ao bo xs.length ys.length ca cb hx hy hl w).mono ?_
    rintro e w' ⟨rfl, rfl⟩
    have : xs ≠ ys := by intro e; subst e; exact hl rfl
    exact ⟨by simp [this], Below.refl _ _⟩

end Go.Proofs.YtneemepjpeohbaaDoor
