/- The contracts that UtfCovers leans on besides: slices.Equal at units that are alike, slices.ContainsFunc with the law's own test, utf.Encode where a number is no code point. -/
import Derived.Test.YtneemepjpeohbaaDoorAgainWalk
import Derived.Test.YtneemepjpeohbaaDoorMathB
namespace Go.Proofs.YtneemepjpeohbaaDoor
open Go.RowKit

set_option maxHeartbeats 1000000 in
set_option maxRecDepth 100000 in
theorem test_any (p : Int) (w : World) :
    Calls Tryd.prog 14 #[.int .i64 p] w fun e w' => e = .returned (.bool (!(U8.isPt p))) ∧ w' = w := by
  go_enter Tryd.func14, Tryd.ntmps14
  go_wp2
  all_goals go_ret
  all_goals refine ⟨ret_bool ?_, rfl⟩
  all_goals (rw [Bool.eq_iff_iff, Bool.not_eq_true', ← Bool.not_eq_true, U8.isPt_iff]; simp; try omega)

set_option maxHeartbeats 1000000 in
set_option maxRecDepth 100000 in
theorem indexF_any (b off cap : Nat) (zs : List Int) (hlen : zs.length ≤ 1000000) (w : World) (hc : ∀ j (h : j < zs.length), w.cell? ⟨b, off + j, none⟩ = some (.int .i64 zs[j])) (hex : ∃ z ∈ zs, U8.isPt z = false) :
    Calls Tryd.prog 23 #[.slice (some ⟨b, off, none⟩) zs.length cap, .func (.func 14) #[] #[]] w fun e w' => ∃ r : Int, e = .returned (.int .i64 r) ∧ 0 ≤ r ∧ w' = w := by
  have HC : Hid (∀ j (h : j < zs.length), w.cell? ⟨b, off + j, none⟩ = some (.int .i64 zs[j])) := hc
  have HEX : Hid (∃ z ∈ zs, U8.isPt z = false) := hex
  clear hc hex
  go_enter Tryd.func23, Tryd.ntmps23
  go_wp2
  go_loop [8] (fun i => ∃ k : Nat, k ≤ zs.length ∧ i = .int .i64 k ∧ ∀ z ∈ zs.take k, U8.isPt z = true) (fun i => zs.length - (intOf i).toNat)
  case atStart => exact ⟨0, Nat.zero_le _, rfl, by simp⟩
  case round =>
    obtain ⟨k, hk, rfl, hno⟩ := hrel
    have HNO : Hid (∀ z ∈ zs.take k, U8.isPt z = true) := hno
    clear hno
    by_cases hlt : k < zs.length
    · have hcx := HC.out k hlt
      obtain ⟨y, hy⟩ : ∃ y, y = zs[k] := ⟨_, rfl⟩
      rw [← hy] at hcx
      have HY : Hid (y = zs[k]) := hy
      clear hy
      go_wp2_with fail
      refine (test_any y _).mono ?_
      rintro e w' ⟨rfl, rfl⟩
      cases hp : U8.isPt y with
      | false =>
        have HP : Hid (U8.isPt y = false) := hp
        clear hp
        go_wp2
        go_ret
        exact ⟨_, rfl, by omega, rfl⟩
      | true =>
        have HP : Hid (U8.isPt y = true) := hp
        clear hp
        go_wp2
        go_round
        case rel =>
          refine ⟨k + 1, by omega, by go_num, ?_⟩
          rw [List.take_succ_eq_append_getElem hlt]
          intro z hz
          rcases List.mem_append.1 hz with hz | hz
          · exact HNO.out z hz
          · rw [List.mem_singleton.1 hz, ← HY.out]; exact HP.out
        case measure => simp [intOf]; omega
    · exfalso
      have hkl : k = zs.length := by omega
      obtain ⟨z, hz, hz2⟩ := HEX.out
      have := HNO.out z (by rw [hkl, List.take_length]; exact hz)
      rw [hz2] at this
      cases this

set_option maxHeartbeats 1000000 in
set_option maxRecDepth 100000 in
theorem containsF_any (v : Value) (zs : List Int) (B : Nat) (hlen : zs.length ≤ 1000000) (w : World) (hv : IntsAt B w v zs) (hex : ∃ z ∈ zs, U8.isPt z = false) :
    Calls Tryd.prog 13 #[v, .func (.func 14) #[] #[]] w fun e w' => e = .returned (.bool true) ∧ w' = w := by
  have HEX : Hid (∃ z ∈ zs, U8.isPt z = false) := hex
  clear hex
  obtain ⟨ao, cap, rfl, h⟩ := hv
  have hz : zs ≠ [] := by rintro rfl; obtain ⟨z, hz, _⟩ := HEX.out; simp at hz
  obtain ⟨b, off, rfl, hb, hc⟩ := h hz
  have HC : Hid (∀ j (h : j < zs.length), w.cell? ⟨b, off + j, none⟩ = some (.int .i64 zs[j])) := hc
  clear hc h hz
  go_enter Tryd.func13, Tryd.ntmps13
  go_wp2_with fail
  refine (indexF_any b off cap zs hlen _ HC.out HEX.out).mono ?_
  rintro e w' ⟨r, rfl, hr, rfl⟩
  go_wp2_with fail
  go_ret
  exact ⟨rfl, rfl⟩

/-- A slice value holds these units, in memory below B. -/
def UnitsAt (B : Nat) (w : World) (v : Value) (us : List (Nat × Nat × Nat)) : Prop :=
  ∃ ao cap, v = .slice ao us.length cap ∧ us.length ≤ cap ∧ (us ≠ [] → ∃ b, ao = some ⟨b, 0, none⟩ ∧ b < B ∧ ∀ k (h : k < us.length),
    w.cell? ⟨b, k * 3, none⟩ = some (.int .i64 (us[k].1 : Nat)) ∧ w.cell? ⟨b, k * 3 + 1, none⟩ = some (.int .i64 (us[k].2.1 : Nat)) ∧ w.cell? ⟨b, k * 3 + 2, none⟩ = some (.int .i64 (us[k].2.2 : Nat)))

theorem units_of_own {w : World} {B : Nat} {v : Value} {us : List (Nat × Nat × Nat)} (h : w.ownsRow B 26 3 v us.length (flat us)) : UnitsAt w.heap.size w v us := by
  have hk := h
  obtain ⟨h1, h2 | ⟨g, cap, cur, rfl, hg, hh, hn, hc, hs, ht⟩⟩ := h
  · obtain ⟨rfl, h0⟩ := h2
    obtain rfl : us = [] := List.length_eq_zero_iff.1 h0
    exact ⟨none, 0, rfl, Nat.le_refl _, fun h => absurd rfl h⟩
  · exact ⟨some ⟨g, 0, none⟩, cap, rfl, hn, fun _ => ⟨g, rfl, lt_of_block hh, fun k h => unit_cells hk k h⟩⟩

theorem UnitsAt.below {w w' : World} {B : Nat} {v : Value} {us : List (Nat × Nat × Nat)} (h : UnitsAt B w v us) (hb : Below B w w') (B' : Nat) (hB : B ≤ B') : UnitsAt B' w' v us := by
  obtain ⟨ao, cap, rfl, hc, h⟩ := h
  refine ⟨ao, cap, rfl, hc, fun hz => ?_⟩
  obtain ⟨b, e, hbl, hc⟩ := h hz
  exact ⟨b, e, by omega, fun k hk => ⟨(hb.cell (by exact hbl)).trans (hc k hk).1, (hb.cell (by exact hbl)).trans (hc k hk).2.1, (hb.cell (by exact hbl)).trans (hc k hk).2.2⟩⟩

set_option maxHeartbeats 1000000 in
set_option maxRecDepth 100000 in
theorem equalU_some (a b ca cb : Nat) (us : List (Nat × Nat × Nat)) (hlen : us.length ≤ 1000000) (w : World) (ha : a < w.heap.size) (hb : b < w.heap.size)
    (hx : ∀ k (h : k < us.length), w.cell? ⟨a, k * 3, none⟩ = some (.int .i64 (us[k].1 : Nat)) ∧ w.cell? ⟨a, k * 3 + 1, none⟩ = some (.int .i64 (us[k].2.1 : Nat)) ∧ w.cell? ⟨a, k * 3 + 2, none⟩ = some (.int .i64 (us[k].2.2 : Nat)))
    (hy : ∀ k (h : k < us.length), w.cell? ⟨b, k * 3, none⟩ = some (.int .i64 (us[k].1 : Nat)) ∧ w.cell? ⟨b, k * 3 + 1, none⟩ = some (.int .i64 (us[k].2.1 : Nat)) ∧ w.cell? ⟨b, k * 3 + 2, none⟩ = some (.int .i64 (us[k].2.2 : Nat))) :
    Calls Tryd.prog 12 #[.slice (some ⟨a, 0, none⟩) us.length ca, .slice (some ⟨b, 0, none⟩) us.length cb] w fun e w' => e = .returned (.bool true) ∧ Below w.heap.size w w' := by
  have HX : Hid _ := hx
  have HY : Hid _ := hy
  clear hx hy
  go_enter Tryd.func12, Tryd.ntmps12
  go_wp2
  go_loopw [13] (fun i wr => ∃ k : Nat, k ≤ us.length ∧ i = .int .i64 k ∧ Below w.heap.size w wr) (fun i _ => us.length - (intOf i).toNat)
  case atStart => exact ⟨0, Nat.zero_le _, rfl, Below.refl _ _⟩
  case round =>
    obtain ⟨k, hk, rfl, hnx⟩ := hrel
    by_cases hlt : k < us.length
    · obtain ⟨x0, x1, x2⟩ := HX.out k hlt
      obtain ⟨y0, y1, y2⟩ := HY.out k hlt
      replace x0 := (hnx.cell (p := ⟨a, k * 3, none⟩) (by exact ha)).trans x0
      replace x1 := (hnx.cell (p := ⟨a, k * 3 + 1, none⟩) (by exact ha)).trans x1
      replace x2 := (hnx.cell (p := ⟨a, k * 3 + 2, none⟩) (by exact ha)).trans x2
      replace y0 := (hnx.cell (p := ⟨b, k * 3, none⟩) (by exact hb)).trans y0
      replace y1 := (hnx.cell (p := ⟨b, k * 3 + 1, none⟩) (by exact hb)).trans y1
      replace y2 := (hnx.cell (p := ⟨b, k * 3 + 2, none⟩) (by exact hb)).trans y2
      generalize us[k].1 = p0 at x0 y0
      generalize us[k].2.1 = p1 at x1 y1
      generalize us[k].2.2 = p2 at x2 y2
      go_wp2
      go_region
      all_goals go_wp2
      all_goals go_roundw
      case rel => exact ⟨k + 1, by omega, by go_num, hnx.drew⟩
      case measure => simp [intOf]; omega
    · go_wp2
      go_ret
      exact ⟨rfl, hnx⟩


set_option maxHeartbeats 1000000 in
set_option maxRecDepth 100000 in
theorem encode_bad (b off cap : Nat) (zs : List Int) (n : Nat) (hn : n < zs.length) (hbad : U8.isPt zs[n] = false) (hgood : ∀ j (h : j < n), U8.isPt (zs[j]'(by omega)) = true) (hlen : zs.length ≤ 2000) (w : World) (hL : LE w) (hB : 1 < w.heap.size) (hb : b < w.heap.size)
    (hc : ∀ j (h : j < zs.length), w.cell? ⟨b, off + j, none⟩ = some (.int .i64 zs[j])) :
    Calls Tryd.prog 9 #[.slice (some ⟨b, off, none⟩) zs.length cap] w fun e w' => ∃ g, e = .returned (.tuple #[.string ⟨#[]⟩, .iface 52 (.pointer (some ⟨g, 0, none⟩))]) ∧ g < w'.heap.size ∧ w'.cell? ⟨g, 0, none⟩ = some (.int .i64 1) ∧ w'.cell? ⟨g, 1, none⟩ = some (.int .i64 n) ∧ Below w.heap.size w w' := by
  have HBAD : Hid (U8.isPt zs[n] = false) := hbad
  have HGOOD : Hid (∀ j (h : j < n), U8.isPt (zs[j]'(by omega)) = true) := hgood
  have HC : Hid (∀ j (h : j < zs.length), w.cell? ⟨b, off + j, none⟩ = some (.int .i64 zs[j])) := hc
  clear hc hbad hgood
  go_enter Tryd.func9, Tryd.ntmps9
  go_wp2
  go_loopw [4, 9] (fun v i wr => ∃ k m xs, k ≤ n ∧ i = .int .i64 (k : Nat) ∧ wr.ownsRow w.heap.size 5 1 v m xs ∧ m ≤ 4 * k ∧ Below w.heap.size w wr)
    (fun _ i _ => zs.length - (intOf i).toNat)
  case atStart => exact ⟨0, 0, [], Nat.zero_le _, rfl, World.ownsRow_nil _ _ _ _, Nat.zero_le _, Below.refl _ _⟩
  case round =>
    obtain ⟨k, m, xs, hk, rfl, hown, hm, hnx⟩ := hrel
    have hkl : k < zs.length := by omega
    obtain ⟨p, hp⟩ : ∃ p, p = zs[k] := ⟨_, rfl⟩
    have hcx : wr.cell? ⟨b, off + k, none⟩ = some (.int .i64 p) := by rw [hp]; exact (hnx.cell (by exact hb)).trans (HC.out k hkl)
    have HP : Hid (p = zs[k]) := hp
    clear hp
    by_cases hlt : k < n
    · have hip : U8.isPt p = true := by rw [HP.out]; exact HGOOD.out k hlt
      obtain ⟨q, rfl⟩ := Int.eq_ofNat_of_zero_le ((U8.isPt_iff p).1 hip).1
      go_wp2_with fail
      refine (isPoint_any _ _).mono ?_
      rintro e w' ⟨rfl, rfl⟩
      rw [hip]
      go_wp2_with fail
      refine (appendPoint_any w.heap.size _ _ _ q hip _ (hL.below hnx hB) hnx.size hown (by omega)).mono ?_
      rintro e w1 ⟨v', rfl, hown', hb1⟩
      have hb2 : Below w.heap.size w w1 := hnx.trans hb1
      have hq := (U8.lenOf_pos q).2
      have R : Hid _ := hown'
      clear hown' hb1 hown
      go_wp2
      go_roundw
      case rel => exact ⟨k + 1, _, _, by omega, by go_num, R.out, by omega, hb2⟩
      case measure => simp [intOf]; omega
    · obtain rfl : k = n := by omega
      have hip : U8.isPt p = false := by rw [HP.out]; exact HBAD.out
      go_wp2_with fail
      refine (isPoint_any _ _).mono ?_
      rintro e w' ⟨rfl, rfl⟩
      rw [hip]
      go_wp2_with fail
      go_ret2
      exact ⟨w'.heap.size, rfl, by simp, by simp, by simp, hnx.alloc hnx.size _⟩

end Go.Proofs.YtneemepjpeohbaaDoor
