/- The law's sameSet, at two slices that hold one set; the law's bare. -/
import Derived.Test.YtefcjoomongcmaaGreatDoorSOr
import Derived.Test.YtefcjoomongcmaaGreatDoorIsE
namespace Go.Proofs.YtefcjoomongcmaaGreatDoor
open Go.RowKit Go.Shelf

set_option maxHeartbeats 1000000 in
set_option maxRecDepth 100000 in
theorem sameR_some (a oa b ob ca cb : Nat) (s : List RS.Rg) (hlen : s.length ≤ 1000000) (w : World) (ha : a < w.heap.size) (hb : b < w.heap.size)
    (hx : ∀ k (h : k < s.length), w.cell? ⟨a, oa + k * 2, none⟩ = some (.int .i64 s[k].1) ∧ w.cell? ⟨a, oa + k * 2 + 1, none⟩ = some (.int .i64 s[k].2))
    (hy : ∀ k (h : k < s.length), w.cell? ⟨b, ob + k * 2, none⟩ = some (.int .i64 s[k].1) ∧ w.cell? ⟨b, ob + k * 2 + 1, none⟩ = some (.int .i64 s[k].2)) :
    Calls Tryz.prog 7 #[.slice (some ⟨a, oa, none⟩) s.length ca, .slice (some ⟨b, ob, none⟩) s.length cb] w fun e w' => e = .returned (.bool true) ∧ Below w.heap.size w w' := by
  have HX : Hid (∀ k (h : k < s.length), w.cell? ⟨a, oa + k * 2, none⟩ = some (.int .i64 s[k].1) ∧ w.cell? ⟨a, oa + k * 2 + 1, none⟩ = some (.int .i64 s[k].2)) := hx
  have HY : Hid (∀ k (h : k < s.length), w.cell? ⟨b, ob + k * 2, none⟩ = some (.int .i64 s[k].1) ∧ w.cell? ⟨b, ob + k * 2 + 1, none⟩ = some (.int .i64 s[k].2)) := hy
  clear hx hy
  go_enter Tryz.func7, Tryz.ntmps7
  go_wp2
  go_loopw [5] (fun i wr => ∃ k : Nat, k ≤ s.length ∧ i = .int .i64 k ∧ Below w.heap.size w wr) (fun i _ => s.length - (intOf i).toNat)
  case atStart => exact ⟨0, Nat.zero_le _, rfl, Below.refl _ _⟩
  case round =>
    obtain ⟨k, hk, rfl, hnx⟩ := hrel
    by_cases hlt : k < s.length
    · obtain ⟨x0, x1⟩ := HX.out k hlt
      obtain ⟨y0, y1⟩ := HY.out k hlt
      replace x0 := (hnx.cell (p := ⟨a, oa + k * 2, none⟩) (by exact ha)).trans x0
      replace x1 := (hnx.cell (p := ⟨a, oa + k * 2 + 1, none⟩) (by exact ha)).trans x1
      replace y0 := (hnx.cell (p := ⟨b, ob + k * 2, none⟩) (by exact hb)).trans y0
      replace y1 := (hnx.cell (p := ⟨b, ob + k * 2 + 1, none⟩) (by exact hb)).trans y1
      generalize s[k].1 = p0 at x0 y0
      generalize s[k].2 = p1 at x1 y1
      go_wp2
      go_region
      all_goals go_wp2
      all_goals go_roundw
      case rel => exact ⟨k + 1, by omega, by go_num, hnx.drew⟩
      case measure => simp [intOf]; omega
    · go_wp2
      go_ret
      exact ⟨rfl, hnx⟩

set_option maxHeartbeats 1000000 in
set_option maxRecDepth 100000 in
theorem sameR_nil (a b : Option Addr) (ca cb : Nat) (w : World) :
    Calls Tryz.prog 7 #[.slice a 0 ca, .slice b 0 cb] w fun e w' => e = .returned (.bool true) ∧ w' = w := by
  go_enter Tryz.func7, Tryz.ntmps7
  go_wp2_with fail
  refine wp_loop_rounds 1 ?_
  rw [rounds_succ]
  go_wp2_with fail
  go_ret
  exact ⟨rfl, rfl⟩

theorem sameR_any (va vb : Value) (s : List RS.Rg) (hs : s.length ≤ 1000000) (w : World) (ha : RgAt w.heap.size w va s) (hb : RgAt w.heap.size w vb s) :
    Calls Tryz.prog 7 #[va, vb] w fun e w' => e = .returned (.bool true) ∧ Below w.heap.size w w' := by
  obtain ⟨ao, ca, rfl, _, ha⟩ := ha
  obtain ⟨bo, cb, rfl, _, hb⟩ := hb
  by_cases hz : s = []
  · subst hz
    refine (sameR_nil ao bo ca cb w).mono ?_
    rintro e w' ⟨rfl, rfl⟩
    exact ⟨rfl, Below.refl _ _⟩
  · obtain ⟨a, oa, rfl, h1, h2⟩ := ha hz
    obtain ⟨b, ob, rfl, h3, h4⟩ := hb hz
    exact sameR_some a oa b ob ca cb s hs w h1 h3 h2 h4

end Go.Proofs.YtefcjoomongcmaaGreatDoor
