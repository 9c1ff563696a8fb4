/- The contracts of slices.Equal at ranges that are alike, of the law's own closures, of slices.ContainsFunc, of pick. -/
import Derived.Test.YtdhnbmocdgmndaaDoorSOr
namespace Go.Proofs.YtdhnbmocdgmndaaDoor
open Go.RowKit Go.Shelf

set_option maxHeartbeats 1000000 in
set_option maxRecDepth 100000 in
theorem equalR_some (a oa b ob ca cb : Nat) (s : List RS.Rg) (hlen : s.length ≤ 1000000) (w : World) (ha : a < w.heap.size) (hb : b < w.heap.size)
    (hx : ∀ k (h : k < s.length), w.cell? ⟨a, oa + k * 2, none⟩ = some (.int .i64 s[k].1) ∧ w.cell? ⟨a, oa + k * 2 + 1, none⟩ = some (.int .i64 s[k].2))
    (hy : ∀ k (h : k < s.length), w.cell? ⟨b, ob + k * 2, none⟩ = some (.int .i64 s[k].1) ∧ w.cell? ⟨b, ob + k * 2 + 1, none⟩ = some (.int .i64 s[k].2)) :
    Calls Tryd.prog 24 #[.slice (some ⟨a, oa, none⟩) s.length ca, .slice (some ⟨b, ob, none⟩) s.length cb] w fun e w' => e = .returned (.bool true) ∧ Below w.heap.size w w' := by
  have HX : Hid (∀ k (h : k < s.length), w.cell? ⟨a, oa + k * 2, none⟩ = some (.int .i64 s[k].1) ∧ w.cell? ⟨a, oa + k * 2 + 1, none⟩ = some (.int .i64 s[k].2)) := hx
  have HY : Hid (∀ k (h : k < s.length), w.cell? ⟨b, ob + k * 2, none⟩ = some (.int .i64 s[k].1) ∧ w.cell? ⟨b, ob + k * 2 + 1, none⟩ = some (.int .i64 s[k].2)) := hy
  clear hx hy
  go_enter Tryd.func24, Tryd.ntmps24
  go_wp2
  go_loopw [13] (fun i wr => ∃ k : Nat, k ≤ s.length ∧ i = .int .i64 k ∧ Below w.heap.size w wr) (fun i _ => s.length - (intOf i).toNat)
  case atStart => exact ⟨0, Nat.zero_le _, rfl, Below.refl _ _⟩
  case round =>
    obtain ⟨k, hk, rfl, hnx⟩ := hrel
    by_cases hlt : k < s.length
    · obtain ⟨x0, x1⟩ := HX.out k hlt
      obtain ⟨y0, y1⟩ := HY.out k hlt
      replace x0 := (hnx.cell (p := ⟨a, oa + k * 2, none⟩) (by exact ha)).trans x0
      replace x1 := (hnx.cell (p := ⟨a, oa + k * 2 + 1, none⟩) (by exact ha)).trans x1
      replace y0 := (hnx.cell (p := ⟨b, ob + k * 2, none⟩) (by exact hb)).trans y0
      replace y1 := (hnx.cell (p := ⟨b, ob + k * 2 + 1, none⟩) (by exact hb)).trans y1
      generalize s[k].1 = p0 at x0 y0
      generalize s[k].2 = p1 at x1 y1
      go_wp2
      go_region
      all_goals go_wp2
      all_goals go_roundw
      case rel => exact ⟨k + 1, by omega, by go_num, hnx.drew⟩
      case measure => simp [intOf]; omega
    · go_wp2
      go_ret
      exact ⟨rfl, hnx⟩

set_option maxHeartbeats 1000000 in
set_option maxRecDepth 100000 in
theorem equalR_nil (a b : Option Addr) (ca cb : Nat) (w : World) :
    Calls Tryd.prog 24 #[.slice a 0 ca, .slice b 0 cb] w fun e w' => e = .returned (.bool true) ∧ w' = w := by
  go_enter Tryd.func24, Tryd.ntmps24
  go_wp2_with fail
  refine wp_loop_rounds 1 ?_
  rw [rounds_succ]
  go_wp2_with fail
  go_ret
  exact ⟨rfl, rfl⟩

theorem equalR_any (va vb : Value) (s : List RS.Rg) (hs : s.length ≤ 1000000) (w : World) (ha : RgAt w.heap.size w va s) (hb : RgAt w.heap.size w vb s) :
    Calls Tryd.prog 24 #[va, vb] w fun e w' => e = .returned (.bool true) ∧ Below w.heap.size w w' := by
  obtain ⟨ao, ca, rfl, _, ha⟩ := ha
  obtain ⟨bo, cb, rfl, _, hb⟩ := hb
  by_cases hz : s = []
  · subst hz
    refine (equalR_nil ao bo ca cb w).mono ?_
    rintro e w' ⟨rfl, rfl⟩
    exact ⟨rfl, Below.refl _ _⟩
  · obtain ⟨a, oa, rfl, h1, h2⟩ := ha hz
    obtain ⟨b, ob, rfl, h3, h4⟩ := hb hz
    exact equalR_some a oa b ob ca cb s hs w h1 h3 h2 h4

set_option maxHeartbeats 1000000 in
set_option maxRecDepth 100000 in
/-- The law's 'same', at two slices that hold one right set. -/
theorem same_any (va vb : Value) (s : List RS.Rg) (hs : s.length ≤ 1000000) (hr : RS.right s = true) (w : World) (ha : RgAt w.heap.size w va s) (hb : RgAt w.heap.size w vb s) :
    Calls Tryd.prog 22 #[va, vb] w fun e w' => e = .returned (.bool true) ∧ Below w.heap.size w w' := by
  have HA : Hid (RgAt w.heap.size w va s) := ha
  have HB : Hid (RgAt w.heap.size w vb s) := hb
  clear ha hb
  go_enter Tryd.func22, Tryd.ntmps22
  go_wp2_with fail
  refine (right_any va s hs w HA.out).mono ?_
  rintro e w1 ⟨rfl, hb1⟩
  rw [hr]
  have HA1 : Hid (RgAt w1.heap.size w1 va s) := HA.out.below hb1 _ hb1.size
  have HB1 : Hid (RgAt w1.heap.size w1 vb s) := HB.out.below hb1 _ hb1.size
  go_wp2_with fail
  refine (equalR_any va vb s hs w1 HA1.out HB1.out).mono ?_
  rintro e w2 ⟨rfl, hb2⟩
  have hb3 := hb1.trans (hb2.mono hb1.size)
  clear hb2
  go_wp2_with fail
  go_ret
  exact ⟨rfl, hb3⟩

/-- A point in a range, as the law's closure tells it. -/
def inR (p : Int) (r : RS.Rg) : Bool := decide (r.1 ≤ p) && decide (p ≤ r.2)

set_option maxHeartbeats 1000000 in
set_option maxRecDepth 100000 in
theorem closure32 (bp : Nat) (p : Int) (r : RS.Rg) (W : World) (hbl : bp < W.heap.size) (hp : W.cell? ⟨bp, 0, none⟩ = some (.int .i64 p)) :
    Calls Tryd.prog 32 #[.agg #[.int .i64 r.1, .int .i64 r.2], .pointer (some ⟨bp, 0, none⟩)] W fun e w' => e = .returned (.bool (inR p r)) ∧ Below W.heap.size W w' := by
  obtain ⟨lo, hi⟩ := r
  have hp' : ∀ o, (W.alloc o).cell? ⟨bp, 0, none⟩ = some (.int .i64 p) := fun o => (cell_alloc_old W o bp 0 hbl).trans hp
  have hb := fun o => (Below.refl _ W).alloc (Nat.le_refl W.heap.size) o
  dsimp only
  go_enter Tryd.func32, Tryd.ntmps32
  go_wp2
  all_goals go_ret
  all_goals refine ⟨ret_bool ?_, hb _⟩
  all_goals unfold inR
  all_goals simp
  all_goals omega

theorem contains_some (b off cap : Nat) (s : List RS.Rg) (bp : Nat) (p : Int) (hs : s.length ≤ 1000000) (w : World) (hb : b < w.heap.size) (hbl : bp < w.heap.size) (hp : w.cell? ⟨bp, 0, none⟩ = some (.int .i64 p))
    (hc : ∀ k (h : k < s.length), w.cell? ⟨b, off + k * 2, none⟩ = some (.int .i64 s[k].1) ∧ w.cell? ⟨b, off + k * 2 + 1, none⟩ = some (.int .i64 s[k].2)) :
    Calls Tryd.prog 31 #[.slice (some ⟨b, off, none⟩) s.length cap, .func (.func 32) #[] #[.pointer (some ⟨bp, 0, none⟩)]] w fun e w' => e = .returned (.bool (RS.has s p)) ∧ Below w.heap.size w w' := by
  have eg : ∀ args w, (callFunc 32 args).run Tryd.prog w = .ok (.enter 32 args) w := enters_of Tryd.func32 (by kernel_rfl) rfl
  have hcon := AnyQ.slices_ContainsFunc Tryd.containsL 2 Tryd.isAgg53 Tryd.sizeOf53 cells2 (fun _ => rfl) (inR p) 32 #[.pointer (some ⟨bp, 0, none⟩)] eg b off s.length cap s w
    (fun W x hbW => (closure32 bp p x W (Nat.lt_of_lt_of_le hbl hbW.size) ((hbW.cell (by exact hbl)).trans hp)).mono fun _ _ ⟨he, hw⟩ => ⟨he, hbW.trans (hw.mono hbW.size)⟩)
    (Nat.le_refl _) (by omega) hb
    (fun j hj i v hv => by
      obtain ⟨c0, c1⟩ := hc j hj
      have e : s[j]! = s[j] := by simp [hj]
      rw [e] at hv
      match i, hv with
      | 0, hv => simp [cells2] at hv; subst hv; exact c0
      | 1, hv => simp [cells2] at hv; subst hv; exact c1
      | i + 2, hv => simp [cells2] at hv)
  rw [List.take_length] at hcon
  exact hcon

set_option maxHeartbeats 1000000 in
set_option maxRecDepth 100000 in
theorem index_none (ao : Option Addr) (cap : Nat) (fv : Value) (w : World) :
    Calls Tryd.prog 50 #[.slice ao 0 cap, fv] w fun e w' => e = .returned (.int .i64 (-1)) ∧ w' = w := by
  go_enter Tryd.func50, Tryd.ntmps50
  go_wp2_with fail
  refine wp_loop_rounds 1 ?_
  rw [rounds_succ]
  go_wp2_with fail
  go_ret
  exact ⟨rfl, rfl⟩

set_option maxHeartbeats 1000000 in
set_option maxRecDepth 100000 in
theorem contains_none (ao : Option Addr) (cap : Nat) (fv : Value) (w : World) :
    Calls Tryd.prog 31 #[.slice ao 0 cap, fv] w fun e w' => e = .returned (.bool false) ∧ w' = w := by
  go_enter Tryd.func31, Tryd.ntmps31
  go_wp2_with fail
  refine (index_none ao cap fv _).mono ?_
  rintro e w' ⟨rfl, rfl⟩
  go_wp2_with fail
  go_ret
  exact ⟨rfl, rfl⟩

theorem contains_any (v : Value) (s : List RS.Rg) (bp : Nat) (p : Int) (hs : s.length ≤ 1000000) (w : World) (hbl : bp < w.heap.size) (hp : w.cell? ⟨bp, 0, none⟩ = some (.int .i64 p)) (hv : RgAt w.heap.size w v s) :
    Calls Tryd.prog 31 #[v, .func (.func 32) #[] #[.pointer (some ⟨bp, 0, none⟩)]] w fun e w' => e = .returned (.bool (RS.has s p)) ∧ Below w.heap.size w w' := by
  obtain ⟨ao, cap, rfl, _, h⟩ := hv
  by_cases hz : s = []
  · subst hz
    refine (contains_none ao cap _ w).mono ?_
    rintro e w' ⟨rfl, rfl⟩
    exact ⟨rfl, Below.refl _ _⟩
  · obtain ⟨b, off, rfl, hb, hc⟩ := h hz
    exact contains_some b off cap s bp p hs w hb hbl hp hc

/-- What pick makes of a number: some code point. -/
theorem pick_any (p : Int) (w : World) :
    Calls Tryd.prog 29 #[.int .i64 p, .int .i64 1114112] w fun e w' => ∃ q : Int, e = .returned (.int .i64 q) ∧ 0 ≤ q ∧ q ≤ 1114111 ∧ w' = w := by
  have h1 : IntKind.u64.wrap 1114112 = 1114112 := by decide
  have h2 : IntKind.u64.wrap p = p % 18446744073709551616 := by simp [IntKind.wrap, IntKind.bits, IntKind.signed]
  obtain ⟨u, hu⟩ : ∃ u, u = p % 18446744073709551616 := ⟨_, rfl⟩
  have hu0 : 0 ≤ u := by omega
  rw [← hu] at h2
  clear hu
  go_enter Tryd.func29, Tryd.ntmps29
  go_wp2
  go_ret
  exact ⟨u % 1114112, rfl, by omega, by omega, rfl⟩

end Go.Proofs.YtdhnbmocdgmndaaDoor
