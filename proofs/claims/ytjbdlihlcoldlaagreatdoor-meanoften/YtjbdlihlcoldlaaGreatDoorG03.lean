/- mean's sets of places: which, Equal, over. -/
import Derived.Test.YtjbdlihlcoldlaaGreatDoorG02
import Derived.OwnWalk
import Derived.OwnWalkIn
namespace Go.Proofs.YtjbdlihlcoldlaaGreatDoor.M
open Go.RowKit Go.Shelf

/-- A set of places is answered; nothing that was there is turned. -/
def PlSay (w : World) (q : Nat) (e : Ending) (w' : World) : Prop :=
  (∃ v, e = .returned v ∧ Pl w'.heap.size w' v q) ∧ Below w.heap.size w w'

theorem NewPl.say {w : World} {q : Nat} {e : Ending} {w' : World} (h : NewPl w q e w') (hq : q < 18446744073709551616) : PlSay w q e w' := by
  obtain ⟨rfl, h1, h2, h3⟩ := h
  exact ⟨⟨_, rfl, w.heap.size, rfl, by omega, cell_of_row w' w.heap.size 0 _ _ _ h1, hq⟩, h2⟩

theorem up_lt (q : Nat) : MN.up q < 18446744073709551616 := Nat.mod_lt _ (by omega)
theorem down_lt {q : Nat} (hq : q < 18446744073709551616) : MN.down q < 18446744073709551616 := by
  unfold MN.down; rw [Nat.shiftRight_eq_div_pow]; omega

theorem Pl.up {w : World} {v : Value} {q : Nat} (h : Pl w.heap.size w v q) : Calls Tryz.prog 185 #[v] w (PlSay w (MN.up q)) := by
  obtain ⟨b, rfl, hb, hc, hq⟩ := h
  exact (up_any b q w hc hb).mono fun e w' h => h.say (up_lt q)

theorem Pl.down {w : World} {v : Value} {q : Nat} (h : Pl w.heap.size w v q) : Calls Tryz.prog 186 #[v] w (PlSay w (MN.down q)) := by
  obtain ⟨b, rfl, hb, hc, hq⟩ := h
  exact (down_any b q hq w hc hb).mono fun e w' h => h.say (down_lt hq)

theorem Pl.and {w : World} {v u : Value} {p q : Nat} (h : Pl w.heap.size w v p) (k : Pl w.heap.size w u q) : Calls Tryz.prog 133 #[v, u] w (PlSay w (p &&& q)) := by
  obtain ⟨b, rfl, hb, hc, hp⟩ := h
  obtain ⟨c, rfl, hd, he, hq⟩ := k
  exact (and_any b p c q hp hq w hc hb he hd).mono fun e w' h => h.say (and_lt hp)

theorem Pl.or {w : World} {v u : Value} {p q : Nat} (h : Pl w.heap.size w v p) (k : Pl w.heap.size w u q) : Calls Tryz.prog 135 #[v, u] w (PlSay w (p ||| q)) := by
  obtain ⟨b, rfl, hb, hc, hp⟩ := h
  obtain ⟨c, rfl, hd, he, hq⟩ := k
  exact (or_any b p c q hp hq w hc hb he hd).mono fun e w' h => h.say (or_lt hp hq)

theorem Pl.less {w : World} {v u : Value} {p q : Nat} (h : Pl w.heap.size w v p) (k : Pl w.heap.size w u q) : Calls Tryz.prog 212 #[v, u] w (PlSay w (MN.less p q)) := by
  obtain ⟨b, rfl, hb, hc, hp⟩ := h
  obtain ⟨c, rfl, hd, he, hq⟩ := k
  exact (less_any b p c q hp hq w hc hb he hd).mono fun e w' h => h.say (less_lt hp)

theorem Pl.none {w : World} {v : Value} {q : Nat} (h : Pl w.heap.size w v q) : Calls Tryz.prog 131 #[v] w fun e w' => e = .returned (.bool (decide (q = 0))) ∧ w' = w := by
  obtain ⟨b, rfl, hb, hc, hq⟩ := h
  exact none_any b q w hc

set_option maxHeartbeats 1000000 in
set_option maxRecDepth 100000 in
theorem places_equal (b p c q : Nat) (w : World) (hc : w.cell? ⟨b, 0, none⟩ = some (.int .u64 p)) (hd : w.cell? ⟨c, 0, none⟩ = some (.int .u64 q)) :
    Calls Tryz.prog 211 #[.slice (some ⟨b, 0, none⟩) 1 1, .slice (some ⟨c, 0, none⟩) 1 1] w fun e w' => e = .returned (.bool (decide (p = q))) ∧ Below w.heap.size w w' := by
  go_enter Tryz.func211, Tryz.ntmps211
  by_cases hq : p = q
  · subst hq
    go_wp2_with fail
    refine wp_loop_rounds 2 ?_
    rw [rounds_succ]
    go_wp2_with fail
    go_region_law (fail)
    all_goals
      go_wp2_with fail
      rw [rounds_succ]
      go_wp2_with fail
      go_ret
      exact ⟨by simp, below_drewN' (Below.refl _ w) 1⟩
  · have hz : ((p : Int) == (q : Int)) = false := by simp; omega
    go_wp2_with fail
    refine wp_loop_rounds 1 ?_
    rw [rounds_succ]
    go_wp2_with fail
    go_region_law (fail)
    all_goals
      go_wp2_with fail
      go_ret
      exact ⟨by simp [hq], below_drewN' (Below.refl _ w) 1⟩

theorem Pl.equal {w : World} {v u : Value} {p q : Nat} (h : Pl w.heap.size w v p) (k : Pl w.heap.size w u q) : Calls Tryz.prog 211 #[v, u] w fun e w' => e = .returned (.bool (decide (p = q))) ∧ Below w.heap.size w w' := by
  obtain ⟨b, rfl, hb, hc, hp⟩ := h
  obtain ⟨c, rfl, hd, he, hq⟩ := k
  exact places_equal b p c q w hc he

/-- A walk goes over one of some units. -/
def goOver (ends : Bool) (u s : Nat) : Nat := if ends then MN.up (s &&& u) else MN.down s &&& u

set_option maxHeartbeats 1000000 in
set_option maxRecDepth 100000 in
theorem over_any (wb : Nat) (ends : Bool) (uv sv : Value) (u s : Nat) (w : World) (he : w.cell? ⟨wb, 3, none⟩ = some (.bool ends)) (hu : Pl w.heap.size w uv u) (hs : Pl w.heap.size w sv s) :
    Calls Tryz.prog 132 #[.pointer (some ⟨wb, 0, none⟩), uv, sv] w (PlSay w (goOver ends u s)) := by
  have HU : Hid (Pl w.heap.size w uv u) := hu
  cases ends with
  | true =>
    have C := hs.and hu
    obtain ⟨u1, rfl, -⟩ := hu
    obtain ⟨s1, rfl, -⟩ := hs
    go_enter Tryz.func132, Tryz.ntmps132
    go_wp2_with fail
    refine C.mono ?_
    rintro e w1 ⟨⟨v, rfl, hv⟩, hb1⟩
    have D := hv.up
    have HB : Hid (Below w.heap.size w w1) := hb1
    obtain ⟨v1, rfl, -⟩ := hv
    clear C hb1
    go_wp2_with fail
    refine D.mono ?_
    rintro e w2 ⟨⟨x, rfl, hx⟩, hb2⟩
    have HX : Hid (PlSay w (MN.up (s &&& u)) (.returned x) w2) := ⟨⟨_, rfl, hx⟩, HB.out.trans (hb2.mono HB.out.size)⟩
    obtain ⟨x1, rfl, -⟩ := hx
    clear D hb2
    go_wp2_with fail
    go_ret
    exact HX.out
  | false =>
    have C := hs.down
    obtain ⟨u1, rfl, -⟩ := hu
    obtain ⟨s1, rfl, -⟩ := hs
    go_enter Tryz.func132, Tryz.ntmps132
    go_wp2_with fail
    refine C.mono ?_
    rintro e w1 ⟨⟨v, rfl, hv⟩, hb1⟩
    have D := hv.and (HU.out.below hb1 _ hb1.size)
    have HB : Hid (Below w.heap.size w w1) := hb1
    obtain ⟨v1, rfl, -⟩ := hv
    clear C hb1
    go_wp2_with fail
    refine D.mono ?_
    rintro e w2 ⟨⟨x, rfl, hx⟩, hb2⟩
    have HX : Hid (PlSay w (MN.down s &&& u) (.returned x) w2) := ⟨⟨_, rfl, hx⟩, HB.out.trans (hb2.mono HB.out.size)⟩
    obtain ⟨x1, rfl, -⟩ := hx
    clear D hb2
    go_wp2_with fail
    go_ret
    exact HX.out

/-- The numbers below a bound of which a question is answered yes, as a word. -/
def mask (ask : Nat → Bool) : Nat → Nat
  | 0 => 0
  | k + 1 => if ask k then mask ask k ||| 2 ^ k else mask ask k

theorem mask_bit (ask : Nat → Bool) (n i : Nat) : (mask ask n).testBit i = (decide (i < n) && ask i) := by
  induction n with
  | zero => simp [mask]
  | succ n ih =>
    unfold mask
    cases h : ask n with
    | true =>
      rw [if_pos rfl, Nat.testBit_or, ih, Nat.testBit_two_pow]
      by_cases e : n = i
      · subst e; simp [h]
      · have : decide (i < n + 1) = decide (i < n) := by congr 1; simp; omega
        simp [e, this]
    | false =>
      rw [if_neg (by simp), ih]
      by_cases e : n = i
      · subst e; simp [h]
      · have : decide (i < n + 1) = decide (i < n) := by congr 1; simp; omega
        simp [this]

theorem mask_lt (ask : Nat → Bool) (n : Nat) (h : n ≤ 64) : mask ask n < 18446744073709551616 := by
  show mask ask n < 2 ^ 64
  refine Nat.lt_pow_two_of_testBit _ fun i hi => ?_
  rw [mask_bit, decide_eq_false (by omega), Bool.false_and]

theorem bit_set (m k : Nat) (hm : m < 18446744073709551616) (hk : k < 64) : bits .or .u64 (m : Int) (IntKind.u64.wrap (2 ^ k)) = ((m ||| 2 ^ k : Nat) : Int) := by
  have hp : 2 ^ k < 18446744073709551616 := Nat.pow_lt_pow_right (n := 64) (by omega) hk
  have e : (2 : Int) ^ k = ((2 ^ k : Nat) : Int) := by simp
  rw [e, wrap_u64 _ hp, or_u64 _ _ hm hp]

theorem setCell_drew (w : World) (a : Addr) (v : Value) : (w.setCell a v).drew.heap = (w.setCell a v).heap := rfl

/-- A set in a block of its own, made just now. -/
def PlNew (w : World) (q : Nat) (e : Ending) (w' : World) : Prop :=
  (∃ b, e = .returned (.slice (some ⟨b, 0, none⟩) 1 1) ∧ w.heap.size ≤ b ∧ b < w'.heap.size ∧ w'.cell? ⟨b, 0, none⟩ = some (.int .u64 q) ∧ q < 18446744073709551616) ∧ Below w.heap.size w w'

theorem PlNew.say {w : World} {q : Nat} {e : Ending} {w' : World} (h : PlNew w q e w') : PlSay w q e w' := by
  obtain ⟨⟨b, rfl, _, hl, hc, hq⟩, hb⟩ := h
  exact ⟨⟨_, rfl, b, rfl, hl, hc, hq⟩, hb⟩

set_option maxHeartbeats 1000000 in
set_option maxRecDepth 100000 in
theorem which_new (n : Nat) (h1 : 1 ≤ n) (h2 : n ≤ 64) (f : FuncId) (cap : Array Value) (ask : Nat → Bool) (w : World)
    (eg : ∀ args w, (callFunc f args).run Tryz.prog w = .ok (.enter f args) w)
    (D : ∀ i, i < n → ∀ W, Below w.heap.size w W → Calls Tryz.prog f (#[.int .i64 i] ++ cap) W fun e W' => e = .returned (.bool (ask i)) ∧ Below W.heap.size W W') :
    Calls Tryz.prog 77 #[.int .i64 n, .func (.func f) #[] cap] w (PlNew w (mask ask n)) := by
  have C := nowhere_any n h1 h2 w
  go_enter Tryz.func77, Tryz.ntmps77
  go_wp2_with fail
  refine C.mono ?_
  rintro e w1 ⟨rfl, hw⟩
  have hr1 := new_row hw
  have HB1 : Hid (Below w.heap.size w w1) := by rw [hw]; exact (Below.refl _ w).alloc (Nat.le_refl _) _
  obtain ⟨g, hg⟩ : ∃ g, g = w.heap.size := ⟨_, rfl⟩
  rw [← hg] at hr1 ⊢
  have HR1 : Hid (w1.heap[g]? = some (.cells #[.int .u64 0] 159 (0, 0))) := hr1
  have HG : Hid (g = w.heap.size) := hg
  clear C hw hr1 hg
  go_wp2_with fail
  go_loopw [10] (fun v wr => ∃ k : Nat, v = .int .i64 k ∧ k ≤ n ∧ wr.heap[g]? = some (.cells #[.int .u64 (mask ask k : Nat)] 159 (0, 0)) ∧ Below w.heap.size w wr) (fun v _ => n - (intOf v).toNat)
  case atStart => exact ⟨0, rfl, Nat.zero_le _, HR1.out, HB1.out⟩
  case round =>
    obtain ⟨k, rfl, hk, hr, hb⟩ := hrel
    have hgs : g < wr.heap.size := lt_of_block hr
    have HR : Hid (wr.heap[g]? = some (.cells #[.int .u64 (mask ask k : Nat)] 159 (0, 0))) := hr
    have HB : Hid (Below w.heap.size w wr) := hb
    by_cases hlt : k < n
    · have C := D k hlt wr hb
      have hkz : (k : Int) < (n : Int) := by omega
      have HA : Hid (mask ask (k + 1) = if ask k then mask ask k ||| 2 ^ k else mask ask k) := rfl
      have HD : Hid (∀ i, i < n → ∀ W, Below w.heap.size w W → Calls Tryz.prog f (#[.int .i64 i] ++ cap) W fun e W' => e = .returned (.bool (ask i)) ∧ Below W.heap.size W W') := D
      have hml := mask_lt ask k (by omega)
      generalize ask k = q at C HA
      generalize mask ask k = m at HR HA hml
      clear D hr hb
      go_wp2_with fail
      refine C.mono ?_
      rintro e w2 ⟨rfl, hb2⟩
      have hr2 := (hb2.block g hgs).trans HR.out
      have hf2 := frozen_of_row w2 g 0 _ _ hr2
      have hc2 := cell_of_row w2 g 0 _ _ _ hr2
      have HB2 : Hid (Below w.heap.size w w2) := HB.out.trans (hb2.mono HB.out.size)
      have HR2 : Hid _ := hr2
      have hk64 : (k : Int) % 64 = k := by omega
      have hkd : (k : Int) / 64 = 0 := by omega
      have hw0 : IntKind.i64.wrap 0 = 0 := by decide
      have hkt : Int.tmod (k : Int) 64 = k := by rw [Int.tmod_eq_emod_of_nonneg (by omega)]; omega
      clear C hb2 hr2
      cases q with
      | false =>
        go_wp2_with fail
        case roundEnd => exact ⟨⟨k + 1, by go_num, by omega, by rw [HA.out]; exact HR2.out, HB2.out⟩, by simp [intOf]; omega⟩
      | true =>
        go_wp2_with fail
        go_region_law (fail)
        all_goals
          go_wp2_with fail
          refine ⟨⟨k + 1, by go_num, by omega, ?_, below_drewN' (HB2.out.setCell (by rw [HG.out]; exact Nat.le_refl _) _) 1⟩, by simp [intOf]; omega⟩
          rw [setCell_drew, bit_set m k hml (by omega), HA.out, if_pos trivial]
          exact heap_setCell_same _ g 0 _ 159 _ HR2.out
    · obtain rfl : k = n := by omega
      clear D hr hb
      go_wp2_with fail
      go_ret
      exact ⟨⟨g, rfl, by have := HG.out; omega, hgs, cell_of_row _ g 0 _ _ _ HR.out, mask_lt ask k h2⟩, HB.out⟩

theorem which_any (n : Nat) (h1 : 1 ≤ n) (h2 : n ≤ 64) (f : FuncId) (cap : Array Value) (ask : Nat → Bool) (w : World)
    (eg : ∀ args w, (callFunc f args).run Tryz.prog w = .ok (.enter f args) w)
    (D : ∀ i, i < n → ∀ W, Below w.heap.size w W → Calls Tryz.prog f (#[.int .i64 i] ++ cap) W fun e W' => e = .returned (.bool (ask i)) ∧ Below W.heap.size W W') :
    Calls Tryz.prog 77 #[.int .i64 n, .func (.func f) #[] cap] w (PlSay w (mask ask n)) :=
  (which_new n h1 h2 f cap ask w eg D).mono fun _ _ h => h.say

end Go.Proofs.YtjbdlihlcoldlaaGreatDoor.M

namespace Go.Proofs.YtjbdlihlcoldlaaGreatDoor.M
open Go.RowKit Go.Shelf

theorem enter78 (args : Array Value) (w : World) : (callFunc 78 args).run Tryz.prog w = .ok (.enter 78 args) w := by kernel_rfl
theorem enter79 (args : Array Value) (w : World) : (callFunc 79 args).run Tryz.prog w = .ok (.enter 79 args) w := by kernel_rfl
theorem enter80 (args : Array Value) (w : World) : (callFunc 80 args).run Tryz.prog w = .ok (.enter 80 args) w := by kernel_rfl

set_option maxHeartbeats 1000000 in
theorem ask_all (i n B cap : Nat) (ao : Option Addr) (w : World) (hc : w.cell? ⟨B, 0, none⟩ = some (.slice ao n cap)) :
    Calls Tryz.prog 78 (#[.int .i64 i] ++ #[.pointer (some ⟨B, 0, none⟩)]) w fun e w' => e = .returned (.bool (decide (i < n))) ∧ Below w.heap.size w w' := by
  show Calls Tryz.prog 78 #[.int .i64 i, .pointer (some ⟨B, 0, none⟩)] w _
  go_enter Tryz.func78, Tryz.ntmps78
  go_wp2_with fail
  go_ret
  exact ⟨by simp, Below.refl _ _⟩

set_option maxHeartbeats 1000000 in
theorem ask_edge (i k B : Nat) (w : World) (hc : w.cell? ⟨B, 0, none⟩ = some (.int .i64 k)) :
    Calls Tryz.prog 79 (#[.int .i64 i] ++ #[.pointer (some ⟨B, 0, none⟩)]) w fun e w' => e = .returned (.bool (decide (i = k))) ∧ Below w.heap.size w w' := by
  show Calls Tryz.prog 79 #[.int .i64 i, .pointer (some ⟨B, 0, none⟩)] w _
  go_enter Tryz.func79, Tryz.ntmps79
  go_wp2_with fail
  go_ret
  refine ⟨?_, Below.refl _ _⟩
  have : ((i : Int) == (k : Int)) = decide (i = k) := by
    by_cases h : i = k
    · subst h; simp
    · have h2 : ¬ (i : Int) = (k : Int) := by omega
      simp [h, h2]
  simp [this]

set_option maxHeartbeats 1000000 in
theorem ask_yes (i : Nat) (w : World) : Calls Tryz.prog 80 (#[.int .i64 i] ++ #[]) w fun e w' => e = .returned (.bool true) ∧ Below w.heap.size w w' := by
  show Calls Tryz.prog 80 #[.int .i64 i] w _
  go_enter Tryz.func80, Tryz.ntmps80
  go_wp2_with fail
  go_ret
  exact ⟨rfl, Below.refl _ _⟩

/-- All units, by their numbers. -/
theorem which_all (n m B cap : Nat) (ao : Option Addr) (h1 : 1 ≤ n) (h2 : n ≤ 64) (w : World) (hB : B < w.heap.size) (hc : w.cell? ⟨B, 0, none⟩ = some (.slice ao m cap)) :
    Calls Tryz.prog 77 #[.int .i64 n, .func (.func 78) #[] #[.pointer (some ⟨B, 0, none⟩)]] w (PlSay w (mask (fun i => decide (i < m)) n)) :=
  which_any n h1 h2 78 _ _ w enter78 fun i _ W hW => ask_all i m B cap ao W ((hW.cell (by exact hB)).trans hc)

/-- Where Edge stands. -/
theorem which_edge (n k B : Nat) (h1 : 1 ≤ n) (h2 : n ≤ 64) (w : World) (hB : B < w.heap.size) (hc : w.cell? ⟨B, 0, none⟩ = some (.int .i64 k)) :
    Calls Tryz.prog 77 #[.int .i64 n, .func (.func 79) #[] #[.pointer (some ⟨B, 0, none⟩)]] w (PlSay w (mask (fun i => decide (i = k)) n)) :=
  which_any n h1 h2 79 _ _ w enter79 fun i _ W hW => ask_edge i k B W ((hW.cell (by exact hB)).trans hc)

/-- Everywhere. -/
theorem which_yes (n : Nat) (h1 : 1 ≤ n) (h2 : n ≤ 64) (w : World) :
    Calls Tryz.prog 77 #[.int .i64 n, .func (.func 80) #[] #[]] w (PlSay w (mask (fun _ => true) n)) :=
  which_any n h1 h2 80 _ _ w enter80 fun i _ W _ => ask_yes i W

end Go.Proofs.YtjbdlihlcoldlaaGreatDoor.M

namespace Go.Proofs.YtjbdlihlcoldlaaGreatDoor
open Go.RowKit

theorem flat2_set (pre : List RS.Rg) (cl ch x : Int) : (flat2 (pre ++ [(cl, ch)])).set (pre.length * 2 + 1) (.int .i64 x) = flat2 (pre ++ [(cl, x)]) := by
  rw [flat2_snoc, flat2_snoc, List.set_append_right _ _ (by rw [flat2_length]; omega), flat2_length, show pre.length * 2 + 1 - pre.length * 2 = 1 by omega]
  rfl

theorem merge_own {W : World} {B g cap m : Nat} {pre : List RS.Rg} {cl ch x : Int} (hm : m = pre.length) (h : W.ownsRow B 46 2 (.slice (some ⟨g, 0, none⟩) (m + 1) cap) (m + 1) (flat2 (pre ++ [(cl, ch)]))) :
    (W.setCell ⟨g, m * 2 + 1, none⟩ (.int .i64 x)).drew.ownsRow B 46 2 (.slice (some ⟨g, 0, none⟩) (m + 1) cap) (pre ++ [(cl, x)]).length (flat2 (pre ++ [(cl, x)])) := by
  have h1 := (h.stored (m * 2 + 1) (.int .i64 x)).1
  rw [hm] at h1 ⊢
  rw [flat2_set] at h1
  have e : (pre ++ [(cl, x)]).length = pre.length + 1 := by simp
  rw [e]
  exact h1

theorem below_drewN {B : Nat} {w W : World} (h : Below B w W) (n : Nat) : Below B w (W.drewN n) := ⟨h.os, h.tape, h.output, h.size, h.block⟩

theorem last_cells {w : World} {B : Nat} {v : Value} {pre : List RS.Rg} {c : RS.Rg} (h : w.ownsRow B 46 2 v (pre ++ [c]).length (flat2 (pre ++ [c]))) :
    ∃ (g cap : Nat) (_cur : Array Value), v = .slice (some ⟨g, 0, none⟩) (pre ++ [c]).length cap ∧ B ≤ g ∧ g < w.heap.size ∧ w.cell? ⟨g, pre.length * 2, none⟩ = some (.int .i64 c.1) ∧ w.cell? ⟨g, pre.length * 2 + 1, none⟩ = some (.int .i64 c.2) := by
  have hk := h
  obtain ⟨h1, h2 | ⟨g, cap, cur, rfl, hg, hh, hn, hc, hs, ht⟩⟩ := h
  · simp at h2
  · obtain ⟨k1, k2⟩ := flat2_get (pre ++ [c]) pre.length (by simp)
    have cc := hk.cells (g := g) rfl
    have c1 := cc _ _ k1
    have c2 := cc _ _ k2
    simp only [Addr.add_lit, Nat.zero_add] at c1 c2
    simp at c1 c2
    exact ⟨g, cap, cur, rfl, hg, lt_of_block hh, c1, c2⟩

theorem wrap_small {x : Int} (h0 : -1000000000 ≤ x) (h1 : x ≤ 1000000000) : IntKind.i64.wrap x = x := by
  simp [IntKind.wrap, IntKind.bits, IntKind.signed]; omega

theorem cell_alloc_old (w : World) (o : Obj) (b k : Nat) (h : b < w.heap.size) : (w.alloc o).cell? ⟨b, k, none⟩ = w.cell? ⟨b, k, none⟩ :=
  World.cell?_of_block (w := w) (w' := w.alloc o) (a := ⟨b, k, none⟩) (heap_alloc_old w o h)

end Go.Proofs.YtjbdlihlcoldlaaGreatDoor
