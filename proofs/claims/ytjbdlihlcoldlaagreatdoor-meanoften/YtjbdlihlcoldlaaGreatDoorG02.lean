/- mean's sets of places: one word each, in a block of its own. -/
import Derived.Test.YtjbdlihlcoldlaaGreatDoorG01
import Derived.Test.YtjbdlihlcoldlaaGreatDoorG00
import Derived.Below
import Derived.Deep.OwnRows
import Derived.Shelf.Abstract
import Derived.Lib.Hide
import Derived.Deep.RegionHeld3
import Derived.Deep.RegionLaw
import Derived.OneCell
namespace Go.Proofs.YtjbdlihlcoldlaaGreatDoor.M
open Go.RowKit Go.Shelf

/-- A set of places at hand: one word. -/
def Pl (B : Nat) (w : World) (v : Value) (q : Nat) : Prop :=
  ∃ b, v = .slice (some ⟨b, 0, none⟩) 1 1 ∧ b < B ∧ w.cell? ⟨b, 0, none⟩ = some (.int .u64 q) ∧ q < 18446744073709551616

theorem Pl.below {w w' : World} {B : Nat} {v : Value} {q : Nat} (h : Pl B w v q) (hb : Below B w w') (B' : Nat) (hB : B ≤ B') : Pl B' w' v q := by
  obtain ⟨b, rfl, hbl, hc, hq⟩ := h
  exact ⟨b, rfl, by omega, (hb.cell (by exact hbl)).trans hc, hq⟩

theorem info159 : (Tryz.prog.info? 159).map (fun i => (i.zero, i.size, i.bytes)) = some (some (.int .u64 0), 1, 8) := by kernel_rfl

theorem toNat_u64 (a : Nat) (h : a < 18446744073709551616) : (BitVec.ofInt 64 (a : Int)).toNat = a := by
  rw [BitVec.toNat_ofInt]
  omega

theorem wrap_u64 (a : Nat) (h : a < 18446744073709551616) : IntKind.u64.wrap (a : Int) = (a : Int) := by
  simp [IntKind.wrap, IntKind.bits, IntKind.signed]
  omega

theorem or_lt {a b : Nat} (ha : a < 18446744073709551616) (hb : b < 18446744073709551616) : a ||| b < 18446744073709551616 := Nat.or_lt_two_pow (n := 64) ha hb
theorem and_lt {a b : Nat} (ha : a < 18446744073709551616) : a &&& b < 18446744073709551616 := Nat.lt_of_le_of_lt Nat.and_le_left ha
theorem less_lt {a b : Nat} (ha : a < 18446744073709551616) : MN.less a b < 18446744073709551616 := Nat.xor_lt_two_pow (n := 64) ha (and_lt ha)

theorem and_u64 (a b : Nat) (ha : a < 18446744073709551616) (hb : b < 18446744073709551616) : bits .and .u64 (a : Int) (b : Int) = ((a &&& b : Nat) : Int) := by
  show IntKind.u64.wrap ((BitVec.ofInt 64 (a : Int) &&& BitVec.ofInt 64 (b : Int)).toNat : Int) = _
  rw [BitVec.toNat_and, toNat_u64 a ha, toNat_u64 b hb, wrap_u64 _ (and_lt ha)]

theorem or_u64 (a b : Nat) (ha : a < 18446744073709551616) (hb : b < 18446744073709551616) : bits .or .u64 (a : Int) (b : Int) = ((a ||| b : Nat) : Int) := by
  show IntKind.u64.wrap ((BitVec.ofInt 64 (a : Int) ||| BitVec.ofInt 64 (b : Int)).toNat : Int) = _
  rw [BitVec.toNat_or, toNat_u64 a ha, toNat_u64 b hb, wrap_u64 _ (or_lt ha hb)]

theorem andNot_u64 (a b : Nat) (ha : a < 18446744073709551616) (hb : b < 18446744073709551616) : bits .andNot .u64 (a : Int) (b : Int) = ((MN.less a b : Nat) : Int) := by
  show IntKind.u64.wrap ((BitVec.ofInt 64 (a : Int) &&& ~~~ BitVec.ofInt 64 (b : Int)).toNat : Int) = _
  have e : (BitVec.ofInt 64 (a : Int) &&& ~~~ BitVec.ofInt 64 (b : Int)).toNat = MN.less a b := by
    apply Nat.eq_of_testBit_eq
    intro i
    rw [MN.less_bit, ← BitVec.getLsbD, BitVec.getLsbD_and, BitVec.getLsbD_not]
    unfold BitVec.getLsbD
    rw [toNat_u64 a ha, toNat_u64 b hb]
    by_cases hi : i < 64
    · simp [hi]
    · have : a.testBit i = false := Nat.testBit_lt_two_pow (Nat.lt_of_lt_of_le ha (Nat.pow_le_pow_right (n := 2) (by omega) (show 64 ≤ i by omega)))
      simp [this]
  rw [e, wrap_u64 _ (less_lt ha)]

theorem bit_u64 (q i : Nat) (hq : q < 18446744073709551616) : (bits .and .u64 ((q : Int) / 2 ^ i) 1 == 1) = q.testBit i := by
  have e : (q : Int) / 2 ^ i = ((q / 2 ^ i : Nat) : Int) := by simp
  have e1 : (1 : Int) = ((1 : Nat) : Int) := rfl
  rw [e]
  conv => lhs; rw [e1]
  rw [and_u64 _ _ (Nat.lt_of_le_of_lt (Nat.div_le_self _ _) hq) (by omega), Nat.testBit, Nat.shiftRight_eq_div_pow, Nat.and_comm 1, Nat.and_one_is_mod]
  have : q / 2 ^ i % 2 = 0 ∨ q / 2 ^ i % 2 = 1 := by omega
  rcases this with h | h <;> rw [h] <;> rfl

set_option maxHeartbeats 1000000 in
set_option maxRecDepth 100000 in
theorem nowhere_any (n : Nat) (h1 : 1 ≤ n) (h2 : n ≤ 64) (w : World) :
    Calls Tryz.prog 130 #[.int .i64 n] w fun e w' => e = .returned (.slice (some ⟨w.heap.size, 0, none⟩) 1 1) ∧ w' = w.alloc (.cells #[.int .u64 0] 159) := by
  have hmk := run_make_row' (P := Tryz.prog) 110 159 (.int .u64 0) 8 Tryz.underlying110 info159 rfl .i64 .i64 1 (by omega) (by omega) w
  rw [show madeCells #[Value.int .u64 0] 1 = #[Value.int .u64 0] by kernel_rfl, show ((1 : Nat) : Int) = 1 from rfl] at hmk
  have hd : ((n : Int) + 63) / 64 = 1 := by omega
  go_enter Tryz.func130, Tryz.ntmps130
  go_wp2_with fail
  go_ret
  exact ⟨rfl, rfl⟩

set_option maxHeartbeats 1000000 in
set_option maxRecDepth 100000 in
theorem none_any (b q : Nat) (w : World) (hc : w.cell? ⟨b, 0, none⟩ = some (.int .u64 q)) :
    Calls Tryz.prog 131 #[.slice (some ⟨b, 0, none⟩) 1 1] w fun e w' => e = .returned (.bool (decide (q = 0))) ∧ w' = w := by
  go_enter Tryz.func131, Tryz.ntmps131
  by_cases hq : q = 0
  · subst hq
    go_wp2_with fail
    refine wp_loop_rounds 2 ?_
    rw [rounds_succ]
    go_wp2_with fail
    rw [rounds_succ]
    go_wp2_with fail
    go_ret
    exact ⟨rfl, rfl⟩
  · have hz : ((q : Int) == 0) = false := by simp; omega
    go_wp2_with fail
    refine wp_loop_rounds 1 ?_
    rw [rounds_succ]
    go_wp2_with fail
    go_ret
    simp [hq]

set_option maxHeartbeats 1000000 in
set_option maxRecDepth 100000 in
theorem place_has_any (b q i : Nat) (hi : i < 64) (hq : q < 18446744073709551616) (w : World) (hc : w.cell? ⟨b, 0, none⟩ = some (.int .u64 q)) :
    Calls Tryz.prog 50 #[.slice (some ⟨b, 0, none⟩) 1 1, .int .i64 i] w fun e w' => e = .returned (.bool (q.testBit i)) ∧ w' = w := by
  have hd : (i : Int) / 64 = 0 := by omega
  have hm : (i : Int) % 64 = i := by omega
  have hdd : Int.tdiv (i : Int) 64 = 0 := by rw [Int.tdiv_eq_ediv_of_nonneg (by omega)]; omega
  have hmm : Int.tmod (i : Int) 64 = i := by rw [Int.tmod_eq_emod_of_nonneg (by omega)]; omega
  go_enter Tryz.func50, Tryz.ntmps50
  go_wp2_with fail
  go_ret
  rw [bit_u64 q i hq]
  exact ⟨rfl, rfl⟩

theorem up_u64 (q : Nat) : bits .or .u64 (IntKind.u64.wrap ((q : Int) * 2)) 0 = ((MN.up q : Nat) : Int) := by
  have e : IntKind.u64.wrap ((q : Int) * 2) = ((MN.up q : Nat) : Int) := by
    have : MN.up q = (q * 2) % 18446744073709551616 := by unfold MN.up; rw [Nat.shiftLeft_eq]
    rw [this]
    simp [IntKind.wrap, IntKind.bits, IntKind.signed]
  have hl : MN.up q < 18446744073709551616 := Nat.mod_lt _ (by omega)
  rw [e, show (0 : Int) = ((0 : Nat) : Int) from rfl, or_u64 _ _ hl (by omega), Nat.or_zero]

theorem down_u64 (q : Nat) (hq : q < 18446744073709551616) : bits .or .u64 ((q : Int) / 2) 0 = ((MN.down q : Nat) : Int) := by
  have e : (q : Int) / 2 = ((MN.down q : Nat) : Int) := by
    unfold MN.down; rw [Nat.shiftRight_eq_div_pow]; omega
  have hl : MN.down q < 18446744073709551616 := by unfold MN.down; rw [Nat.shiftRight_eq_div_pow]; omega
  rw [e, show (0 : Int) = ((0 : Nat) : Int) from rfl, or_u64 _ _ hl (by omega), Nat.or_zero]

theorem below_drewN' {B : Nat} {w W : World} (h : Below B w W) (n : Nat) : Below B w (W.drewN n) := ⟨h.os, h.tape, h.output, h.size, h.block⟩

/-- A new set of places: one new block, nothing else turned. -/
def NewPl (w : World) (q : Nat) (e : Ending) (w' : World) : Prop :=
  e = .returned (.slice (some ⟨w.heap.size, 0, none⟩) 1 1) ∧ w'.heap[w.heap.size]? = some (.cells #[.int .u64 q] 159 (0, 0)) ∧ Below w.heap.size w w' ∧ w'.heap.size = w.heap.size + 1

theorem new_set (w : World) (q : Nat) (w1 : World) (hw : w1 = w.alloc (.cells #[.int .u64 0] 159)) : NewPl w q (.returned (.slice (some ⟨w.heap.size, 0, none⟩) 1 1)) (w1.setCell ⟨w.heap.size, 0, none⟩ (.int .u64 q)) := by
  subst hw
  have hr : (w.alloc (.cells #[.int .u64 0] 159)).heap[w.heap.size]? = some (.cells #[.int .u64 0] 159 (0, 0)) := heap_alloc_new _ _
  refine ⟨rfl, ?_, ?_, by simp⟩
  · exact heap_setCell_same _ w.heap.size 0 _ 159 _ hr
  · exact ((Below.refl _ w).alloc (Nat.le_refl _) _).setCell (Nat.le_refl _) _

theorem old_cell {w w1 : World} {o : Obj} (hw : w1 = w.alloc o) {b : Nat} {v : Value} (hc : w.cell? ⟨b, 0, none⟩ = some v) (hb : b < w.heap.size) : w1.cell? ⟨b, 0, none⟩ = some v := by
  rw [hw]; exact (World.cell?_of_block (w := w) (a := ⟨b, 0, none⟩) (heap_alloc_old _ _ hb)).trans hc

theorem new_row {w w1 : World} {o : Obj} (hw : w1 = w.alloc o) : w1.heap[w.heap.size]? = some o := by
  rw [hw]; exact heap_alloc_new _ _

set_option maxHeartbeats 1000000 in
set_option maxRecDepth 100000 in
theorem up_any (b q : Nat) (w : World) (hc : w.cell? ⟨b, 0, none⟩ = some (.int .u64 q)) (hb : b < w.heap.size) :
    Calls Tryz.prog 185 #[.slice (some ⟨b, 0, none⟩) 1 1] w (NewPl w (MN.up q)) := by
  have C := nowhere_any 64 (by omega) (by omega) w
  have hu := up_u64 q
  go_enter Tryz.func185, Tryz.ntmps185
  go_wp2_with fail
  refine C.mono ?_
  rintro e w1 ⟨rfl, hw⟩
  have hc1 := old_cell hw hc hb
  have hr1 := new_row hw
  have hf1 := frozen_of_row w1 w.heap.size 0 _ _ hr1
  have hc2 := cell_of_row w1 w.heap.size 0 _ _ _ hr1
  have HW : Hid (w1 = _) := hw
  clear C hw hc
  go_wp2_with fail
  refine wp_loop_rounds 2 ?_
  rw [rounds_succ]
  go_wp2_with fail
  rw [rounds_succ]
  go_wp2_with fail
  go_ret
  exact new_set w _ w1 HW.out

set_option maxHeartbeats 1000000 in
set_option maxRecDepth 100000 in
theorem down_any (b q : Nat) (hq : q < 18446744073709551616) (w : World) (hc : w.cell? ⟨b, 0, none⟩ = some (.int .u64 q)) (hb : b < w.heap.size) :
    Calls Tryz.prog 186 #[.slice (some ⟨b, 0, none⟩) 1 1] w (NewPl w (MN.down q)) := by
  have C := nowhere_any 64 (by omega) (by omega) w
  have hu := down_u64 q hq
  go_enter Tryz.func186, Tryz.ntmps186
  go_wp2_with fail
  refine C.mono ?_
  rintro e w1 ⟨rfl, hw⟩
  have hc1 := old_cell hw hc hb
  have hr1 := new_row hw
  have hf1 := frozen_of_row w1 w.heap.size 0 _ _ hr1
  have hc2 := cell_of_row w1 w.heap.size 0 _ _ _ hr1
  have HW : Hid (w1 = _) := hw
  clear C hw hc
  go_wp2_with fail
  refine wp_loop_rounds 2 ?_
  rw [rounds_succ]
  go_wp2_with fail
  rw [rounds_succ]
  go_wp2_with fail
  go_ret
  exact new_set w _ w1 HW.out

/-- A call of a function value whose contract is known, two arguments, as a step of a region that draws. -/
theorem step_callv {P : Program} {ops : Array Oper} {o : Oper} {a : Act} {w : World} {K : Act → World → Prop} {Q : Exit → Act → World → Prop} {E : Prop} {R : Ending → World → Prop}
    (hg : o.guard = none) (f : FuncId) (z x y : Operand) (tys : Array TypeId) (hop : o.op = Op.call { callee := Callee.value z, args := #[x, y], argTypes := tys })
    (v u : Value) (hx : a.eval x = v) (hy : a.eval y = u) (hf : a.eval z = .func (.func f) #[] #[]) (he : (callFunc f #[v, u]).run P w = .ok (.enter f #[v, u]) w) (hC : Calls P f #[v, u] w R)
    (hR : ∀ e w', R e w' → ∃ r, e = .returned r ∧ K (a.put o.dst r) w') :
    if Region.wanted o (yielded ops a.tmps) = true then Oper.wp P o a w K Q else E := by
  have hw : Region.wanted o (yielded ops a.tmps) = true := by simp [Region.wanted, hg]
  rw [if_pos hw]
  unfold Oper.wp
  simp [execOp, hop, resolve, invoke, hx, hy, hf, he, Oper.upon, Deferred.ofValue]
  refine hC.mono fun e w' h => ?_
  obtain ⟨r, rfl, hr⟩ := hR e w' h
  exact hr

theorem NewPl.drew {w : World} {q : Nat} {e : Ending} {W : World} (h : NewPl w q e W) (n : Nat) : NewPl w q e (W.drewN n) := ⟨h.1, h.2.1, below_drewN' h.2.2.1 n, h.2.2.2⟩

set_option maxHeartbeats 1000000 in
set_option maxRecDepth 100000 in
theorem word_and (p q : Nat) (hp : p < 18446744073709551616) (hq : q < 18446744073709551616) (w : World) :
    Calls Tryz.prog 188 #[.int .u64 p, .int .u64 q] w fun e w' => e = .returned (.int .u64 ((p &&& q) : Nat)) ∧ w' = w := by
  have hu := and_u64 p q hp hq
  go_enter Tryz.func188, Tryz.ntmps188
  go_wp2_with fail
  go_ret
  exact ⟨rfl, rfl⟩

theorem enter188 (args : Array Value) (w : World) : (callFunc 188 args).run Tryz.prog w = .ok (.enter 188 args) w := by kernel_rfl

set_option maxHeartbeats 2000000 in
set_option maxRecDepth 100000 in
theorem with_and (b p c q : Nat) (hp : p < 18446744073709551616) (hq : q < 18446744073709551616) (w : World) (hc : w.cell? ⟨b, 0, none⟩ = some (.int .u64 p)) (hb : b < w.heap.size) (hd : w.cell? ⟨c, 0, none⟩ = some (.int .u64 q)) (hcb : c < w.heap.size) :
    Calls Tryz.prog 187 #[.slice (some ⟨b, 0, none⟩) 1 1, .slice (some ⟨c, 0, none⟩) 1 1, .func (.func 188) #[] #[]] w (NewPl w (p &&& q)) := by
  have C := nowhere_any 64 (by omega) (by omega) w
  have D := fun W => word_and p q hp hq W
  obtain ⟨u, hu⟩ : ∃ u : Nat, u = (p &&& q) := ⟨_, rfl⟩
  rw [← hu] at D ⊢
  clear hu
  go_enter Tryz.func187, Tryz.ntmps187
  go_wp2_with fail
  refine C.mono ?_
  rintro e w1 ⟨rfl, hw⟩
  have hc1 := old_cell hw hc hb
  have hd1 := old_cell hw hd hcb
  have hr1 := new_row hw
  have hf1 := frozen_of_row w1 w.heap.size 0 _ _ hr1
  have hc2 := cell_of_row w1 w.heap.size 0 _ _ _ hr1
  have HW : Hid (w1 = _) := hw
  clear C hw hc hd
  go_wp2_with fail
  refine wp_loop_rounds 2 ?_
  rw [rounds_succ]
  go_wp2_with fail
  go_region_law (refine step_callv rfl 188 (.tmp 20) (.tmp 24) (.tmp 28) #[159, 159] rfl (.int .u64 p) (.int .u64 q) rfl rfl rfl (enter188 _ _) (D _) ?_; rintro e w9 ⟨rfl, rfl⟩; refine ⟨_, rfl, ?_⟩)
  all_goals
    go_wp2_with fail
    rw [rounds_succ]
    go_wp2_with fail
    go_ret
    exact (new_set w _ w1 HW.out).drew 1

set_option maxHeartbeats 1000000 in
set_option maxRecDepth 100000 in
theorem and_any (b p c q : Nat) (hp : p < 18446744073709551616) (hq : q < 18446744073709551616) (w : World) (hc : w.cell? ⟨b, 0, none⟩ = some (.int .u64 p)) (hb : b < w.heap.size) (hd : w.cell? ⟨c, 0, none⟩ = some (.int .u64 q)) (hcb : c < w.heap.size) :
    Calls Tryz.prog 133 #[.slice (some ⟨b, 0, none⟩) 1 1, .slice (some ⟨c, 0, none⟩) 1 1] w (NewPl w (p &&& q)) := by
  have C := with_and b p c q hp hq w hc hb hd hcb
  clear hc hd
  go_enter Tryz.func133, Tryz.ntmps133
  go_wp2_with fail
  refine C.mono ?_
  rintro e w1 ⟨rfl, hn⟩
  go_wp2_with fail
  go_ret
  exact ⟨rfl, hn⟩

set_option maxHeartbeats 1000000 in
set_option maxRecDepth 100000 in
theorem word_or (p q : Nat) (hp : p < 18446744073709551616) (hq : q < 18446744073709551616) (w : World) :
    Calls Tryz.prog 189 #[.int .u64 p, .int .u64 q] w fun e w' => e = .returned (.int .u64 ((p ||| q) : Nat)) ∧ w' = w := by
  have hu := or_u64 p q hp hq
  go_enter Tryz.func189, Tryz.ntmps189
  go_wp2_with fail
  go_ret
  exact ⟨rfl, rfl⟩

theorem enter189 (args : Array Value) (w : World) : (callFunc 189 args).run Tryz.prog w = .ok (.enter 189 args) w := by kernel_rfl

set_option maxHeartbeats 2000000 in
set_option maxRecDepth 100000 in
theorem with_or (b p c q : Nat) (hp : p < 18446744073709551616) (hq : q < 18446744073709551616) (w : World) (hc : w.cell? ⟨b, 0, none⟩ = some (.int .u64 p)) (hb : b < w.heap.size) (hd : w.cell? ⟨c, 0, none⟩ = some (.int .u64 q)) (hcb : c < w.heap.size) :
    Calls Tryz.prog 187 #[.slice (some ⟨b, 0, none⟩) 1 1, .slice (some ⟨c, 0, none⟩) 1 1, .func (.func 189) #[] #[]] w (NewPl w (p ||| q)) := by
  have C := nowhere_any 64 (by omega) (by omega) w
  have D := fun W => word_or p q hp hq W
  obtain ⟨u, hu⟩ : ∃ u : Nat, u = (p ||| q) := ⟨_, rfl⟩
  rw [← hu] at D ⊢
  clear hu
  go_enter Tryz.func187, Tryz.ntmps187
  go_wp2_with fail
  refine C.mono ?_
  rintro e w1 ⟨rfl, hw⟩
  have hc1 := old_cell hw hc hb
  have hd1 := old_cell hw hd hcb
  have hr1 := new_row hw
  have hf1 := frozen_of_row w1 w.heap.size 0 _ _ hr1
  have hc2 := cell_of_row w1 w.heap.size 0 _ _ _ hr1
  have HW : Hid (w1 = _) := hw
  clear C hw hc hd
  go_wp2_with fail
  refine wp_loop_rounds 2 ?_
  rw [rounds_succ]
  go_wp2_with fail
  go_region_law (refine step_callv rfl 189 (.tmp 20) (.tmp 24) (.tmp 28) #[159, 159] rfl (.int .u64 p) (.int .u64 q) rfl rfl rfl (enter189 _ _) (D _) ?_; rintro e w9 ⟨rfl, rfl⟩; refine ⟨_, rfl, ?_⟩)
  all_goals
    go_wp2_with fail
    rw [rounds_succ]
    go_wp2_with fail
    go_ret
    exact (new_set w _ w1 HW.out).drew 1

set_option maxHeartbeats 1000000 in
set_option maxRecDepth 100000 in
theorem or_any (b p c q : Nat) (hp : p < 18446744073709551616) (hq : q < 18446744073709551616) (w : World) (hc : w.cell? ⟨b, 0, none⟩ = some (.int .u64 p)) (hb : b < w.heap.size) (hd : w.cell? ⟨c, 0, none⟩ = some (.int .u64 q)) (hcb : c < w.heap.size) :
    Calls Tryz.prog 135 #[.slice (some ⟨b, 0, none⟩) 1 1, .slice (some ⟨c, 0, none⟩) 1 1] w (NewPl w (p ||| q)) := by
  have C := with_or b p c q hp hq w hc hb hd hcb
  clear hc hd
  go_enter Tryz.func135, Tryz.ntmps135
  go_wp2_with fail
  refine C.mono ?_
  rintro e w1 ⟨rfl, hn⟩
  go_wp2_with fail
  go_ret
  exact ⟨rfl, hn⟩

set_option maxHeartbeats 1000000 in
set_option maxRecDepth 100000 in
theorem word_less (p q : Nat) (hp : p < 18446744073709551616) (hq : q < 18446744073709551616) (w : World) :
    Calls Tryz.prog 233 #[.int .u64 p, .int .u64 q] w fun e w' => e = .returned (.int .u64 ((MN.less p q) : Nat)) ∧ w' = w := by
  have hu := andNot_u64 p q hp hq
  go_enter Tryz.func233, Tryz.ntmps233
  go_wp2_with fail
  go_ret
  exact ⟨rfl, rfl⟩

theorem enter233 (args : Array Value) (w : World) : (callFunc 233 args).run Tryz.prog w = .ok (.enter 233 args) w := by kernel_rfl

set_option maxHeartbeats 2000000 in
set_option maxRecDepth 100000 in
theorem with_less (b p c q : Nat) (hp : p < 18446744073709551616) (hq : q < 18446744073709551616) (w : World) (hc : w.cell? ⟨b, 0, none⟩ = some (.int .u64 p)) (hb : b < w.heap.size) (hd : w.cell? ⟨c, 0, none⟩ = some (.int .u64 q)) (hcb : c < w.heap.size) :
    Calls Tryz.prog 187 #[.slice (some ⟨b, 0, none⟩) 1 1, .slice (some ⟨c, 0, none⟩) 1 1, .func (.func 233) #[] #[]] w (NewPl w (MN.less p q)) := by
  have C := nowhere_any 64 (by omega) (by omega) w
  have D := fun W => word_less p q hp hq W
  obtain ⟨u, hu⟩ : ∃ u : Nat, u = (MN.less p q) := ⟨_, rfl⟩
  rw [← hu] at D ⊢
  clear hu
  go_enter Tryz.func187, Tryz.ntmps187
  go_wp2_with fail
  refine C.mono ?_
  rintro e w1 ⟨rfl, hw⟩
  have hc1 := old_cell hw hc hb
  have hd1 := old_cell hw hd hcb
  have hr1 := new_row hw
  have hf1 := frozen_of_row w1 w.heap.size 0 _ _ hr1
  have hc2 := cell_of_row w1 w.heap.size 0 _ _ _ hr1
  have HW : Hid (w1 = _) := hw
  clear C hw hc hd
  go_wp2_with fail
  refine wp_loop_rounds 2 ?_
  rw [rounds_succ]
  go_wp2_with fail
  go_region_law (refine step_callv rfl 233 (.tmp 20) (.tmp 24) (.tmp 28) #[159, 159] rfl (.int .u64 p) (.int .u64 q) rfl rfl rfl (enter233 _ _) (D _) ?_; rintro e w9 ⟨rfl, rfl⟩; refine ⟨_, rfl, ?_⟩)
  all_goals
    go_wp2_with fail
    rw [rounds_succ]
    go_wp2_with fail
    go_ret
    exact (new_set w _ w1 HW.out).drew 1

set_option maxHeartbeats 1000000 in
set_option maxRecDepth 100000 in
theorem less_any (b p c q : Nat) (hp : p < 18446744073709551616) (hq : q < 18446744073709551616) (w : World) (hc : w.cell? ⟨b, 0, none⟩ = some (.int .u64 p)) (hb : b < w.heap.size) (hd : w.cell? ⟨c, 0, none⟩ = some (.int .u64 q)) (hcb : c < w.heap.size) :
    Calls Tryz.prog 212 #[.slice (some ⟨b, 0, none⟩) 1 1, .slice (some ⟨c, 0, none⟩) 1 1] w (NewPl w (MN.less p q)) := by
  have C := with_less b p c q hp hq w hc hb hd hcb
  clear hc hd
  go_enter Tryz.func212, Tryz.ntmps212
  go_wp2_with fail
  refine C.mono ?_
  rintro e w1 ⟨rfl, hn⟩
  go_wp2_with fail
  go_ret
  exact ⟨rfl, hn⟩

end Go.Proofs.YtjbdlihlcoldlaaGreatDoor.M

namespace Go.Proofs.YtjbdlihlcoldlaaGreatDoor
open Go.RowKit

theorem cell_new_rg (W : World) (a b : Int) : (W.alloc (Obj.cells #[Value.int IntKind.i64 a, Value.int IntKind.i64 b] 46)).cell? ⟨W.heap.size, 0, none⟩ = some (.int .i64 a) ∧ (W.alloc (Obj.cells #[Value.int IntKind.i64 a, Value.int IntKind.i64 b] 46)).cell? ⟨W.heap.size, 1, none⟩ = some (.int .i64 b) := by
  constructor <;> simp

end Go.Proofs.YtjbdlihlcoldlaaGreatDoor
