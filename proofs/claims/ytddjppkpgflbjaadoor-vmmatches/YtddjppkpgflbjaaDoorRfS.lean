/- slices.Backward at rules: what it hands back walks them from the last one on. -/
import Derived.Test.YtddjppkpgflbjaaDoorRfQR
import Derived.Test.YtddjppkpgflbjaaDoorVmY
import Derived.RangeFuncBound
import Derived.RangeFuncCalls
import Derived.Shelf.Abstract
import Derived.Shelf.RegionOpen
import Derived.WalkKit
import Derived.OwnWalkIn
import Derived.TacticsInMore
import Derived.LoopNIn
import Derived.LoopIn
namespace Go.Proofs.YtddjppkpgflbjaaDoor
open Go.RowKit Go.Shelf

attribute [local go_sem] Oper.semAt_some

/-- A rule's five values, by its number. -/
structure Five where
  br : Nat → Bool
  s1 : Nat → Value
  i1 : Nat → Value
  s2 : Nat → Value
  i2 : Nat → Value

def Five.pair (f : Five) (k : Nat) : Value := .agg #[.bool (f.br k), f.s1 k, f.i1 k, f.s2 k, f.i2 k]

/-- They lie in memory. -/
def FiveAt (n₀ : Nat) (w : World) (ao : Option Addr) (R : Nat) (f : Five) : Prop :=
  R ≠ 0 → ∃ b off, ao = some ⟨b, off, none⟩ ∧ b < n₀ ∧ ∀ k, k < R → w.cell? ⟨b, off + k * 5, none⟩ = some (.bool (f.br k)) ∧ w.cell? ⟨b, off + k * 5 + 1, none⟩ = some (f.s1 k) ∧ w.cell? ⟨b, off + k * 5 + 2, none⟩ = some (f.i1 k) ∧ w.cell? ⟨b, off + k * 5 + 3, none⟩ = some (f.s2 k) ∧ w.cell? ⟨b, off + k * 5 + 4, none⟩ = some (f.i2 k)

theorem FiveAt.below {n₀ : Nat} {w w' : World} {ao : Option Addr} {R : Nat} {f : Five} (h : FiveAt n₀ w ao R f) (hb : Below n₀ w w') : FiveAt n₀ w' ao R f := fun hR => by
  obtain ⟨b, off, e, hbn, hc⟩ := h hR
  refine ⟨b, off, e, hbn, fun k hk => ?_⟩
  obtain ⟨h1, h2, h3, h4, h5⟩ := hc k hk
  exact ⟨(hb.cell (by exact hbn)).trans h1, (hb.cell (by exact hbn)).trans h2, (hb.cell (by exact hbn)).trans h3, (hb.cell (by exact hbn)).trans h4, (hb.cell (by exact hbn)).trans h5⟩

def encP (f : Five) (k : Nat) : Array Value := #[.int .i64 (k : Int), f.pair k]

/-- What a round must keep for the iterator. -/
def KpB (n₀ B : Nat) (W W' : World) : Prop := Below n₀ W W' ∧ W'.heap[B]? = W.heap[B]?

def Yb (R : Nat) (pre : List Nat) (x : Nat) : Prop := x + 1 + pre.length = R

theorem box_below {w w' : World} {B : Nat} {t : TypeId} {v : Value} (h : Boxed w B t v) (hb : Below w.heap.size w w') : Boxed w' B t v := (hb.block B h.lt).trans h

set_option maxHeartbeats 1000000 in
set_option maxRecDepth 100000 in
theorem back_walks (n n₀ B R cap : Nat) (ao : Option Addr) (f : Five) (hn : 1 ≤ n) (hR : R ≤ 100000) (w : World) (hB : n₀ ≤ w.heap.size) (hs : Boxed w B 26 (.slice ao R cap)) (hF : FiveAt n₀ w ao R f) :
    RF.Walks n Tryd.prog 67 #[.pointer (some ⟨B, 0, none⟩)] (encP f) B (KpB n₀ B) (Yb R) (fun xs => xs.length = R) w := by
  intro l J Jx W hW hJ hY hJ0
  have hsW : Boxed W B 26 (.slice ao R cap) := box_below hs hW
  have hFW : FiveAt n₀ W ao R f := hF.below (hW.mono hB)
  clear hs hF hW
  have HY : Hid (∀ pre x W1, J pre W1 → Yb R pre x → YieldAt Fence.wide (n - 1) Tryd.prog l (encP f x) W1 fun e W' =>
      (e = .returned (.bool true) ∧ J (pre ++ [x]) W' ∧ KpB n₀ B W1 W') ∨ (e = .returned (.bool false) ∧ Jx W')) := hY
  clear hY hJ
  refine callsIn_of_wp Tryd.func67 rfl trivial ?_ rfl
  simp only [Tryd.ntmps67, List.size_toArray, List.length_cons, List.length_nil, Nat.reduceAdd, Nat.reduceSub, Array.replicate_succ, Array.replicate_zero, List.push_toArray, List.append_toArray, List.nil_append, List.cons_append]
  have hc0 := hsW.cell
  gi_wp2
  clear hc0
  gi_loopw [3] (fun v wr => ∃ (pre : List Nat) (k : Nat), v = .int .i64 ((k : Int) - 1) ∧ k + pre.length = R ∧ Boxed wr B 26 (.slice ao R cap) ∧ FiveAt n₀ wr ao R f ∧ J pre wr) (fun v _ => (intOf v + 1).toNat)
  case atStart => exact ⟨[], R, by go_num, by simp, hsW, hFW, hJ0⟩
  case round =>
    obtain ⟨pre, k, rfl, hk, hbx, hfv, hj⟩ := hrel
    have hc := hbx.cell
    cases k with
    | zero =>
      gi_wp2
      go_end0
      exact ⟨⟨_, rfl⟩, .inl ⟨pre, by omega, hj⟩⟩
    | succ k =>
      obtain ⟨b, off, rfl, hbn, hcs⟩ := hfv (by omega)
      obtain ⟨c0, c1, c2, c3, c4⟩ := hcs k (by omega)
      obtain ⟨fn, tmps, assign, body, hyl, hR⟩ := HY.out pre k wr hj (show k + 1 + pre.length = R by omega)
      unfold encP Five.pair at hyl
      have hkz : (k : Int) < (R : Int) := by omega
      rw [show ((k + 1 : Nat) : Int) - 1 = (k : Int) by omega]
      have HFV : Hid (FiveAt n₀ wr (some ⟨b, off, none⟩) R f) := hfv
      clear hfv hcs
      gi_wp2_with fail
      refine hR.mono ?_
      rintro e W3 (⟨rfl, hj3, hk3⟩ | ⟨rfl, hx3⟩)
      · have hbx3 : Boxed W3 B 26 (.slice (some ⟨b, off, none⟩) R cap) := hk3.2.trans hbx
        have HF3 : Hid (FiveAt n₀ W3 (some ⟨b, off, none⟩) R f) := HFV.out.below hk3.1
        gi_wp2
        go_roundw
        case rel => exact ⟨pre ++ [k], k, by go_num, by simp; omega, hbx3, HF3.out, hj3⟩
        case measure => simp [intOf]
      · gi_wp2
        refine bodyPost_ret (results_none rfl _ _ _) rfl ?_
        exact ⟨⟨_, rfl⟩, .inr hx3⟩

set_option maxHeartbeats 1000000 in
/-- Backward: the rules are boxed; what is handed back has the box. -/
theorem backward_any (ao : Option Addr) (R cap : Nat) (w : World) :
    Calls Tryd.prog 57 #[.slice ao R cap] w fun e w' => e = .returned (.func (.func 67) #[] #[.pointer (some ⟨w.heap.size, 0, none⟩)]) ∧ w' = w.alloc (.cells #[.slice ao R cap] 26) := by
  go_enter Tryd.func57, Tryd.ntmps57
  go_wp2_with fail
  go_ret
  exact ⟨rfl, rfl⟩

end Go.Proofs.YtddjppkpgflbjaaDoor
