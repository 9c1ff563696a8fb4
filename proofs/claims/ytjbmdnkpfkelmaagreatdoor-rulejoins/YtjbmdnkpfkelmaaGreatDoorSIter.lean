/- set.ranges and what it hands back: a walk over a text's words. -/
import Derived.Test.YtjbmdnkpfkelmaaGreatDoorSRf
import Derived.Test.YtjbmdnkpfkelmaaGreatDoorSOne
import Derived.RangeFuncBound
import Derived.RangeFuncCalls
import Derived.Shelf.Abstract
import Derived.Shelf.RegionOpen
import Derived.WalkKit
import Derived.OwnWalkIn
import Derived.TacticsInMore
import Derived.LoopNIn
import Derived.LoopIn
namespace Go.Proofs.YtjbmdnkpfkelmaaGreatDoor
open Go.RowKit Go.Shelf

attribute [local go_sem] Oper.semAt_some

theorem below_grown {w w' : World} (h : Below w.heap.size w w') (row : Option Nat) : w.grownBy w' row := ⟨h.os, h.tape, h.output, h.size, fun k hk _ => h.block k hk⟩

/-- How long the text in a box is. -/
def boxLen (B : Nat) (w : World) : Nat := match w.cell? ⟨B, 0, none⟩ with | some (.string s) => s.size | _ => 0
theorem boxLen_eq {B : Nat} {w : World} {s : ByteArray} (h : Boxed w B 9 (.string s)) : boxLen B w = s.size := by unfold boxLen; rw [h.cell]

theorem box_below {w w' : World} {B : Nat} {t : TypeId} {v : Value} (h : Boxed w B t v) (hb : Below w.heap.size w w') : Boxed w' B t v := (hb.block B h.lt).trans h

def encR (x : RX) : Array Value := #[.agg #[.int .i64 x.1.1, .int .i64 x.1.2], .bool x.2]

/-- What a round must keep for the iterator: all that lay below n₀, and the box. -/
def KpB (n₀ B : Nat) (W W' : World) : Prop := Below n₀ W W' ∧ W'.heap[B]? = W.heap[B]?

set_option maxHeartbeats 1000000 in
set_option maxRecDepth 100000 in
theorem iter_in (n n₀ B : Nat) (hn : 1 ≤ n) (h8 : 5 < n₀) (hB : n₀ ≤ B) (Z : List RX → ByteArray → Prop) (Y : List RX → RX → Prop) (hZ : ∀ pre s, Z pre s → s.size ≤ 1000000)
    (hstep : ∀ pre s, Z pre s → s.size ≠ 0 → ∀ W, EV W → ML W → 5 < W.heap.size → Calls Tryz.prog 80 #[.string ⟨(Lib.cut s.data.toList [32]).1.toArray⟩] W fun e W' =>
      (∃ x, (Y pre x ∧ Z (pre ++ [x]) ⟨(Lib.cut s.data.toList [32]).2.1.toArray⟩) ∧ e = .returned (rxV x)) ∧ Below W.heap.size W W')
    (s0 : ByteArray) (w : World) (hs : Boxed w B 9 (.string s0)) (hE : EV w) (hM : ML w) (h0 : Z [] s0) :
    RF.Walks n Tryz.prog 78 #[.pointer (some ⟨B, 0, none⟩)] encR B (KpB n₀ B) Y (fun xs => Z xs ⟨#[]⟩) w := by
  intro l J Jx W hW hJ hY hJ0
  have hsW : Boxed W B 9 (.string s0) := box_below hs hW
  have hEW : EV W := hE.below hW (by have := hs.lt; omega)
  have hMW : ML W := hM.below hW (by have := hs.lt; omega)
  clear hs hE hM hW
  have HST : Hid (∀ pre s, Z pre s → s.size ≠ 0 → ∀ W, EV W → ML W → 5 < W.heap.size → Calls Tryz.prog 80 #[.string ⟨(Lib.cut s.data.toList [32]).1.toArray⟩] W fun e W' =>
      (∃ x, (Y pre x ∧ Z (pre ++ [x]) ⟨(Lib.cut s.data.toList [32]).2.1.toArray⟩) ∧ e = .returned (rxV x)) ∧ Below W.heap.size W W') := hstep
  have HY : Hid (∀ pre x W1, J pre W1 → Y pre x → YieldAt Fence.wide (n - 1) Tryz.prog l (encR x) W1 fun e W' =>
      (e = .returned (.bool true) ∧ J (pre ++ [x]) W' ∧ KpB n₀ B W1 W') ∨ (e = .returned (.bool false) ∧ Jx W')) := hY
  have HJ : Hid (∀ s A A' row, J s A → A.grownBy A' row → (∀ k, row = some k → k = B) → J s A') := hJ
  have HZ : Hid (∀ pre s, Z pre s → s.size ≤ 1000000) := hZ
  clear hstep hY hJ hZ
  refine callsIn_of_wp Tryz.func78 rfl trivial ?_ rfl
  simp only [Tryz.ntmps78, List.size_toArray, List.length_cons, List.length_nil, Nat.reduceAdd, Nat.reduceSub, Array.replicate_succ, Array.replicate_zero, List.push_toArray, List.append_toArray, List.nil_append, List.cons_append]
  gi_wp2
  gi_loopw [] (fun wr => ∃ pre s, Boxed wr B 9 (.string s) ∧ Z pre s ∧ J pre wr ∧ EV wr ∧ ML wr) (fun wr => boxLen B wr)
  case atStart => exact ⟨[], s0, hsW, h0, hJ0, hEW, hMW⟩
  case round =>
    obtain ⟨pre, s, hbx, hz, hj, he, hm⟩ := hrel
    have hc := hbx.cell
    have hlt := hbx.lt
    by_cases h00 : s.size = 0
    · have es : s = ⟨#[]⟩ := by
        have : s.data = #[] := Array.eq_empty_of_size_eq_zero h00
        cases s; simp_all
      subst es
      gi_wp2
      go_end0
      exact ⟨⟨_, rfl⟩, .inl ⟨pre, hz, hj⟩⟩
    · have hie : s.toList.isEmpty = false := by
        rw [Lib.toList_data]
        cases e : s.data.toList with
        | nil => exact absurd (by have := congrArg List.length e; simpa using this) h00
        | cons a b => rfl
      have h8w : 5 < wr.heap.size := by omega
      have hcl := (cut_len 32 s.data.toList).2.2 (fun e => h00 (by have := congrArg List.length e; simpa using this))
      have hsl : s.data.toList.length = s.size := by simp
      rw [hsl] at hcl
      obtain ⟨rest, hrest⟩ : ∃ r, r = (⟨(Lib.cut s.data.toList [32]).2.1.toArray⟩ : ByteArray) := ⟨_, rfl⟩
      obtain ⟨word, hword⟩ : ∃ r, r = (⟨(Lib.cut s.data.toList [32]).1.toArray⟩ : ByteArray) := ⟨_, rfl⟩
      have hst := HST.out pre s hz h00
      have HCU := cut_any s 32 (HZ.out _ _ hz) wr hm
      rw [← hword, ← hrest] at HCU
      rw [← hword, ← hrest] at hst
      have hrl : rest.size < s.size := by
        rw [hrest]
        show (Lib.cut s.data.toList [32]).2.1.toArray.size < _
        simpa using hcl
      generalize (Lib.cut s.data.toList [32]).2.2 = tt at HCU
      clear hword hrest hcl hsl
      gi_wp2_with fail
      refine ⟨trivial, (callsIn_wide.2 HCU).mono ?_⟩
      rintro e W1 ⟨rfl, hb1, _⟩
      clear HCU
      have hbx1 := box_below hbx hb1
      have he1 := he.below hb1 h8w
      have hm1 := hm.below hb1 h8w
      have hj1 := HJ.out pre wr W1 none hj (below_grown hb1 none) (fun k e => by cases e)
      have hw1 : 5 < W1.heap.size := by have := hb1.size; omega
      gi_wp2_with fail
      refine ⟨trivial, (callsIn_wide.2 (hst W1 he1 hm1 hw1)).mono ?_⟩
      rintro e W2 ⟨⟨x, ⟨hy, hz2⟩, rfl⟩, hb2⟩
      have hbx2 := box_below hbx1 hb2
      have he2 := he1.below hb2 hw1
      have hm2 := hm1.below hb2 hw1
      have hj2 := HJ.out pre W1 W2 none hj1 (below_grown hb2 none) (fun k e => by cases e)
      obtain ⟨fn, tmps, assign, body, hyl, hR⟩ := HY.out pre x W2 hj2 hy
      unfold rxV
      unfold encR at hyl
      gi_wp2_with fail
      refine hR.mono ?_
      rintro e W3 (⟨rfl, hj3, hk3⟩ | ⟨rfl, hx3⟩)
      · have hbx3 : Boxed W3 B 9 (.string s) := hk3.2.trans hbx2
        have hc3 := hbx3.cell
        have hf3 := hbx3.frozen
        have hB3 : Below n₀ W2 (W3.setCell ⟨B, 0, none⟩ (.string rest)) := hk3.1.setCell (p := ⟨B, 0, none⟩) hB _
        have he3 := he2.below hB3 h8
        have hm3 := hm2.below hB3 h8
        have hbx4 := hbx3.set (.string rest)
        have hj4 := HJ.out (pre ++ [x]) W3 _ (some B) hj3 (grownBy_setCell' W3 B (.string rest)) (fun k e => by cases e; rfl)
        have HE : Hid (∃ pre s, Boxed (W3.setCell ⟨B, 0, none⟩ (.string rest)) B 9 (.string s) ∧ Z pre s ∧ J pre (W3.setCell ⟨B, 0, none⟩ (.string rest)) ∧ EV (W3.setCell ⟨B, 0, none⟩ (.string rest)) ∧ ML (W3.setCell ⟨B, 0, none⟩ (.string rest))) := ⟨pre ++ [x], rest, hbx4, hz2, hj4, he3, hm3⟩
        have HM : Hid (boxLen B (W3.setCell ⟨B, 0, none⟩ (.string rest)) < boxLen B wr) := by show _ < _; rw [boxLen_eq hbx4, boxLen_eq hbx]; exact hrl
        clear hbx4 hj4 he3 hm3 hB3
        gi_wp2
        go_roundw
        case rel => exact HE.out
        case measure => exact HM.out
      · gi_wp2
        refine bodyPost_ret (results_none rfl _ _ _) rfl ?_
        exact ⟨⟨_, rfl⟩, .inr hx3⟩

set_option maxHeartbeats 1000000 in
/-- ranges: the text is boxed; what is handed back has the box. -/
theorem ranges_any (s : ByteArray) (w : World) :
    Calls Tryz.prog 68 #[.string s] w fun e w' => e = .returned (.func (.func 78) #[] #[.pointer (some ⟨w.heap.size, 0, none⟩)]) ∧ w' = w.alloc (.cells #[.string s] 9) := by
  go_enter Tryz.func68, Tryz.ntmps68
  go_wp2_with fail
  go_ret
  exact ⟨rfl, rfl⟩

end Go.Proofs.YtjbmdnkpfkelmaaGreatDoor
