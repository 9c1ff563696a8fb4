/- set.ranges and what it hands back: a walk over a text's words. -/
import Derived.Test.YtjbdlihlcoldlaaGreatDoorG06
import Derived.Test.YtjbdlihlcoldlaaGreatDoorG22
import Derived.RangeFuncBound
import Derived.RangeFuncCalls
import Derived.Shelf.Abstract
import Derived.Shelf.RegionOpen
import Derived.WalkKit
import Derived.OwnWalkIn
import Derived.TacticsInMore
import Derived.LoopNIn
import Derived.LoopIn
import Derived.Test.YtjbdlihlcoldlaaGreatDoorG18
import Derived.Test.YtjbdlihlcoldlaaGreatDoorG01
namespace Go.Proofs.YtjbdlihlcoldlaaGreatDoor
open Go.RowKit Go.Shelf

attribute [local go_sem] Oper.semAt_some

theorem below_grown {w w' : World} (h : Below w.heap.size w w') (row : Option Nat) : w.grownBy w' row := ⟨h.os, h.tape, h.output, h.size, fun k hk _ => h.block k hk⟩

/-- How long the text in a box is. -/
def boxLen (B : Nat) (w : World) : Nat := match w.cell? ⟨B, 0, none⟩ with | some (.string s) => s.size | _ => 0
theorem boxLen_eq {B : Nat} {w : World} {s : ByteArray} (h : Boxed w B 9 (.string s)) : boxLen B w = s.size := by unfold boxLen; rw [h.cell]

theorem box_below {w w' : World} {B : Nat} {t : TypeId} {v : Value} (h : Boxed w B t v) (hb : Below w.heap.size w w') : Boxed w' B t v := (hb.block B h.lt).trans h

def encR (x : RX) : Array Value := #[.agg #[.int .i64 x.1.1, .int .i64 x.1.2], .bool x.2]

/-- What a round must keep for the iterator: all that lay below n₀, and the box. -/
def KpB (n₀ B : Nat) (W W' : World) : Prop := Below n₀ W W' ∧ W'.heap[B]? = W.heap[B]?

set_option maxHeartbeats 1000000 in
set_option maxRecDepth 100000 in
theorem iter_in (n n₀ B : Nat) (hn : 1 ≤ n) (h8 : 7 < n₀) (hB : n₀ ≤ B) (Z : List RX → ByteArray → Prop) (Y : List RX → RX → Prop) (hZ : ∀ pre s, Z pre s → s.size ≤ 1000000)
    (hstep : ∀ pre s, Z pre s → s.size ≠ 0 → ∀ W, EV W → ML W → 7 < W.heap.size → Calls Tryz.prog 256 #[.string ⟨(Lib.cut s.data.toList [32]).1.toArray⟩] W fun e W' =>
      (∃ x, (Y pre x ∧ Z (pre ++ [x]) ⟨(Lib.cut s.data.toList [32]).2.1.toArray⟩) ∧ e = .returned (rxV x)) ∧ Below W.heap.size W W')
    (s0 : ByteArray) (w : World) (hs : Boxed w B 9 (.string s0)) (hE : EV w) (hM : ML w) (h0 : Z [] s0) :
    RF.Walks n Tryz.prog 254 #[.pointer (some ⟨B, 0, none⟩)] encR B (KpB n₀ B) Y (fun xs => Z xs ⟨#[]⟩) w := by
  intro l J Jx W hW hJ hY hJ0
  have hsW : Boxed W B 9 (.string s0) := box_below hs hW
  have hEW : EV W := hE.below hW (by have := hs.lt; omega)
  have hMW : ML W := hM.below hW (by have := hs.lt; omega)
  clear hs hE hM hW
  have HST : Hid (∀ pre s, Z pre s → s.size ≠ 0 → ∀ W, EV W → ML W → 7 < W.heap.size → Calls Tryz.prog 256 #[.string ⟨(Lib.cut s.data.toList [32]).1.toArray⟩] W fun e W' =>
      (∃ x, (Y pre x ∧ Z (pre ++ [x]) ⟨(Lib.cut s.data.toList [32]).2.1.toArray⟩) ∧ e = .returned (rxV x)) ∧ Below W.heap.size W W') := hstep
  have HY : Hid (∀ pre x W1, J pre W1 → Y pre x → YieldAt Fence.wide (n - 1) Tryz.prog l (encR x) W1 fun e W' =>
      (e = .returned (.bool true) ∧ J (pre ++ [x]) W' ∧ KpB n₀ B W1 W') ∨ (e = .returned (.bool false) ∧ Jx W')) := hY
  have HJ : Hid (∀ s A A' row, J s A → A.grownBy A' row → (∀ k, row = some k → k = B) → J s A') := hJ
  have HZ : Hid (∀ pre s, Z pre s → s.size ≤ 1000000) := hZ
  clear hstep hY hJ hZ
  refine callsIn_of_wp Tryz.func254 rfl trivial ?_ rfl
  simp only [Tryz.ntmps254, List.size_toArray, List.length_cons, List.length_nil, Nat.reduceAdd, Nat.reduceSub, Array.replicate_succ, Array.replicate_zero, List.push_toArray, List.append_toArray, List.nil_append, List.cons_append]
  gi_wp2
  gi_loopw [] (fun wr => ∃ pre s, Boxed wr B 9 (.string s) ∧ Z pre s ∧ J pre wr ∧ EV wr ∧ ML wr) (fun wr => boxLen B wr)
  case atStart => exact ⟨[], s0, hsW, h0, hJ0, hEW, hMW⟩
  case round =>
    obtain ⟨pre, s, hbx, hz, hj, he, hm⟩ := hrel
    have hc := hbx.cell
    have hlt := hbx.lt
    by_cases h00 : s.size = 0
    · have es : s = ⟨#[]⟩ := by
        have : s.data = #[] := Array.eq_empty_of_size_eq_zero h00
        cases s; simp_all
      subst es
      gi_wp2
      go_end0
      exact ⟨⟨_, rfl⟩, .inl ⟨pre, hz, hj⟩⟩
    · have hie : s.toList.isEmpty = false := by
        rw [Lib.toList_data]
        cases e : s.data.toList with
        | nil => exact absurd (by have := congrArg List.length e; simpa using this) h00
        | cons a b => rfl
      have h8w : 7 < wr.heap.size := by omega
      have hcl := (cut_len 32 s.data.toList).2.2 (fun e => h00 (by have := congrArg List.length e; simpa using this))
      have hsl : s.data.toList.length = s.size := by simp
      rw [hsl] at hcl
      obtain ⟨rest, hrest⟩ : ∃ r, r = (⟨(Lib.cut s.data.toList [32]).2.1.toArray⟩ : ByteArray) := ⟨_, rfl⟩
      obtain ⟨word, hword⟩ : ∃ r, r = (⟨(Lib.cut s.data.toList [32]).1.toArray⟩ : ByteArray) := ⟨_, rfl⟩
      have hst := HST.out pre s hz h00
      have HCU := cut_any s 32 (HZ.out _ _ hz) wr hm
      rw [← hword, ← hrest] at HCU
      rw [← hword, ← hrest] at hst
      have hrl : rest.size < s.size := by
        rw [hrest]
        show (Lib.cut s.data.toList [32]).2.1.toArray.size < _
        simpa using hcl
      generalize (Lib.cut s.data.toList [32]).2.2 = tt at HCU
      clear hword hrest hcl hsl
      gi_wp2_with fail
      refine ⟨trivial, (callsIn_wide.2 HCU).mono ?_⟩
      rintro e W1 ⟨rfl, hb1, _⟩
      clear HCU
      have hbx1 := box_below hbx hb1
      have he1 := he.below hb1 h8w
      have hm1 := hm.below hb1 h8w
      have hj1 := HJ.out pre wr W1 none hj (below_grown hb1 none) (fun k e => by cases e)
      have hw1 : 7 < W1.heap.size := by have := hb1.size; omega
      gi_wp2_with fail
      refine ⟨trivial, (callsIn_wide.2 (hst W1 he1 hm1 hw1)).mono ?_⟩
      rintro e W2 ⟨⟨x, ⟨hy, hz2⟩, rfl⟩, hb2⟩
      have hbx2 := box_below hbx1 hb2
      have he2 := he1.below hb2 hw1
      have hm2 := hm1.below hb2 hw1
      have hj2 := HJ.out pre W1 W2 none hj1 (below_grown hb2 none) (fun k e => by cases e)
      obtain ⟨fn, tmps, assign, body, hyl, hR⟩ := HY.out pre x W2 hj2 hy
      unfold rxV
      unfold encR at hyl
      gi_wp2_with fail
      refine hR.mono ?_
      rintro e W3 (⟨rfl, hj3, hk3⟩ | ⟨rfl, hx3⟩)
      · have hbx3 : Boxed W3 B 9 (.string s) := hk3.2.trans hbx2
        have hc3 := hbx3.cell
        have hf3 := hbx3.frozen
        have hB3 : Below n₀ W2 (W3.setCell ⟨B, 0, none⟩ (.string rest)) := hk3.1.setCell (p := ⟨B, 0, none⟩) hB _
        have he3 := he2.below hB3 h8
        have hm3 := hm2.below hB3 h8
        have hbx4 := hbx3.set (.string rest)
        have hj4 := HJ.out (pre ++ [x]) W3 _ (some B) hj3 (grownBy_setCell' W3 B (.string rest)) (fun k e => by cases e; rfl)
        have HE : Hid (∃ pre s, Boxed (W3.setCell ⟨B, 0, none⟩ (.string rest)) B 9 (.string s) ∧ Z pre s ∧ J pre (W3.setCell ⟨B, 0, none⟩ (.string rest)) ∧ EV (W3.setCell ⟨B, 0, none⟩ (.string rest)) ∧ ML (W3.setCell ⟨B, 0, none⟩ (.string rest))) := ⟨pre ++ [x], rest, hbx4, hz2, hj4, he3, hm3⟩
        have HM : Hid (boxLen B (W3.setCell ⟨B, 0, none⟩ (.string rest)) < boxLen B wr) := by show _ < _; rw [boxLen_eq hbx4, boxLen_eq hbx]; exact hrl
        clear hbx4 hj4 he3 hm3 hB3
        gi_wp2
        go_roundw
        case rel => exact HE.out
        case measure => exact HM.out
      · gi_wp2
        refine bodyPost_ret (results_none rfl _ _ _) rfl ?_
        exact ⟨⟨_, rfl⟩, .inr hx3⟩

set_option maxHeartbeats 1000000 in
/-- ranges: the text is boxed; what is handed back has the box. -/
theorem ranges_any (s : ByteArray) (w : World) :
    Calls Tryz.prog 247 #[.string s] w fun e w' => e = .returned (.func (.func 254) #[] #[.pointer (some ⟨w.heap.size, 0, none⟩)]) ∧ w' = w.alloc (.cells #[.string s] 9) := by
  go_enter Tryz.func247, Tryz.ntmps247
  go_wp2_with fail
  go_ret
  exact ⟨rfl, rfl⟩

end Go.Proofs.YtjbdlihlcoldlaaGreatDoor

namespace Go.Proofs.YtjbdlihlcoldlaaGreatDoor
open Go.RowKit Go.Shelf

attribute [local go_sem] Oper.semAt_some

/-- What stands in [ and ]. -/
def inner (s : ByteArray) : ByteArray := ⟨(Lib.trimSuffix (Lib.trimPrefix s.data.toList [91]) [93]).toArray⟩

theorem calm_block {β : Type} {B b : Nat} (k : Nat) (cs : Array Value) (t : TypeId) (hk : k ≠ B) : RF.Calm B b (fun (_ : β) W => W.heap[k]? = some (.cells cs t)) := by
  intro s A A' row hs hg hr
  refine (hg.block k (Array.getElem?_eq_some_iff.1 hs).1 fun e => ?_).trans hs
  rcases hr k e.symm with h | ⟨_, o, ho, hc⟩
  · exact hk h
  · rw [hs] at ho; cases ho; cases hc

theorem calm_below {β : Type} {B b n₀ : Nat} {w : World} (hn : n₀ ≤ w.heap.size) (hB : n₀ ≤ B) (hb : n₀ ≤ b) : RF.Calm B b (fun (_ : β) W => Below n₀ w W) := by
  intro s A A' row hs hg hr
  refine hs.grown hg (Nat.le_trans hn hs.size) fun k e => ?_
  rcases hr k e with h | ⟨h, _⟩ <;> omega

theorem calm_size {β : Type} {B b m : Nat} : RF.Calm B b (fun (_ : β) W => m ≤ W.heap.size) := fun _ _ _ _ hs hg _ => Nat.le_trans hs hg.size

theorem calm_row {β : Type} {B b k base : Nat} (hk : k ≠ B) (hB : B < base) (f : β → List RS.Rg) :
    RF.Calm B b (fun (s : β) W => ∃ v, Boxed W k 41 v ∧ W.ownsRow base 46 2 v (f s).length (flat2 (f s))) := by
  rintro s A A' row ⟨v, hv, hr⟩ hg hrow
  refine ⟨v, calm_block (β := β) (B := B) (b := b) k _ _ hk s A A' row hv hg hrow, hr.kept hg ?_⟩
  rcases hr.2 with ⟨rfl, _⟩ | ⟨g, cap, cur, rfl, hge, hgb, _⟩
  · exact .inl rfl
  · refine .inr fun e' => ?_
    rcases hrow g (by simpa [Value.ownBlock] using e'.symm) with h | ⟨_, o, ho, hc⟩
    · omega
    · rw [hgb] at ho; cases ho; cases hc

/-- Behind 'out = append(out, r)'. -/
theorem app_box {W w1 : World} {k base : Nat} {v v' : Value} {m p : Nat} {xs ys : List Value} {tmp : Obj} (hk : k < base) (hb : base ≤ W.heap.size)
    (hv : Boxed W k 41 v) (hrow : W.ownsRow base 46 2 v m xs) (hown' : w1.ownsRow base 46 2 v' p ys) (hgrow : (W.alloc tmp).grownBy w1 v.ownBlock) :
    Boxed w1 k 41 v ∧ Boxed (w1.setCell ⟨k, 0, none⟩ v') k 41 v' ∧ (w1.setCell ⟨k, 0, none⟩ v').ownsRow base 46 2 v' p ys ∧ KeepsOthers W (w1.setCell ⟨k, 0, none⟩ v') ∧
      (∀ j, j < base → j ≠ k → (w1.setCell ⟨k, 0, none⟩ v').heap[j]? = W.heap[j]?) ∧ Below k W (w1.setCell ⟨k, 0, none⟩ v') := by
  have hne : ∀ j, j < base → some j ≠ v.ownBlock := by
    intro j hj e
    rcases hrow.2 with ⟨rfl, _⟩ | ⟨g, cap, cur, rfl, hge, hgb, _⟩
    · simp [Value.ownBlock] at e
    · have : j = g := by simpa [Value.ownBlock] using e
      omega
  have hne' : ∀ j, j < base → v'.ownBlock ≠ some j := by
    intro j hj e
    rcases hown'.2 with ⟨rfl, _⟩ | ⟨g, cap, cur, rfl, hge, hgb, _⟩
    · simp [Value.ownBlock] at e
    · have : g = j := by simpa [Value.ownBlock] using e
      omega
  have hv1 : Boxed w1 k 41 v := (hv.alloc tmp).kept hgrow (hne k hk)
  have hsz : W.heap.size ≤ w1.heap.size := by have := hgrow.size; simp at this; omega
  have hblk : ∀ j, j < base → w1.heap[j]? = W.heap[j]? := fun j hj => (hgrow.block j (by simp; omega) (hne j hj)).trans (Below.heap_alloc W tmp j (by omega))
  refine ⟨hv1, hv1.set v', hown'.kept (grownBy_setCell' w1 k v') (.inr (hne' k hk)), ?_, ?_, ?_⟩
  · refine ((KeepsOthers.alloc W tmp).trans (KeepsOthers.of_grownBy hgrow fun j o ej hj => ?_)).trans (KeepsOthers.setCell _ _ _)
    rcases (hrow.alloc tmp).2 with ⟨rfl, _⟩ | ⟨g, cap, cur, rfl, _, hgb, _⟩
    · simp [Value.ownBlock] at ej
    · obtain rfl : g = j := by simpa [Value.ownBlock] using ej
      rw [hgb] at hj; cases hj; rfl
  · exact fun j hj hjk => (Below.heap_setCell _ _ _ j hjk).trans (hblk j hj)
  · have e1 : Below k W w1 := ⟨hgrow.os, hgrow.tape, hgrow.output, hsz, fun j hj => hblk j (by omega)⟩
    exact e1.setCell (p := ⟨k, 0, none⟩) (Nat.le_refl _) v'

theorem results_cells2 {fn : Func} {p q : Tmp} {t u : TypeId} (h : fn.results = #[.cell p t, .cell q u]) (tmps : Array Value) (P : Program) (w : World) (a b : Addr) (x y : Value)
    (hp : tmps.getD p undef = .pointer (some a)) (hq : tmps.getD q undef = .pointer (some b)) (h1 : (loadVar t a).run P w = .ok x w) (h2 : (loadVar u b).run P w = .ok y w) :
    (results fn tmps).run P w = .ok (.tuple #[x, y]) w := by
  have e1 : ∀ c, (asAddr (.pointer (some c))).run P w = .ok c w := fun c => by simp [asAddr, go_sem]
  simp only [results, h]
  have hp' : tmps[p]?.getD undef = .pointer (some a) := by simpa using hp
  have hq' : tmps[q]?.getD undef = .pointer (some b) := by simpa using hq
  simp [Sem.run_bind, Result.andThen, hp', hq', e1, h1, h2]

theorem load48 {w : World} {k : Nat} {v : Value} (h : Boxed w k 41 v) : (loadVar 41 ⟨k, 0, none⟩).run Tryz.prog w = .ok v w := by
  have := h.cell
  simp [loadVar, Sem.run_bind, Tryz.isAgg41, go_sem, this, Result.andThen]

theorem load33 {w : World} {k : Nat} {v : Value} (h : Boxed w k 31 v) : (loadVar 31 ⟨k, 0, none⟩).run Tryz.prog w = .ok v w := by
  have := h.cell
  simp [loadVar, Sem.run_bind, Tryz.isAgg31, go_sem, this, Result.andThen]

def firsts (xs : List RX) : List RS.Rg := xs.map (·.1)

/-- Between two rounds: out holds what has come. -/
def PI (n₀ : Nat) (w : World) (xs : List RX) (W : World) : Prop :=
  (∃ v, Boxed W (n₀ + 2) 41 v ∧ W.ownsRow (n₀ + 4) 46 2 v (firsts xs).length (flat2 (firsts xs))) ∧ Boxed W n₀ 41 (.slice none 0 0) ∧ Boxed W (n₀ + 1) 31 .nilIface ∧ Below n₀ w W ∧ n₀ + 4 ≤ W.heap.size

/-- A round has returned: what stands there is no range. -/
def PX (n₀ : Nat) (w : World) (Y : List RX → RX → Prop) (W : World) : Prop :=
  Boxed W n₀ 41 (.slice none 0 0) ∧ Boxed W (n₀ + 1) 31 (.iface 89 (.int .i64 3)) ∧ Below n₀ w W ∧ n₀ + 4 ≤ W.heap.size ∧ ∃ pre x, Y pre x ∧ x.2 = false

/-- The round's own variables. -/
def PA (n₀ : Nat) (s t u : ByteArray) (x : RX) (a : Act) (W : World) : Prop :=
  ∃ bx, n₀ + 4 ≤ bx ∧ W.heap[bx]? = some (.cells #[.int .i64 x.1.1, .int .i64 x.1.2] 46) ∧
    a = { tmps := #[.string s, undef, .pointer (some ⟨n₀, 0, none⟩), .pointer (some ⟨n₀ + 1, 0, none⟩), .pointer (some ⟨n₀ + 1 + 1, 0, none⟩), .pointer (some ⟨bx, 0, none⟩), .bool x.2, .string s, .string t, .string u, .func (.func 254) #[] #[.pointer (some ⟨n₀ + 1 + 1 + 1, 0, none⟩)], .agg #[.int .i64 x.1.1, .int .i64 x.1.2], .bool x.2, undef, undef, undef, undef, undef, undef, undef, undef, undef, undef, undef, undef, undef, undef, undef, undef, undef, undef], defers := [] }

/-- At Parse's end: the two results are stored, and the mark of the loop is taken up. -/
theorem parse_end {n₀ : Nat} {w W X : World} {v : Value} {ys : List Value} {m : Nat} (hw : n₀ = w.heap.size) (hB : Below n₀ w W) (hrow : W.ownsRow (n₀ + 4) 46 2 v m ys)
    (h0 : Boxed W n₀ 41 (.slice none 0 0)) (h1 : Boxed W (n₀ + 1) 31 .nilIface) (hK : W.heap[n₀ + 4]? = some (.deferred (some []))) (hX : Below W.heap.size W X) (a b : Value) :
    ((X.setCell ⟨n₀, 0, none⟩ a).setCell ⟨n₀ + 1, 0, none⟩ b).heap[n₀ + 4]? = some (.deferred (some [])) ∧
    Boxed (((X.setCell ⟨n₀, 0, none⟩ a).setCell ⟨n₀ + 1, 0, none⟩ b).putObj (n₀ + 4) (.deferred none)) n₀ 41 a ∧
    Boxed (((X.setCell ⟨n₀, 0, none⟩ a).setCell ⟨n₀ + 1, 0, none⟩ b).putObj (n₀ + 4) (.deferred none)) (n₀ + 1) 31 b ∧
    Below n₀ w (((X.setCell ⟨n₀, 0, none⟩ a).setCell ⟨n₀ + 1, 0, none⟩ b).putObj (n₀ + 4) (.deferred none)) ∧
    (((X.setCell ⟨n₀, 0, none⟩ a).setCell ⟨n₀ + 1, 0, none⟩ b).putObj (n₀ + 4) (.deferred none)).ownsRow n₀ 46 2 v m ys := by
  have e4 : n₀ + 4 < W.heap.size := (Array.getElem?_eq_some_iff.1 hK).1
  have hXK : X.heap[n₀ + 4]? = some (.deferred (some [])) := (hX.block _ e4).trans hK
  have hX0 : Boxed X n₀ 41 (.slice none 0 0) := box_below h0 hX
  have hX1 : Boxed X (n₀ + 1) 31 .nilIface := box_below h1 hX
  have hXr := owns_later hrow hX
  have k4 : ((X.setCell ⟨n₀, 0, none⟩ a).setCell ⟨n₀ + 1, 0, none⟩ b).heap[n₀ + 4]? = some (.deferred (some [])) :=
    (Below.heap_setCell _ _ _ _ (by simp)).trans ((Below.heap_setCell _ _ _ _ (by simp)).trans hXK)
  have hBX : Below n₀ w X := hB.trans (hX.mono (by omega))
  refine ⟨k4, ((hX0.set a).other (by omega) b).kept (grownBy_putObj' _ _ _) (by simp), ((hX1.other (by omega) a).set b).kept (grownBy_putObj' _ _ _) (by simp), ?_, ?_⟩
  · exact ((hBX.setCell (p := ⟨n₀, 0, none⟩) (Nat.le_refl _) a).setCell (p := ⟨n₀ + 1, 0, none⟩) (by show n₀ ≤ n₀ + 1; omega) b).grown (grownBy_putObj' _ _ _) (by simp; have := hBX.size; omega) (fun k e => by cases e; omega)
  · exact owns_mono (ownsRow_putObj (ownsRow_setCell_below (ownsRow_setCell_below hXr (a := ⟨n₀, 0, none⟩) (by show n₀ < n₀ + 4; omega) a) (a := ⟨n₀ + 1, 0, none⟩) (by show n₀ + 1 < n₀ + 4; omega) b) _ k4 rfl) (by omega)

theorem PI_calm (n₀ : Nat) (w : World) (hn : n₀ = w.heap.size) : RF.Calm (n₀ + 3) (n₀ + 4) (PI n₀ w) :=
  (calm_row (by omega) (by omega) firsts).and ((calm_block n₀ _ _ (by omega)).and ((calm_block (n₀ + 1) _ _ (by omega)).and ((calm_below (by omega) (by omega) (by omega)).and calm_size)))

theorem PX_calm (n₀ : Nat) (w : World) (hn : n₀ = w.heap.size) (Y : List RX → RX → Prop) : RF.Calm (n₀ + 3) (n₀ + 4) (fun (_ : Unit) => PX n₀ w Y) :=
  (calm_block n₀ _ _ (by omega)).and ((calm_block (n₀ + 1) _ _ (by omega)).and ((calm_below (by omega) (by omega) (by omega)).and (calm_size.and (fun _ _ _ _ hs _ _ => hs))))

theorem PA_calm (n₀ : Nat) (s t u : ByteArray) (a : Act) : RF.Calm (n₀ + 3) (n₀ + 4) (fun x W => PA n₀ s t u x a W) := by
  rintro x A A' row ⟨bx, h1, h2, h3⟩ hg hr
  exact ⟨bx, h1, calm_block (β := Unit) bx _ _ (by omega) () A A' row h2 hg hr, h3⟩

/-- What Parse hands back. -/
def parsed (n₀ : Nat) (s : ByteArray) (Z : List RX → ByteArray → Prop) (Y : List RX → RX → Prop) (e : Ending) (W : World) : Prop :=
  (e = .returned (.tuple #[.slice none 0 0, .iface 89 (.int .i64 3)]) ∧ ((∃ pre x, Y pre x ∧ x.2 = false) ∨ ∃ xs, Z xs ⟨#[]⟩ ∧ ¬ (RS.right (firsts xs) = true ∧ bytesOf (RS.setText (firsts xs)) = s))) ∨
  ∃ v xs, e = .returned (.tuple #[v, .nilIface]) ∧ Z xs ⟨#[]⟩ ∧ RS.right (firsts xs) = true ∧ bytesOf (RS.setText (firsts xs)) = s ∧ W.ownsRow n₀ 46 2 v (firsts xs).length (flat2 (firsts xs))

set_option maxHeartbeats 2000000 in
set_option maxRecDepth 100000 in
theorem parse_core (s : ByteArray) (hs : s.size ≤ 1000000) (Z : List RX → ByteArray → Prop) (Y : List RX → RX → Prop) (hZ : ∀ pre t, Z pre t → t.size ≤ 1000000) (hZl : ∀ xs t, Z xs t → xs.length ≤ 10000)
    (hYl : ∀ pre x, Y pre x → pre.length ≤ 10000)
    (hstep : ∀ pre t, Z pre t → t.size ≠ 0 → ∀ W, EV W → ML W → 7 < W.heap.size → Calls Tryz.prog 256 #[.string ⟨(Lib.cut t.data.toList [32]).1.toArray⟩] W fun e W' =>
      (∃ x, (Y pre x ∧ Z (pre ++ [x]) ⟨(Lib.cut t.data.toList [32]).2.1.toArray⟩) ∧ e = .returned (rxV x)) ∧ Below W.heap.size W W')
    (h0 : Z [] (inner s)) (w : World) (hE : EV w) (hM : ML w) (hT : TZ w) (h8 : 7 < w.heap.size) :
    Calls Tryz.prog 234 #[.string s] w fun e w' => parsed w.heap.size s Z Y e w' ∧ Below w.heap.size w w' := by
  obtain ⟨i0, hi, hz0, hz1, hz2⟩ := info_parts info53
  obtain ⟨n₀, HN⟩ : ∃ n₀, Hid (n₀ = w.heap.size) := ⟨_, rfl⟩
  obtain ⟨t, ht⟩ : ∃ t, t = (⟨(Lib.trimPrefix s.data.toList [91]).toArray⟩ : ByteArray) := ⟨_, rfl⟩
  have HT1 := fun w => Any.strings_TrimPrefix Tryz.trimPL s ⟨#[91]⟩ w
  have htl : t.data.toList = Lib.trimPrefix s.data.toList [91] := by rw [ht]
  have hts : t.size ≤ s.size := by
    rw [ht]
    show (Lib.trimPrefix s.data.toList [91]).toArray.size ≤ _
    have : s.data.toList.length = s.size := by simp
    unfold Lib.trimPrefix
    split <;> simp <;> omega
  have HT2 := fun w => Any.strings_TrimSuffix Tryz.trimSL t ⟨#[93]⟩ w (by omega)
  obtain ⟨u, hu⟩ : ∃ u, u = inner s := ⟨_, rfl⟩
  rw [← hu] at h0
  have hu2 : u = (⟨(Lib.trimSuffix t.data.toList [93]).toArray⟩ : ByteArray) := by rw [hu, htl]; rfl
  rw [show (⟨#[91]⟩ : ByteArray).data.toList = [91] from rfl, ← ht] at HT1
  rw [show (⟨#[93]⟩ : ByteArray).data.toList = [93] from rfl, ← hu2] at HT2
  clear hu hu2 ht htl
  obtain ⟨W0, HW⟩ : ∃ W0, Hid (W0 = (((w.alloc (.cells #[.slice none 0 0] 41)).alloc (.cells #[.nilIface] 31)).alloc (.cells #[.slice none 0 0] 41)).alloc (.cells #[.string u] 9)) := ⟨_, rfl⟩
  refine (callsIn_wide (n := 9)).1 ?_
  refine callsIn_of_wp_marks Tryz.func234 rfl trivial ?_ rfl
  simp only [Tryz.ntmps234, List.size_toArray, List.length_cons, List.length_nil, Nat.reduceAdd, Nat.reduceSub, Array.replicate_succ, Array.replicate_zero, List.push_toArray, List.append_toArray, List.nil_append, List.cons_append]
  gi_wp2_with fail
  refine ⟨trivial, (callsIn_wide.2 (HT1 _)).mono ?_⟩
  rintro e w1 ⟨rfl, rfl⟩
  gi_wp2_with fail
  refine ⟨trivial, (callsIn_wide.2 (HT2 _)).mono ?_⟩
  rintro e w1 ⟨rfl, rfl⟩
  gi_wp2_with fail
  refine ⟨trivial, (callsIn_wide.2 (ranges_any u _)).mono ?_⟩
  rintro e w1 ⟨rfl, rfl⟩
  gi_wp2_with fail
  rw [← HW.out]
  have hsz : W0.heap.size = w.heap.size + 4 := by rw [HW.out]; simp
  have x0 : Boxed W0 w.heap.size 41 (.slice none 0 0) := by rw [HW.out]; exact (((Boxed.new w 41 _).alloc _).alloc _).alloc _
  have x1 : Boxed W0 (w.heap.size + 1) 31 .nilIface := by
    rw [HW.out]
    have := (((Boxed.new (w.alloc (.cells #[.slice none 0 0] 41)) 31 .nilIface).alloc (.cells #[.slice none 0 0] 41)).alloc (.cells #[.string u] 9))
    simpa using this
  have x2 : Boxed W0 (w.heap.size + 2) 41 (.slice none 0 0) := by
    rw [HW.out]
    have := ((Boxed.new ((w.alloc (.cells #[.slice none 0 0] 41)).alloc (.cells #[.nilIface] 31)) 41 (.slice none 0 0)).alloc (.cells #[.string u] 9))
    simpa using this
  have x3 : Boxed W0 (w.heap.size + 3) 9 (.string u) := by
    rw [HW.out]
    have := (Boxed.new (((w.alloc (.cells #[.slice none 0 0] 41)).alloc (.cells #[.nilIface] 31)).alloc (.cells #[.slice none 0 0] 41)) 9 (.string u))
    simpa using this
  have hB0 : Below w.heap.size w W0 := by
    rw [HW.out]
    exact ((((Below.refl _ w).alloc (Nat.le_refl _) _).alloc (by simp) _).alloc (by simp; omega) _).alloc (by simp; omega) _
  clear HW HT1 HT2
  have HSZ : Hid (W0.heap.size = w.heap.size + 4) := hsz
  refine RF.rangeFunc (gf := 254) (lb := #[.pointer (some ⟨w.heap.size + 1 + 1 + 1, 0, none⟩)]) rfl (enters_of Tryz.func254 (by kernel_rfl) rfl) (by omega) (encs := encR) (fun _ => rfl) (w.heap.size + 3) (by omega)
    (iter_in (9 - 1) w.heap.size (w.heap.size + 3) (by omega) h8 (by omega) Z Y hZ hstep u W0 x3 (hE.below hB0 h8) (hM.below hB0 h8) h0) (fun h k => ⟨h.1.trans k.1, k.2.trans h.2⟩)
    (fun W l o hl => ⟨⟨rfl, rfl, rfl, by simp, fun k hk => World.putObj_heap_other (by omega)⟩, World.putObj_heap_other (by omega)⟩)
    (PI w.heap.size w) (PX w.heap.size w Y) (by rw [hsz]; exact PI_calm _ w rfl) (by rw [hsz]; exact PX_calm _ w rfl Y) ⟨⟨_, x2, World.ownsRow_nil _ _ _ _⟩, x0, x1, hB0, by omega⟩
    (PA w.heap.size s t u) (fun a' => by rw [hsz]; exact PA_calm _ s t u a') ?assign ?body ?done ?stop
  case assign =>
    intro l pre x W K hi hy hK
    obtain ⟨⟨lo, hi'⟩, ok⟩ := x
    obtain ⟨⟨v, hv, hrow⟩, y0, y1, hB, hs4⟩ := hi
    clear x0 x1 x2 x3 hB0 hsz hstep hZ hZl hYl h0 hE hM hT
    unfold encR
    gi_wp2
    exact hK _ _ ((KeepsOthers.alloc _ _).from _) ⟨(Below.refl _ W).alloc (by omega) _, Below.heap_alloc W _ _ (by omega)⟩ ⟨⟨v, hv.alloc _, hrow.alloc _⟩, y0.alloc _, y1.alloc _, hB.alloc (by omega) _, by simp; omega⟩ ⟨W.heap.size, hs4, heap_alloc_new W _, rfl⟩
  case body =>
    intro l pre x a' W hi hax hy
    obtain ⟨⟨lo, hi'⟩, ok⟩ := x
    obtain ⟨⟨v, hv, hrow⟩, y0, y1, hB, hs4⟩ := hi
    obtain ⟨bx, hbx, hr, rfl⟩ := hax
    have HYL : Hid (pre.length ≤ 10000) := hYl _ _ hy
    have HY : Hid (Y pre ((lo, hi'), ok)) := hy
    clear x0 x1 x2 x3 hB0 hstep hZ hZl hYl h0 hE hM hT hy hsz
    have c0 := y0.cell
    have c1 := y1.cell
    have c2 := hv.cell
    have f0 := y0.frozen
    have f1 := y1.frozen
    have f2 := hv.frozen
    obtain ⟨r0, r1, _, _⟩ := row2 hr
    have HV : Hid (Boxed W (w.heap.size + 2) 41 v) := hv
    have H0 : Hid (Boxed W w.heap.size 41 (.slice none 0 0)) := y0
    have H1 : Hid (Boxed W (w.heap.size + 1) 31 .nilIface) := y1
    clear hv y0 y1 hr
    cases ok
    · gi_wp2
      have q0 : Boxed W w.heap.size 41 (.slice none 0 0) := H0.out
      have q1 : Boxed W (w.heap.size + 1) 31 .nilIface := H1.out
      refine ⟨((KeepsOthers.setCell _ _ _).trans (KeepsOthers.setCell _ _ _)).from _, (q0.set _).other (by omega) _, ((q1.other (by omega) _).set _), (hB.setCell (p := ⟨w.heap.size, 0, none⟩) (Nat.le_refl _) _).setCell (p := ⟨w.heap.size + 1, 0, none⟩) (by show _ ≤ w.heap.size + 1; omega) _, by simpa using hs4, _, _, HY.out, rfl⟩
    · have hle : (firsts pre).length ≤ 10000 := by unfold firsts; rw [List.length_map]; exact HYL.out
      gi_wp2_with (gi_at_builtin; refine wpListIn_append_own _ rfl _ _ 41 rfl (w.heap.size + 4) 46 i0 (.agg #[.int .i64 0, .int .i64 0]) 2 16 Tryz.underlying41 hi hz0 hz1 hz2 rfl (by decide) _ _ _ rfl (hrow.alloc _) ⟨W.heap.size, 0, none⟩ 1 1 (cells2 (lo, hi')) rfl rfl (cells2_at ?c0 ?c1) (cells2_one _) ?b1 ?b2 ?b3 ?fin)
      case b1 => unfold maxLen; omega
      case b2 => omega
      case b3 => omega
      case fin =>
        intro v' w1 hown' hgrow _
        obtain ⟨g', cap', rfl⟩ := ownsRow_succ hown'
        obtain ⟨k1, k2, k3, k4, k5, k6⟩ := app_box (by omega) hs4 (show Boxed W (w.heap.size + 2) 41 v from HV.out) hrow hown' hgrow
        have d1 := k1.cell
        have d2 := k1.frozen
        have R : Hid (RF.left (w.heap.size + 4) (KpB w.heap.size (w.heap.size + 3)) (PI w.heap.size w) (PX w.heap.size w Y) (pre ++ [((lo, hi'), true)]) W .normal { tmps := #[], defers := [] } (w1.setCell ⟨w.heap.size + 2, 0, none⟩ (.slice (some ⟨g', 0, none⟩) ((firsts pre).length + 1) cap'))) := by
          refine ⟨k4.from _, ⟨k6.mono (by omega), k5 _ (by omega) (by omega)⟩, ⟨_, k2, ?_⟩, (k5 _ (by omega) (by omega)).trans H0.out, (k5 _ (by omega) (by omega)).trans H1.out, hB.trans (k6.mono (by omega)), Nat.le_trans hs4 k6.size⟩
          have e : firsts (pre ++ [((lo, hi'), true)]) = firsts pre ++ [(lo, hi')] := by simp [firsts]
          rw [e, flat2_snoc, List.length_append]
          exact k3
        clear k1 k2 k3 k4 k5 k6 hown' hgrow hrow
        gi_wp2
        rw [HSZ.out]
        exact R.out
  case stop =>
    intro W hx hK
    obtain ⟨y0, y1, hB, hs4, hno⟩ := hx
    rw [hsz] at hK
    clear x0 x1 x2 x3 hB0 hstep hZ hZl hYl h0 hE hM hT
    have z0 : Boxed (W.putObj (w.heap.size + 4) (.deferred none)) w.heap.size 41 (.slice none 0 0) := y0.kept (grownBy_putObj' _ _ _) (by simp)
    have z1 : Boxed (W.putObj (w.heap.size + 4) (.deferred none)) (w.heap.size + 1) 31 (.iface 89 (.int .i64 3)) := y1.kept (grownBy_putObj' _ _ _) (by simp)
    have R : Hid (parsed w.heap.size s Z Y (.returned (.tuple #[.slice none 0 0, .iface 89 (.int .i64 3)])) (W.putObj (w.heap.size + 4) (.deferred none)) ∧ Below w.heap.size w (W.putObj (w.heap.size + 4) (.deferred none))) :=
      ⟨.inl ⟨rfl, .inl hno⟩, hB.grown (grownBy_putObj' _ _ _) hB.size (fun k e => by cases e; omega)⟩
    rw [hsz]
    gi_wp2
    refine ⟨by simp, .inl ⟨_, _, rfl, run_takeDeferred hK, ?_⟩⟩
    exact ⟨_, results_cells2 rfl _ _ _ ⟨w.heap.size, 0, none⟩ ⟨w.heap.size + 1, 0, none⟩ _ _ rfl rfl (load48 z0) (load33 z1), R.out⟩
  case done =>
    intro xs W hS hi hK
    obtain ⟨⟨v, hv, hrow⟩, y0, y1, hB, hs4⟩ := hi
    rw [hsz] at hK ⊢
    have hle : (firsts xs).length ≤ 10000 := by unfold firsts; rw [List.length_map]; exact hZl _ _ hS
    have hTW : TZ W := hT.below hB h8
    clear x0 x1 x2 x3 hB0 hstep hZ hZl hYl h0 hE hM hT
    have c2 := hv.cell
    have hrg : RgAt W.heap.size W v (firsts xs) := rg_of_own hrow
    have H0 : Hid (Boxed W w.heap.size 41 (.slice none 0 0)) := y0
    have H1 : Hid (Boxed W (w.heap.size + 1) 31 .nilIface) := y1
    have HV : Hid (Boxed W (w.heap.size + 2) 41 v) := hv
    have HE := fun X (hX : Below W.heap.size W X) a b => parse_end (rfl : w.heap.size = w.heap.size) hB hrow y0 y1 hK hX a b
    have HQ : ∀ X, Below W.heap.size W X → X.cell? ⟨w.heap.size, 0, none⟩ = some (.slice none 0 0) ∧ X.cell? ⟨w.heap.size + 1, 0, none⟩ = some .nilIface ∧ X.cell? ⟨w.heap.size + 2, 0, none⟩ = some v ∧ X.frozen? ⟨w.heap.size, 0, none⟩ = false ∧ X.frozen? ⟨w.heap.size + 1, 0, none⟩ = false := fun X hX =>
      ⟨(box_below y0 hX).cell, (box_below y1 hX).cell, (box_below hv hX).cell, (box_below y0 hX).frozen, (box_below y1 hX).frozen⟩
    have HEE : Hid _ := HE
    have HQQ : Hid _ := HQ
    have hrg2 := hrg
    obtain ⟨ao, cap, rfl, _⟩ := hrg2
    clear y0 y1 hv H0 H1 HV HE HQ hrow hK
    have h8W : 7 < W.heap.size := by omega
    gi_wp2_with fail
    refine ⟨trivial, (callsIn_wide.2 (right_any _ (firsts xs) (by omega) W hrg)).mono ?_⟩
    rintro e W1 ⟨rfl, hb1⟩
    obtain ⟨q0, q1, q2, q3, q4⟩ := HQQ.out W1 hb1
    cases hr : RS.right (firsts xs) with
    | false =>
      gi_wp2_with fail
      refine ⟨trivial, ?_⟩
      gi_wp2_with fail
      obtain ⟨e1, e2, e3, e4, _⟩ := HEE.out W1 hb1 (.slice none 0 0) (.iface 89 (.int .i64 3))
      refine ⟨by simp, .inl ⟨_, _, rfl, run_takeDeferred e1, ?_⟩⟩
      exact ⟨_, results_cells2 rfl _ _ _ ⟨w.heap.size, 0, none⟩ ⟨w.heap.size + 1, 0, none⟩ _ _ rfl rfl (load48 e2) (load33 e3), .inl ⟨rfl, .inr ⟨xs, hS, by rw [hr]; simp⟩⟩, e4⟩
    | true =>
      gi_wp2_with fail
      refine ⟨trivial, (callsIn_wide.2 (print_any _ (firsts xs) hle hr W1 (hTW.below hb1 h8W) (by have := hb1.size; omega) (hrg.below hb1 _ hb1.size))).mono ?_⟩
      rintro e W2 ⟨rfl, hb2⟩
      have hb3 : Below W.heap.size W W2 := hb1.trans (hb2.mono hb1.size)
      obtain ⟨q0', q1', q2', q3', q4'⟩ := HQQ.out W2 hb3
      by_cases heq : bytesOf (RS.setText (firsts xs)) = s
      · have hbe : ((bytesOf (RS.setText (firsts xs))).toList == s.toList) = true := by rw [heq]; simp
        have HEQ : Hid (bytesOf (RS.setText (firsts xs)) = s) := heq
        clear heq
        gi_wp2_with fail
        obtain ⟨e1, e2, e3, e4, e5⟩ := HEE.out W2 hb3 (.slice ao (firsts xs).length cap) .nilIface
        refine ⟨by simp, .inl ⟨_, _, rfl, run_takeDeferred e1, ?_⟩⟩
        exact ⟨_, results_cells2 rfl _ _ _ ⟨w.heap.size, 0, none⟩ ⟨w.heap.size + 1, 0, none⟩ _ _ rfl rfl (load48 e2) (load33 e3), .inr ⟨_, xs, rfl, hS, hr, HEQ.out, e5⟩, e4⟩
      · have hbe : ((bytesOf (RS.setText (firsts xs))).toList == s.toList) = false := by
          rw [beq_eq_false_iff_ne]
          intro e
          rw [Lib.toList_data, Lib.toList_data] at e
          exact heq (ByteArray.ext (Array.ext' e))
        have HEQ : Hid (bytesOf (RS.setText (firsts xs)) ≠ s) := heq
        clear heq
        gi_wp2_with fail
        obtain ⟨e1, e2, e3, e4, _⟩ := HEE.out W2 hb3 (.slice none 0 0) (.iface 89 (.int .i64 3))
        refine ⟨by simp, .inl ⟨_, _, rfl, run_takeDeferred e1, ?_⟩⟩
        exact ⟨_, results_cells2 rfl _ _ _ ⟨w.heap.size, 0, none⟩ ⟨w.heap.size + 1, 0, none⟩ _ _ rfl rfl (load48 e2) (load33 e3), .inl ⟨rfl, .inr ⟨xs, hS, fun h => HEQ.out h.2⟩⟩, e4⟩

end Go.Proofs.YtjbdlihlcoldlaaGreatDoor

namespace Go.Proofs.YtjbdlihlcoldlaaGreatDoor
open Go.RowKit Go.Shelf

theorem trimPrefix_le (s : List UInt8) (p : List UInt8) : (Lib.trimPrefix s p).length ≤ s.length := by unfold Lib.trimPrefix; split <;> simp
theorem trimSuffix_le (s : List UInt8) (p : List UInt8) : (Lib.trimSuffix s p).length ≤ s.length := by unfold Lib.trimSuffix; split <;> simp <;> omega

theorem inner_size (s : ByteArray) : (inner s).size ≤ s.size := by
  show (Lib.trimSuffix (Lib.trimPrefix s.data.toList [91]) [93]).toArray.size ≤ _
  have h1 := trimSuffix_le (Lib.trimPrefix s.data.toList [91]) [93]
  have h2 := trimPrefix_le s.data.toList [91]
  have h3 : s.data.toList.length = s.size := by simp
  simp
  omega

/-- Whatever the text is: an error, or the set that is written so. -/
theorem parse_all (s : ByteArray) (hs : s.size ≤ 5000) (w : World) (hE : EV w) (hM : ML w) (hT : TZ w) (h8 : 7 < w.heap.size) :
    Calls Tryz.prog 234 #[.string s] w fun e w' => (e = .returned (.tuple #[.slice none 0 0, .iface 89 (.int .i64 3)]) ∨
      ∃ v out, e = .returned (.tuple #[v, .nilIface]) ∧ out.length ≤ 5000 ∧ RS.right out = true ∧ bytesOf (RS.setText out) = s ∧ w'.ownsRow w.heap.size 46 2 v out.length (flat2 out)) ∧ Below w.heap.size w w' := by
  have hin := inner_size s
  refine (parse_core s (by omega) (fun pre t => pre.length + t.size ≤ 5000) (fun pre _ => pre.length ≤ 10000) (fun pre t h => by omega) (fun xs t h => by omega) (fun pre x h => h) ?_ (by simp; omega) w hE hM hT h8).mono ?_
  · intro pre t hz ht W he hm hw
    obtain ⟨c1, c2, c3⟩ := cut_len 32 t.data.toList
    have h3 : t.data.toList.length = t.size := by simp
    have c4 := c3 (fun e => ht (by have := congrArg List.length e; simpa using this))
    refine (one_all ⟨(Lib.cut t.data.toList [32]).1.toArray⟩ ?_ W he hm hw).mono ?_
    · show (Lib.cut t.data.toList [32]).1.toArray.size ≤ _
      simp; omega
    · rintro e W' ⟨⟨x, _, rfl⟩, hb⟩
      refine ⟨⟨x, ⟨by omega, ?_⟩, rfl⟩, hb⟩
      show (pre ++ [x]).length + (Lib.cut t.data.toList [32]).2.1.toArray.size ≤ 5000
      simp
      omega
  · rintro e w' ⟨⟨rfl, _⟩ | ⟨v, xs, rfl, hz, hr, ht, hown⟩, hb⟩
    · exact ⟨.inl rfl, hb⟩
    · exact ⟨.inr ⟨v, firsts xs, rfl, by unfold firsts; rw [List.length_map]; omega, hr, ht, hown⟩, hb⟩

theorem midText_pos (s : List RS.Rg) : ∀ k, RS.midText (k + 1) s = RS.midText 1 s := by
  induction s with
  | nil => intro k; rfl
  | cons r s ih =>
    intro k
    rw [RS.midText, RS.midText, ih (k + 1), ih 1]
    simp

theorem midText_cons (r q : RS.Rg) (s : List RS.Rg) : RS.midText 0 (r :: q :: s) = RS.rgText r ++ 32 :: RS.midText 0 (q :: s) := by
  rw [RS.midText, RS.midText, RS.midText, midText_pos s 1]
  simp

theorem midText_one (r : RS.Rg) : RS.midText 0 [r] = RS.rgText r := by simp [RS.midText]

theorem rgText_ne (r : RS.Rg) : RS.rgText r ≠ [] := by
  unfold RS.rgText
  intro e
  have := (List.append_eq_nil_iff.1 e).1
  have h := RS.hexF_length 16 r.1.toNat
  unfold RS.hex at this
  rw [this] at h
  simp at h

theorem rgText_not (r : RS.Rg) : (32 : UInt8) ∉ (RS.rgText r).map UInt8.ofNat := by
  refine not_mem_u8 32 (by omega) _ fun b hb => ⟨by have := rgText_lt r b hb; omega, ?_⟩
  unfold RS.rgText at hb
  rcases List.mem_append.1 hb with hb | hb
  · have := hexF_ge 16 _ b hb; omega
  · split at hb
    · simp at hb
    · rcases List.mem_cons.1 hb with rfl | hb
      · omega
      · have := hexF_ge 16 _ b hb; omega

/-- The first word of what is written, and what is left. -/
theorem cut_mid (r : RS.Rg) (s : List RS.Rg) : ∃ t, Lib.cut (bytesOf (RS.midText 0 (r :: s))).data.toList [32] = ((bytesOf (RS.rgText r)).data.toList, (bytesOf (RS.midText 0 s)).data.toList, t) := by
  cases s with
  | nil =>
    refine ⟨false, ?_⟩
    rw [midText_one, bytesOf_toList, bytesOf_toList]
    exact cut_none 32 _ (rgText_not r)
  | cons q s =>
    refine ⟨true, ?_⟩
    rw [midText_cons, bytesOf_toList, bytesOf_toList, bytesOf_toList, List.map_append, List.map_cons]
    exact cut_one 32 _ _ (rgText_not r)

theorem inner_text (x : List RS.Rg) : inner (bytesOf (RS.setText x)) = bytesOf (RS.midText 0 x) := by
  unfold inner
  rw [bytesOf_toList]
  have e : (RS.setText x).map UInt8.ofNat = 91 :: ((RS.midText 0 x).map UInt8.ofNat ++ [93]) := by simp [RS.setText]
  rw [e]
  have e1 : Lib.trimPrefix (91 :: ((RS.midText 0 x).map UInt8.ofNat ++ [93])) [91] = (RS.midText 0 x).map UInt8.ofNat ++ [93] := by
    unfold Lib.trimPrefix Lib.hasPrefix
    simp [List.isPrefixOf]
  rw [e1]
  have e2 : Lib.trimSuffix ((RS.midText 0 x).map UInt8.ofNat ++ [93]) [93] = (RS.midText 0 x).map UInt8.ofNat := by
    unfold Lib.trimSuffix Lib.hasSuffix
    rw [if_pos (by rw [List.isSuffixOf_iff_suffix]; exact ⟨_, rfl⟩)]
    simp
  rw [e2]
  rfl

theorem right_bounds {s : List RS.Rg} : ∀ {a : Int}, RS.rightFrom a s = true → -2 ≤ a → ∀ r ∈ s, 0 ≤ r.1 ∧ r.1 ≤ r.2 ∧ r.2 ≤ 1114111 := by
  induction s with
  | nil => intro a _ _ r hr; simp at hr
  | cons q s ih =>
    intro a h ha r hr
    rw [RS.rightFrom_cons] at h
    rcases List.mem_cons.1 hr with rfl | hr
    · omega
    · exact ih h.2.2.2 (by omega) r hr

def good (x : List RS.Rg) : List RX := x.map fun r => (r, true)

theorem firsts_good (x : List RS.Rg) : firsts (good x) = x := by
  unfold firsts good
  rw [List.map_map]
  exact List.map_id x

/-- What a set is written as is read as that set. -/
theorem parse_text (x : List RS.Rg) (hl : x.length ≤ 5000) (hx : RS.right x = true) (w : World) (hE : EV w) (hM : ML w) (hT : TZ w) (h8 : 7 < w.heap.size) :
    Calls Tryz.prog 234 #[.string (bytesOf (RS.setText x))] w fun e w' => (∃ v, e = .returned (.tuple #[v, .nilIface]) ∧ w'.ownsRow w.heap.size 46 2 v x.length (flat2 x)) ∧ Below w.heap.size w w' := by
  have hmid := RS.midText_length x 0
  have hst : (bytesOf (RS.setText x)).size ≤ 1000000 := by
    rw [bytesOf_size]
    simp [RS.setText]
    omega
  have hgl : (good x).length = x.length := by simp [good]
  have hbd := right_bounds hx (by omega)
  have hpost : ∀ post, (∃ pre, good x = pre ++ post) → post = good (firsts post) ∧ ∀ r ∈ firsts post, r ∈ x := by
    rintro post ⟨pre, e⟩
    have hm : ∀ y ∈ post, y.2 = true ∧ y.1 ∈ x := by
      intro y hy
      have : y ∈ good x := by rw [e]; exact List.mem_append_right _ hy
      unfold good at this
      obtain ⟨r, hr, rfl⟩ := List.mem_map.1 this
      exact ⟨rfl, hr⟩
    refine ⟨?_, ?_⟩
    · unfold good firsts
      rw [List.map_map]
      conv => lhs; rw [← List.map_id post]
      refine List.map_congr_left fun y hy => ?_
      obtain ⟨r, b⟩ := y
      have := (hm _ hy).1
      simp at this
      simp [this]
    · intro r hr
      unfold firsts at hr
      obtain ⟨y, hy, rfl⟩ := List.mem_map.1 hr
      exact (hm y hy).2
  refine (parse_core (bytesOf (RS.setText x)) hst (fun pre t => ∃ post, good x = pre ++ post ∧ t = bytesOf (RS.midText 0 (firsts post))) (fun pre y => ∃ post, good x = pre ++ y :: post) ?_ ?_ ?_ ?_ ?_ w hE hM hT h8).mono ?_
  · rintro pre t ⟨post, e, rfl⟩
    have h1 := RS.midText_length (firsts post) 0
    have h2 : (firsts post).length = post.length := by simp [firsts]
    have h3 := congrArg List.length e
    simp at h3
    rw [bytesOf_size]
    omega
  · rintro pre t ⟨post, e, _⟩
    have h3 := congrArg List.length e
    simp at h3
    omega
  · rintro pre y ⟨post, e⟩
    have h3 := congrArg List.length e
    simp at h3
    omega
  · rintro pre t ⟨post, e, rfl⟩ hne W he hm hw
    cases post with
    | nil => exact absurd rfl hne
    | cons y post =>
      obtain ⟨hg, hin⟩ := hpost (y :: post) ⟨pre, e⟩
      obtain ⟨⟨lo, hi⟩, b⟩ := y
      have hb : b = true := by
        have := hg
        simp [good, firsts] at this
        exact this.1
      subst hb
      have hr := hbd (lo, hi) (hin _ (by simp [firsts]))
      dsimp only at hr
      obtain ⟨t, hc⟩ := cut_mid (lo, hi) (firsts post)
      have hf : firsts (((lo, hi), true) :: post) = (lo, hi) :: firsts post := rfl
      rw [hf, hc]
      obtain ⟨l, rfl⟩ : ∃ l : Nat, lo = (l : Int) := ⟨lo.toNat, by omega⟩
      obtain ⟨h, rfl⟩ : ∃ h : Nat, hi = (h : Int) := ⟨hi.toNat, by omega⟩
      refine (one_text l h (by omega) (by omega) W he hm hw).mono ?_
      rintro e' W' ⟨⟨y, rfl, rfl⟩, hb⟩
      exact ⟨⟨_, ⟨⟨post, e⟩, post, by rw [e]; simp, rfl⟩, rfl⟩, hb⟩
  · refine ⟨good x, rfl, ?_⟩
    rw [inner_text, firsts_good]
  · have hzn : ∀ xs, (∃ post, good x = xs ++ post ∧ (⟨#[]⟩ : ByteArray) = bytesOf (RS.midText 0 (firsts post))) → firsts xs = x := by
      rintro xs ⟨post, e, hz⟩
      have hp : post = [] := by
        cases post with
        | nil => rfl
        | cons y post =>
          have hz2 := congrArg (fun b : ByteArray => b.data.toList) hz
          simp only [bytesOf_toList] at hz2
          have hf : firsts (y :: post) = y.1 :: firsts post := rfl
          rw [hf, RS.midText] at hz2
          have := rgText_ne y.1
          simp at hz2
          exact absurd hz2.1 this
      subst hp
      rw [List.append_nil] at e
      rw [← e]
      exact firsts_good x
    rintro e w' ⟨⟨rfl, ⟨pre, y, ⟨post, e⟩, hy⟩ | ⟨xs, hz, hno⟩⟩ | ⟨v, xs, rfl, hz, hr, ht, hown⟩, hb⟩
    · exfalso
      have : y ∈ good x := by rw [e]; simp
      unfold good at this
      obtain ⟨r, _, rfl⟩ := List.mem_map.1 this
      cases hy
    · exfalso
      rw [hzn xs hz] at hno
      exact hno ⟨hx, rfl⟩
    · rw [hzn xs hz] at hown
      exact ⟨⟨v, rfl, hown⟩, hb⟩

end Go.Proofs.YtjbdlihlcoldlaaGreatDoor
