/- Rules' code in memory; the contract of RightProgram. -/
import Derived.Test.YtddjppkpgflbjaaDoorVmK
namespace VM

structure Ru where
  brk : Bool
  before : Co
  after : Co

/-- A program may be. -/
def rightProg (rs : List Ru) : Bool := decide (rs.length ≤ 20) && rs.all fun r => right r.before && right r.after

end VM
namespace Go.Proofs.YtddjppkpgflbjaaDoor
open Go.RowKit Go.Shelf

/-- A rule's five cells. -/
structure PairAt (B : Nat) (w : World) (r : VM.Ru) (sv iv sv2 iv2 : Value) : Prop where
  before : Small B w sv iv r.before
  after : Small B w sv2 iv2 r.after

theorem PairAt.below {B : Nat} {w w' : World} {r : VM.Ru} {sv iv sv2 iv2 : Value} (h : PairAt B w r sv iv sv2 iv2) (hb : Below B w w') (B' : Nat) (hB : B ≤ B') : PairAt B' w' r sv iv sv2 iv2 := ⟨h.before.below hb _ hB, h.after.below hb _ hB⟩

abbrev pairV (b : Bool) (sv iv sv2 iv2 : Value) : Value := .agg #[.bool b, sv, iv, sv2, iv2]

/-- A slice of rules' code. -/
def PairsAt (B : Nat) (w : World) (v : Value) (rs : List VM.Ru) : Prop :=
  ∃ ao cap, v = .slice ao rs.length cap ∧ rs.length ≤ cap ∧ (rs ≠ [] → ∃ b off, ao = some ⟨b, off, none⟩ ∧ b < B ∧ ∀ k (h : k < rs.length), ∃ sv iv sv2 iv2,
    (w.cell? ⟨b, off + k * 5, none⟩ = some (.bool rs[k].brk) ∧ w.cell? ⟨b, off + k * 5 + 1, none⟩ = some sv ∧ w.cell? ⟨b, off + k * 5 + 2, none⟩ = some iv ∧ w.cell? ⟨b, off + k * 5 + 3, none⟩ = some sv2 ∧ w.cell? ⟨b, off + k * 5 + 4, none⟩ = some iv2) ∧ PairAt B w rs[k] sv iv sv2 iv2)

theorem PairsAt.below {w w' : World} {B : Nat} {v : Value} {s : List VM.Ru} (h : PairsAt B w v s) (hb : Below B w w') (B' : Nat) (hB : B ≤ B') : PairsAt B' w' v s := by
  obtain ⟨ao, cap, rfl, hc, h⟩ := h
  refine ⟨ao, cap, rfl, hc, fun hz => ?_⟩
  obtain ⟨b, off, e, hbl, hc⟩ := h hz
  refine ⟨b, off, e, by omega, fun k hk => ?_⟩
  obtain ⟨sv, iv, sv2, iv2, ⟨h1, h2, h3, h4, h5⟩, h6⟩ := hc k hk
  exact ⟨sv, iv, sv2, iv2, ⟨(hb.cell (by exact hbl)).trans h1, (hb.cell (by exact hbl)).trans h2, (hb.cell (by exact hbl)).trans h3, (hb.cell (by exact hbl)).trans h4, (hb.cell (by exact hbl)).trans h5⟩, h6.below hb _ hB⟩

theorem Small.slices {B : Nat} {w : World} {sv iv : Value} {c : VM.Co} (h : Small B w sv iv c) : (∃ ao n cap, sv = .slice ao n cap) ∧ ∃ ao n cap, iv = .slice ao n cap := by
  obtain ⟨ao, cap, h1, -, -⟩ := h.code.1
  obtain ⟨ao2, cap2, h2, -, -⟩ := h.code.2
  exact ⟨⟨_, _, _, h1⟩, ⟨_, _, _, h2⟩⟩

set_option maxHeartbeats 4000000 in
set_option maxRecDepth 100000 in
theorem index_pairs (g : FuncId) (lb : Array Value) (eg : Enters g) (v : Value) (ss : List VM.Ru) (p : VM.Ru → Bool) (w : World) (hS : PairsAt w.heap.size w v ss) (hn : ss.length ≤ 100000)
    (hf : ∀ (k : Nat) (h : k < ss.length) (sv iv sv2 iv2 : Value) (W : World), Below w.heap.size w W → PairAt W.heap.size W ss[k] sv iv sv2 iv2 → Calls Tryd.prog g (#[pairV ss[k].brk sv iv sv2 iv2] ++ lb) W fun e W' => e = .returned (.bool (p ss[k])) ∧ Below W.heap.size W W') :
    Calls Tryd.prog 65 #[v, .func (.func g) #[] lb] w fun e w' => (∃ r : Int, e = .returned (.int .i64 r) ∧ decide (0 ≤ r) = ss.any p) ∧ Below w.heap.size w w' := by
  have eg' : ∀ args w, (callFunc g args).run Tryd.prog w = .ok (.enter g args) w := eg
  obtain ⟨ao, cap, rfl, hc, hcell⟩ := hS
  have HC : Hid _ := hcell
  have HF : Hid (∀ (k : Nat) (h : k < ss.length) (sv iv sv2 iv2 : Value) (W : World), Below w.heap.size w W → PairAt W.heap.size W ss[k] sv iv sv2 iv2 → Calls Tryd.prog g (#[pairV ss[k].brk sv iv sv2 iv2] ++ lb) W fun e W' => e = .returned (.bool (p ss[k])) ∧ Below W.heap.size W W') := hf
  obtain ⟨N, hN⟩ : ∃ N, N = ss.length := ⟨_, rfl⟩
  have HN : Hid (N = ss.length) := hN
  rw [← hN] at hn hc ⊢
  clear hcell hf hN eg
  go_enter Tryd.func65, Tryd.ntmps65
  go_wp2_with fail
  go_loopw [8] (fun i wr => ∃ k : Nat, i = .int .i64 k ∧ k ≤ N ∧ Below w.heap.size w wr ∧ ∀ j (hj : j < ss.length), j < k → p ss[j] = false) (fun i _ => N - (intOf i).toNat)
  case atStart => exact ⟨0, rfl, Nat.zero_le _, Below.refl _ _, fun j hj h => absurd h (by omega)⟩
  case round =>
    obtain ⟨k, rfl, hk, hb, hnone⟩ := hrel
    have HB : Hid (Below w.heap.size w wr) := hb
    have HNO : Hid (∀ j (hj : j < ss.length), j < k → p ss[j] = false) := hnone
    clear hb hnone
    by_cases hlt : k < N
    · have hks : k < ss.length := by have := HN.out; omega
      obtain ⟨b, off, rfl, hbw, hcs⟩ := HC.out (fun e => by rw [e] at hks; simp at hks)
      obtain ⟨sv, iv, sv2, iv2, ⟨i0, i1, i2, i3, i4⟩, hpa⟩ := hcs k hks
      have j0 := (HB.out.cell (p := ⟨b, off + k * 5, none⟩) (by exact hbw)).trans i0
      have j1 := (HB.out.cell (p := ⟨b, off + k * 5 + 1, none⟩) (by exact hbw)).trans i1
      have j2 := (HB.out.cell (p := ⟨b, off + k * 5 + 2, none⟩) (by exact hbw)).trans i2
      have j3 := (HB.out.cell (p := ⟨b, off + k * 5 + 3, none⟩) (by exact hbw)).trans i3
      have j4 := (HB.out.cell (p := ⟨b, off + k * 5 + 4, none⟩) (by exact hbw)).trans i4
      have C := HF.out k hks sv iv sv2 iv2 wr HB.out (hpa.below HB.out _ HB.out.size)
      have HP : Hid (∀ q, p ss[k] = q → q = true → ss.any p = true) := fun q h1 h2 => any_of_get hks (h1.trans h2)
      have HP2 : Hid (p ss[k] = false → ∀ j (hj : j < ss.length), j < k + 1 → p ss[j] = false) := fun h j hj hlt => by
        rcases Nat.lt_or_ge j k with h1 | h1
        · exact HNO.out j hj h1
        · obtain rfl : j = k := by omega
          exact h
      obtain ⟨q, hq⟩ : ∃ q, q = p ss[k] := ⟨_, rfl⟩
      have HQ : Hid (q = p ss[k]) := hq
      rw [← hq] at C
      clear hcs i0 i1 i2 i3 i4 hq hpa
      generalize ss[k].brk = br at C j0
      have hkz : (k : Int) < (N : Int) := by omega
      go_wp2_with fail
      refine C.mono ?_
      rintro e w1 ⟨rfl, hb1⟩
      have HB1 : Hid (Below w.heap.size w w1) := HB.out.trans (hb1.mono HB.out.size)
      clear C j0 j1 j2 j3 j4 hb1
      cases q with
      | true =>
        go_wp2_with fail
        go_ret
        exact ⟨⟨k, rfl, by rw [HP.out _ HQ.out.symm rfl]; simp⟩, HB1.out⟩
      | false =>
        go_wp2_with fail
        case roundEnd => exact ⟨⟨k + 1, by go_num, by omega, HB1.out, HP2.out HQ.out.symm⟩, by simp [intOf]; omega⟩
    · have hkz : ¬ ((k : Int) < (N : Int)) := by omega
      go_wp2_with fail
      go_ret
      exact ⟨⟨-1, rfl, by rw [any_of_none (fun j hj => HNO.out j hj (by have := HN.out; omega))]; decide⟩, HB.out⟩

set_option maxHeartbeats 2000000 in
set_option maxRecDepth 100000 in
theorem contains_pairs (g : FuncId) (lb : Array Value) (eg : Enters g) (v : Value) (ss : List VM.Ru) (p : VM.Ru → Bool) (w : World) (hS : PairsAt w.heap.size w v ss) (hn : ss.length ≤ 100000)
    (hf : ∀ (k : Nat) (h : k < ss.length) (sv iv sv2 iv2 : Value) (W : World), Below w.heap.size w W → PairAt W.heap.size W ss[k] sv iv sv2 iv2 → Calls Tryd.prog g (#[pairV ss[k].brk sv iv sv2 iv2] ++ lb) W fun e W' => e = .returned (.bool (p ss[k])) ∧ Below W.heap.size W W') :
    Calls Tryd.prog 53 #[v, .func (.func g) #[] lb] w fun e w' => e = .returned (.bool (ss.any p)) ∧ Below w.heap.size w w' := by
  have C := index_pairs g lb eg v ss p w hS hn hf
  clear hf hS
  go_enter Tryd.func53, Tryd.ntmps53
  go_wp2_with fail
  refine C.mono ?_
  rintro e w1 ⟨⟨r, rfl, hr⟩, hb⟩
  have HR : Hid (decide (0 ≤ r) = ss.any p) := hr
  have HB : Hid (Below w.heap.size w w1) := hb
  clear C hr hb
  go_wp2_with fail
  all_goals go_ret
  all_goals refine ⟨ret_bool ?_, HB.out⟩
  all_goals first | exact HR.out | (rw [← HR.out]; simp; omega)

theorem enters54 : Enters 54 := enters_of Tryd.func54 (by kernel_rfl) rfl
theorem enters36 : Enters 36 := enters_of Tryd.func36 (by kernel_rfl) rfl

set_option maxHeartbeats 2000000 in
set_option maxRecDepth 100000 in
theorem not_pair (g : FuncId) (lb : Array Value) (eg : Enters g) (b : Nat) (br : Bool) (sv iv sv2 iv2 : Value) (q : Bool) (w : World) (hc : w.cell? ⟨b, 0, none⟩ = some (.func (.func g) #[] lb)) (hb : b < w.heap.size)
    (C : ∀ W, Below w.heap.size w W → Calls Tryd.prog g (#[pairV br sv iv sv2 iv2] ++ lb) W fun e W' => e = .returned (.bool q) ∧ Below W.heap.size W W') :
    Calls Tryd.prog 54 (#[pairV br sv iv sv2 iv2] ++ #[.pointer (some ⟨b, 0, none⟩)]) w fun e w' => e = .returned (.bool (!q)) ∧ Below w.heap.size w w' := by
  have eg' : ∀ args w, (callFunc g args).run Tryd.prog w = .ok (.enter g args) w := eg
  have hb0 : Below w.heap.size w (w.alloc (.cells #[.bool br, sv, iv, sv2, iv2] 57)) := (Below.refl _ w).alloc (Nat.le_refl _) _
  have C1 := C _ hb0
  have hc1 := (hb0.cell (p := ⟨b, 0, none⟩) (by exact hb)).trans hc
  have HB0 : Hid (Below w.heap.size w (w.alloc (.cells #[.bool br, sv, iv, sv2, iv2] 57))) := hb0
  clear eg C hb0
  go_enter Tryd.func54, Tryd.ntmps54
  go_wp2_with fail
  refine C1.mono ?_
  rintro e w1 ⟨rfl, hb⟩
  have HB : Hid (Below w.heap.size w w1) := HB0.out.trans (hb.mono HB0.out.size)
  clear C1 hb
  go_wp2_with fail
  go_ret
  exact ⟨rfl, HB.out⟩

set_option maxHeartbeats 2000000 in
set_option maxRecDepth 100000 in
theorem all_pairs (g : FuncId) (lb : Array Value) (eg : Enters g) (v : Value) (ss : List VM.Ru) (p : VM.Ru → Bool) (w : World) (hS : PairsAt w.heap.size w v ss) (hn : ss.length ≤ 100000)
    (hf : ∀ (k : Nat) (h : k < ss.length) (sv iv sv2 iv2 : Value) (W : World), Below w.heap.size w W → PairAt W.heap.size W ss[k] sv iv sv2 iv2 → Calls Tryd.prog g (#[pairV ss[k].brk sv iv sv2 iv2] ++ lb) W fun e W' => e = .returned (.bool (p ss[k])) ∧ Below W.heap.size W W') :
    Calls Tryd.prog 35 #[v, .func (.func g) #[] lb] w fun e w' => e = .returned (.bool (ss.all p)) ∧ Below w.heap.size w w' := by
  have hb0 : Below w.heap.size w (w.alloc (.cells #[.func (.func g) #[] lb] 72)) := (Below.refl _ w).alloc (Nat.le_refl _) _
  have C := contains_pairs 54 #[.pointer (some ⟨w.heap.size, 0, none⟩)] enters54 v ss (fun x => !p x) (w.alloc (.cells #[.func (.func g) #[] lb] 72)) (hS.below hb0 _ hb0.size) hn (fun k hk sv iv sv2 iv2 W hW hp => by
    have hlt : w.heap.size < (w.alloc (.cells #[.func (.func g) #[] lb] 72)).heap.size := by simp
    exact not_pair g lb eg w.heap.size _ sv iv sv2 iv2 (p ss[k]) W ((hW.cell (p := ⟨w.heap.size, 0, none⟩) hlt).trans (by simp)) (by have := hW.size; omega) (fun W' hW' => hf k hk sv iv sv2 iv2 W' ((hb0.trans (hW.mono hb0.size)).trans (hW'.mono (by have := hW.size; omega))) (hp.below hW' _ hW'.size)))
  have HA : Hid ((!ss.any fun x => !p x) = ss.all p) := all_not ss p
  generalize (ss.any fun x => !p x) = q at C HA
  have HB0 : Hid (Below w.heap.size w (w.alloc (.cells #[.func (.func g) #[] lb] 72))) := hb0
  clear hf hS hb0
  go_enter Tryd.func35, Tryd.ntmps35
  go_wp2_with fail
  refine C.mono ?_
  rintro e w1 ⟨rfl, hb⟩
  have HB : Hid (Below w.heap.size w w1) := HB0.out.trans (hb.mono HB0.out.size)
  clear C hb
  go_wp2_with fail
  go_ret
  exact ⟨ret_bool HA.out, HB.out⟩

set_option maxHeartbeats 4000000 in
set_option maxRecDepth 100000 in
/-- RightProgram's closure. -/
theorem right_pair (r : VM.Ru) (sv iv sv2 iv2 : Value) (w : World) (h : PairAt w.heap.size w r sv iv sv2 iv2) :
    Calls Tryd.prog 36 (#[pairV r.brk sv iv sv2 iv2] ++ #[]) w fun e w' => e = .returned (.bool (VM.right r.before && VM.right r.after)) ∧ Below w.heap.size w w' := by
  have hb0 : Below w.heap.size w (w.alloc (.cells #[.bool r.brk, sv, iv, sv2, iv2] 57)) := (Below.refl _ w).alloc (Nat.le_refl _) _
  have C1 := codeRight_any sv iv r.before _ (h.before.below hb0 _ hb0.size)
  have C2 : ∀ w1, Below (w.alloc (.cells #[.bool r.brk, sv, iv, sv2, iv2] 57)).heap.size (w.alloc (.cells #[.bool r.brk, sv, iv, sv2, iv2] 57)) w1 → Calls Tryd.prog 10 #[.agg #[sv2, iv2]] w1 fun e w' => e = .returned (.bool (VM.right r.after)) ∧ Below w1.heap.size w1 w' := fun w1 hw1 =>
    codeRight_any sv2 iv2 r.after w1 (h.after.below (hb0.trans (hw1.mono hb0.size)) _ (Nat.le_trans hb0.size hw1.size))
  have c3 : (w.alloc (.cells #[.bool r.brk, sv, iv, sv2, iv2] 57)).cell? ⟨w.heap.size, 3, none⟩ = some sv2 := by simp
  have c4 : (w.alloc (.cells #[.bool r.brk, sv, iv, sv2, iv2] 57)).cell? ⟨w.heap.size, 4, none⟩ = some iv2 := by simp
  have HB0 : Hid (Below w.heap.size w (w.alloc (.cells #[.bool r.brk, sv, iv, sv2, iv2] 57))) := hb0
  generalize VM.right r.before = q1 at C1
  generalize VM.right r.after = q2 at C2
  generalize r.brk = br at *
  clear h hb0
  go_enter Tryd.func36, Tryd.ntmps36
  go_wp2_with fail
  refine C1.mono ?_
  rintro e w1 ⟨rfl, hb1⟩
  have D2 := C2 w1 hb1
  have d3 := (hb1.cell (p := ⟨w.heap.size, 3, none⟩) (by simp)).trans c3
  have d4 := (hb1.cell (p := ⟨w.heap.size, 4, none⟩) (by simp)).trans c4
  have HB1 : Hid (Below w.heap.size w w1) := HB0.out.trans (hb1.mono HB0.out.size)
  clear C1 C2 hb1 c3 c4
  cases q1 with
  | false =>
    clear D2
    go_wp2_with fail
    go_ret
    exact ⟨rfl, HB1.out⟩
  | true =>
    go_wp2_with fail
    refine D2.mono ?_
    rintro e w2 ⟨rfl, hb2⟩
    have HB2 : Hid (Below w.heap.size w w2) := HB1.out.trans (hb2.mono HB1.out.size)
    clear D2 hb2
    go_wp2_with fail
    go_ret
    exact ⟨rfl, HB2.out⟩

set_option maxHeartbeats 4000000 in
set_option maxRecDepth 100000 in
theorem progRight_any (rv : Value) (el : Bool) (rs : List VM.Ru) (w : World) (hR : PairsAt w.heap.size w rv rs) :
    Calls Tryd.prog 12 #[.agg #[rv, .bool el]] w fun e w' => e = .returned (.bool (VM.rightProg rs)) ∧ Below w.heap.size w w' := by
  have hb0 : Below w.heap.size w (w.alloc (.cells #[rv, .bool el] 28)) := (Below.refl _ w).alloc (Nat.le_refl _) _
  have C : rs.length ≤ 20 → Calls Tryd.prog 35 #[rv, .func (.func 36) #[] #[]] (w.alloc (.cells #[rv, .bool el] 28)) fun e w' => e = .returned (.bool (rs.all fun r => VM.right r.before && VM.right r.after)) ∧ Below (w.alloc (.cells #[rv, .bool el] 28)).heap.size (w.alloc (.cells #[rv, .bool el] 28)) w' := fun h =>
    all_pairs 36 #[] enters36 rv rs (fun r => VM.right r.before && VM.right r.after) _ (hR.below hb0 _ hb0.size) (by omega) (fun k _ sv iv sv2 iv2 W _ hp => right_pair _ sv iv sv2 iv2 W hp)
  have HA : Hid (VM.rightProg rs = (decide (rs.length ≤ 20) && rs.all fun r => VM.right r.before && VM.right r.after)) := rfl
  have HB0 : Hid (Below w.heap.size w (w.alloc (.cells #[rv, .bool el] 28))) := hb0
  obtain ⟨ao, cap, hrv, -, -⟩ := hR
  generalize VM.rightProg rs = A at HA ⊢
  generalize (rs.all fun r => VM.right r.before && VM.right r.after) = q at C HA
  generalize rs.length = n at *
  clear hb0
  by_cases h1 : n ≤ 20
  · have D := C h1
    clear C
    subst hrv
    have h1' : (n : Int) ≤ 20 := by omega
    go_enter Tryd.func12, Tryd.ntmps12
    go_wp2_with fail
    refine D.mono ?_
    rintro e w1 ⟨rfl, hb⟩
    have HB : Hid (Below w.heap.size w w1) := HB0.out.trans (hb.mono HB0.out.size)
    clear D hb
    go_wp2_with fail
    go_ret
    exact ⟨ret_bool (by rw [HA.out]; simp [h1]), HB.out⟩
  · clear C
    subst hrv
    have h1' : ¬ (n : Int) ≤ 20 := by omega
    go_enter Tryd.func12, Tryd.ntmps12
    go_wp2_with fail
    go_ret
    exact ⟨ret_bool (by rw [HA.out]; simp [h1]), HB0.out⟩

end Go.Proofs.YtddjppkpgflbjaaDoor
