/- slices.ContainsFunc and vm.all at sets and at instructions. -/
import Derived.Test.YtddjppkpgflbjaaDoorVmC
namespace Go.Proofs.YtddjppkpgflbjaaDoor
open Go.RowKit Go.Shelf

/-- g may be entered. -/
abbrev Enters (g : FuncId) : Prop := ∀ args w, (callFunc g args).run Tryd.prog w = .ok (.enter g args) w

theorem any_of_get {α : Type} {p : α → Bool} {l : List α} {k : Nat} (hk : k < l.length) (h : p l[k] = true) : l.any p = true :=
  List.any_eq_true.2 ⟨_, List.getElem_mem hk, h⟩

theorem any_of_none {α : Type} {p : α → Bool} {l : List α} (h : ∀ k (hk : k < l.length), p l[k] = false) : l.any p = false := by
  rw [List.any_eq_false]
  intro x hx
  obtain ⟨k, hk, rfl⟩ := List.getElem_of_mem hx
  rw [h k hk]
  decide

set_option maxHeartbeats 2000000 in
set_option maxRecDepth 100000 in
theorem index_sets (g : FuncId) (lb : Array Value) (eg : Enters g) (v : Value) (ss : List (List RS.Rg)) (p : List RS.Rg → Bool) (w : World) (hS : SetsAt w.heap.size w v ss) (hn : ss.length ≤ 100000)
    (hf : ∀ (k : Nat) (h : k < ss.length) (u : Value) (W : World), Below w.heap.size w W → RgAt W.heap.size W u ss[k] → Calls Tryd.prog g (#[u] ++ lb) W fun e W' => e = .returned (.bool (p ss[k])) ∧ Below W.heap.size W W') :
    Calls Tryd.prog 59 #[v, .func (.func g) #[] lb] w fun e w' => (∃ r : Int, e = .returned (.int .i64 r) ∧ decide (0 ≤ r) = ss.any p) ∧ Below w.heap.size w w' := by
  have eg' : ∀ args w, (callFunc g args).run Tryd.prog w = .ok (.enter g args) w := eg
  obtain ⟨ao, cap, rfl, hc, hcell⟩ := hS
  have HC : Hid (ss ≠ [] → ∃ b off, ao = some ⟨b, off, none⟩ ∧ b < w.heap.size ∧ ∀ k (h : k < ss.length), ∃ u, w.cell? ⟨b, off + k, none⟩ = some u ∧ RgAt w.heap.size w u ss[k]) := hcell
  have HF : Hid (∀ (k : Nat) (h : k < ss.length) (u : Value) (W : World), Below w.heap.size w W → RgAt W.heap.size W u ss[k] → Calls Tryd.prog g (#[u] ++ lb) W fun e W' => e = .returned (.bool (p ss[k])) ∧ Below W.heap.size W W') := hf
  obtain ⟨N, hN⟩ : ∃ N, N = ss.length := ⟨_, rfl⟩
  have HN : Hid (N = ss.length) := hN
  rw [← hN] at hn hc ⊢
  clear hcell hf hN eg
  go_enter Tryd.func59, Tryd.ntmps59
  go_wp2_with fail
  go_loopw [8] (fun i wr => ∃ k : Nat, i = .int .i64 k ∧ k ≤ N ∧ Below w.heap.size w wr ∧ ∀ j (hj : j < ss.length), j < k → p ss[j] = false) (fun i _ => N - (intOf i).toNat)
  case atStart => exact ⟨0, rfl, Nat.zero_le _, Below.refl _ _, fun j hj h => absurd h (by omega)⟩
  case round =>
    obtain ⟨k, rfl, hk, hb, hnone⟩ := hrel
    have HB : Hid (Below w.heap.size w wr) := hb
    have HNO : Hid (∀ j (hj : j < ss.length), j < k → p ss[j] = false) := hnone
    clear hb hnone
    by_cases hlt : k < N
    · have hks : k < ss.length := by have := HN.out; omega
      obtain ⟨b, off, rfl, hbw, hcs⟩ := HC.out (fun e => by rw [e] at hks; simp at hks)
      obtain ⟨u, hu, hrg⟩ := hcs k hks
      have hu' := (HB.out.cell (p := ⟨b, off + k, none⟩) (by exact hbw)).trans hu
      have C := HF.out k hks u wr HB.out (hrg.below HB.out _ HB.out.size)
      have HP : Hid (∀ q, p ss[k] = q → q = true → ss.any p = true) := fun q h1 h2 => any_of_get hks (h1.trans h2)
      have HP2 : Hid (p ss[k] = false → ∀ j (hj : j < ss.length), j < k + 1 → p ss[j] = false) := fun h j hj hlt => by
        rcases Nat.lt_or_ge j k with h1 | h1
        · exact HNO.out j hj h1
        · obtain rfl : j = k := by omega
          exact h
      obtain ⟨q, hq⟩ : ∃ q, q = p ss[k] := ⟨_, rfl⟩
      have HQ : Hid (q = p ss[k]) := hq
      rw [← hq] at C
      clear hcs hu hrg hq
      have hkz : (k : Int) < (N : Int) := by omega
      go_wp2_with fail
      refine C.mono ?_
      rintro e w1 ⟨rfl, hb1⟩
      have HB1 : Hid (Below w.heap.size w w1) := HB.out.trans (hb1.mono HB.out.size)
      clear C hu' hb1
      cases q with
      | true =>
        go_wp2_with fail
        go_ret
        exact ⟨⟨k, rfl, by rw [HP.out _ HQ.out.symm rfl]; simp⟩, HB1.out⟩
      | false =>
        go_wp2_with fail
        case roundEnd => exact ⟨⟨k + 1, by go_num, by omega, HB1.out, HP2.out HQ.out.symm⟩, by simp [intOf]; omega⟩
    · have hkz : ¬ ((k : Int) < (N : Int)) := by omega
      go_wp2_with fail
      go_ret
      exact ⟨⟨-1, rfl, by rw [any_of_none (fun j hj => HNO.out j hj (by have := HN.out; omega))]; decide⟩, HB.out⟩

set_option maxHeartbeats 2000000 in
set_option maxRecDepth 100000 in
theorem contains_sets (g : FuncId) (lb : Array Value) (eg : Enters g) (v : Value) (ss : List (List RS.Rg)) (p : List RS.Rg → Bool) (w : World) (hS : SetsAt w.heap.size w v ss) (hn : ss.length ≤ 100000)
    (hf : ∀ (k : Nat) (h : k < ss.length) (u : Value) (W : World), Below w.heap.size w W → RgAt W.heap.size W u ss[k] → Calls Tryd.prog g (#[u] ++ lb) W fun e W' => e = .returned (.bool (p ss[k])) ∧ Below W.heap.size W W') :
    Calls Tryd.prog 39 #[v, .func (.func g) #[] lb] w fun e w' => e = .returned (.bool (ss.any p)) ∧ Below w.heap.size w w' := by
  have C := index_sets g lb eg v ss p w hS hn hf
  clear hf hS
  go_enter Tryd.func39, Tryd.ntmps39
  go_wp2_with fail
  refine C.mono ?_
  rintro e w1 ⟨⟨r, rfl, hr⟩, hb⟩
  have HR : Hid (decide (0 ≤ r) = ss.any p) := hr
  have HB : Hid (Below w.heap.size w w1) := hb
  clear C hr hb
  go_wp2_with fail
  all_goals go_ret
  all_goals refine ⟨ret_bool ?_, HB.out⟩
  all_goals first | exact HR.out | (rw [← HR.out]; simp; omega)

set_option maxHeartbeats 2000000 in
set_option maxRecDepth 100000 in
theorem index_ins (g : FuncId) (lb : Array Value) (eg : Enters g) (v : Value) (ss : List VM.In) (p : VM.In → Bool) (w : World) (hS : InsAt w.heap.size w v ss) (hn : ss.length ≤ 100000)
    (hf : ∀ (k : Nat) (h : k < ss.length) (W : World), Below w.heap.size w W → Calls Tryd.prog g (#[.agg #[.int .i64 ss[k].op, .int .i64 ss[k].a, .int .i64 ss[k].b]] ++ lb) W fun e W' => e = .returned (.bool (p ss[k])) ∧ Below W.heap.size W W') :
    Calls Tryd.prog 42 #[v, .func (.func g) #[] lb] w fun e w' => (∃ r : Int, e = .returned (.int .i64 r) ∧ decide (0 ≤ r) = ss.any p) ∧ Below w.heap.size w w' := by
  have eg' : ∀ args w, (callFunc g args).run Tryd.prog w = .ok (.enter g args) w := eg
  obtain ⟨ao, cap, rfl, hc, hcell⟩ := hS
  have HC : Hid _ := hcell
  have HF : Hid (∀ (k : Nat) (h : k < ss.length) (W : World), Below w.heap.size w W → Calls Tryd.prog g (#[.agg #[.int .i64 ss[k].op, .int .i64 ss[k].a, .int .i64 ss[k].b]] ++ lb) W fun e W' => e = .returned (.bool (p ss[k])) ∧ Below W.heap.size W W') := hf
  obtain ⟨N, hN⟩ : ∃ N, N = ss.length := ⟨_, rfl⟩
  have HN : Hid (N = ss.length) := hN
  rw [← hN] at hn hc ⊢
  clear hcell hf hN eg
  go_enter Tryd.func42, Tryd.ntmps42
  go_wp2_with fail
  go_loopw [8] (fun i wr => ∃ k : Nat, i = .int .i64 k ∧ k ≤ N ∧ Below w.heap.size w wr ∧ ∀ j (hj : j < ss.length), j < k → p ss[j] = false) (fun i _ => N - (intOf i).toNat)
  case atStart => exact ⟨0, rfl, Nat.zero_le _, Below.refl _ _, fun j hj h => absurd h (by omega)⟩
  case round =>
    obtain ⟨k, rfl, hk, hb, hnone⟩ := hrel
    have HB : Hid (Below w.heap.size w wr) := hb
    have HNO : Hid (∀ j (hj : j < ss.length), j < k → p ss[j] = false) := hnone
    clear hb hnone
    by_cases hlt : k < N
    · have hks : k < ss.length := by have := HN.out; omega
      obtain ⟨b, off, rfl, hbw, hcs⟩ := HC.out (fun e => by rw [e] at hks; simp at hks)
      obtain ⟨i0, i1, i2⟩ := hcs k hks
      have j0 := (HB.out.cell (p := ⟨b, off + k * 3, none⟩) (by exact hbw)).trans i0
      have j1 := (HB.out.cell (p := ⟨b, off + k * 3 + 1, none⟩) (by exact hbw)).trans i1
      have j2 := (HB.out.cell (p := ⟨b, off + k * 3 + 2, none⟩) (by exact hbw)).trans i2
      have C := HF.out k hks wr HB.out
      have HP : Hid (∀ q, p ss[k] = q → q = true → ss.any p = true) := fun q h1 h2 => any_of_get hks (h1.trans h2)
      have HP2 : Hid (p ss[k] = false → ∀ j (hj : j < ss.length), j < k + 1 → p ss[j] = false) := fun h j hj hlt => by
        rcases Nat.lt_or_ge j k with h1 | h1
        · exact HNO.out j hj h1
        · obtain rfl : j = k := by omega
          exact h
      obtain ⟨q, hq⟩ : ∃ q, q = p ss[k] := ⟨_, rfl⟩
      have HQ : Hid (q = p ss[k]) := hq
      rw [← hq] at C
      clear hcs i0 i1 i2 hq
      generalize ss[k].op = o at C j0
      generalize ss[k].a = a at C j1
      generalize ss[k].b = b' at C j2
      have hkz : (k : Int) < (N : Int) := by omega
      go_wp2_with fail
      refine C.mono ?_
      rintro e w1 ⟨rfl, hb1⟩
      have HB1 : Hid (Below w.heap.size w w1) := HB.out.trans (hb1.mono HB.out.size)
      clear C j0 j1 j2 hb1
      cases q with
      | true =>
        go_wp2_with fail
        go_ret
        exact ⟨⟨k, rfl, by rw [HP.out _ HQ.out.symm rfl]; simp⟩, HB1.out⟩
      | false =>
        go_wp2_with fail
        case roundEnd => exact ⟨⟨k + 1, by go_num, by omega, HB1.out, HP2.out HQ.out.symm⟩, by simp [intOf]; omega⟩
    · have hkz : ¬ ((k : Int) < (N : Int)) := by omega
      go_wp2_with fail
      go_ret
      exact ⟨⟨-1, rfl, by rw [any_of_none (fun j hj => HNO.out j hj (by have := HN.out; omega))]; decide⟩, HB.out⟩

set_option maxHeartbeats 2000000 in
set_option maxRecDepth 100000 in
theorem contains_ins (g : FuncId) (lb : Array Value) (eg : Enters g) (v : Value) (ss : List VM.In) (p : VM.In → Bool) (w : World) (hS : InsAt w.heap.size w v ss) (hn : ss.length ≤ 100000)
    (hf : ∀ (k : Nat) (h : k < ss.length) (W : World), Below w.heap.size w W → Calls Tryd.prog g (#[.agg #[.int .i64 ss[k].op, .int .i64 ss[k].a, .int .i64 ss[k].b]] ++ lb) W fun e W' => e = .returned (.bool (p ss[k])) ∧ Below W.heap.size W W') :
    Calls Tryd.prog 20 #[v, .func (.func g) #[] lb] w fun e w' => e = .returned (.bool (ss.any p)) ∧ Below w.heap.size w w' := by
  have C := index_ins g lb eg v ss p w hS hn hf
  clear hf hS
  go_enter Tryd.func20, Tryd.ntmps20
  go_wp2_with fail
  refine C.mono ?_
  rintro e w1 ⟨⟨r, rfl, hr⟩, hb⟩
  have HR : Hid (decide (0 ≤ r) = ss.any p) := hr
  have HB : Hid (Below w.heap.size w w1) := hb
  clear C hr hb
  go_wp2_with fail
  all_goals go_ret
  all_goals refine ⟨ret_bool ?_, HB.out⟩
  all_goals first | exact HR.out | (rw [← HR.out]; simp; omega)

end Go.Proofs.YtddjppkpgflbjaaDoor

namespace Go.Proofs.YtddjppkpgflbjaaDoor
open Go.RowKit Go.Shelf

theorem num_any (x : Int) (n : Nat) (w : World) : Calls Tryd.prog 52 #[.int .i64 x, .int .i64 (n : Nat)] w fun e w' => e = .returned (.bool (VM.isNum x n)) ∧ w' = w := by
  have HN : Hid (VM.isNum x n = (decide (0 ≤ x) && decide (x < n))) := rfl
  go_enter Tryd.func52, Tryd.ntmps52
  go_wp2_with fail
  all_goals go_ret
  all_goals refine ⟨ret_bool ?_, rfl⟩
  all_goals rw [HN.out, Bool.eq_iff_iff]
  all_goals simp
  all_goals omega

set_option maxHeartbeats 2000000 in
set_option maxRecDepth 100000 in
theorem rightInst_any (x : VM.In) (n m : Nat) (w : World) :
    Calls Tryd.prog 32 #[.agg #[.int .i64 x.op, .int .i64 x.a, .int .i64 x.b], .int .i64 (n : Nat), .int .i64 (m : Nat)] w fun e w' => e = .returned (.bool (VM.rightIn n m x)) ∧ Below w.heap.size w w' := by
  obtain ⟨o, a, b⟩ := x
  dsimp only
  have HB : Hid (Below w.heap.size w (w.alloc (.cells #[.int .i64 o, .int .i64 a, .int .i64 b] 50))) := (Below.refl _ w).alloc (Nat.le_refl _) _
  by_cases h1 : o = 1
  · subst h1
    have C := num_any a m (w.alloc (.cells #[.int .i64 1, .int .i64 a, .int .i64 b] 50))
    have HR : Hid (VM.rightIn n m ⟨1, a, b⟩ = (VM.isNum a m && decide (b = 0))) := rfl
    generalize VM.isNum a m = q at C HR
    go_enter Tryd.func32, Tryd.ntmps32
    go_wp2_with fail
    refine C.mono ?_
    rintro e w' ⟨rfl, rfl⟩
    clear C
    cases q
    all_goals go_wp2_with fail
    all_goals go_ret
    all_goals refine ⟨ret_bool ?_, HB.out⟩
    all_goals rw [HR.out, Bool.eq_iff_iff]
    all_goals simp
  by_cases h2 : o = 2
  · subst h2
    have C := num_any a n (w.alloc (.cells #[.int .i64 2, .int .i64 a, .int .i64 b] 50))
    have C2 := num_any b n (w.alloc (.cells #[.int .i64 2, .int .i64 a, .int .i64 b] 50))
    have HR : Hid (VM.rightIn n m ⟨2, a, b⟩ = (VM.isNum a n && VM.isNum b n)) := rfl
    generalize VM.isNum a n = q at C HR
    generalize VM.isNum b n = q2 at C2 HR
    go_enter Tryd.func32, Tryd.ntmps32
    go_wp2_with fail
    refine C.mono ?_
    rintro e w' ⟨rfl, rfl⟩
    clear C
    cases q
    · clear C2
      go_wp2_with fail
      go_ret
      exact ⟨ret_bool (by rw [HR.out]; rfl), HB.out⟩
    · go_wp2_with fail
      refine C2.mono ?_
      rintro e w' ⟨rfl, rfl⟩
      clear C2
      go_wp2_with fail
      go_ret
      exact ⟨ret_bool (by rw [HR.out]; rfl), HB.out⟩
  by_cases h3 : o = 3
  · subst h3
    have C := num_any a n (w.alloc (.cells #[.int .i64 3, .int .i64 a, .int .i64 b] 50))
    have HR : Hid (VM.rightIn n m ⟨3, a, b⟩ = (VM.isNum a n && decide (b = 0))) := rfl
    generalize VM.isNum a n = q at C HR
    go_enter Tryd.func32, Tryd.ntmps32
    go_wp2_with fail
    refine C.mono ?_
    rintro e w' ⟨rfl, rfl⟩
    clear C
    cases q
    all_goals go_wp2_with fail
    all_goals go_ret
    all_goals refine ⟨ret_bool ?_, HB.out⟩
    all_goals rw [HR.out, Bool.eq_iff_iff]
    all_goals simp
  by_cases h4 : o = 4
  · subst h4
    have HR : Hid (VM.rightIn n m ⟨4, a, b⟩ = (decide (a = 0) && decide (b = 0))) := rfl
    by_cases ha : a = 0
    · subst ha
      go_enter Tryd.func32, Tryd.ntmps32
      go_wp2_with fail
      go_ret
      refine ⟨ret_bool ?_, HB.out⟩
      rw [HR.out, Bool.eq_iff_iff]
      simp
    · have ha' : (a == 0) = false := by simp [ha]
      go_enter Tryd.func32, Tryd.ntmps32
      go_wp2_with fail
      go_ret
      refine ⟨ret_bool ?_, HB.out⟩
      rw [HR.out]
      simp [ha]
  by_cases h5 : o = 5
  · subst h5
    have HR : Hid (VM.rightIn n m ⟨5, a, b⟩ = (decide (a = 0) && decide (b = 0))) := rfl
    by_cases ha : a = 0
    · subst ha
      go_enter Tryd.func32, Tryd.ntmps32
      go_wp2_with fail
      go_ret
      refine ⟨ret_bool ?_, HB.out⟩
      rw [HR.out, Bool.eq_iff_iff]
      simp
    · have ha' : (a == 0) = false := by simp [ha]
      go_enter Tryd.func32, Tryd.ntmps32
      go_wp2_with fail
      go_ret
      refine ⟨ret_bool ?_, HB.out⟩
      rw [HR.out]
      simp [ha]
  · have HR : Hid (VM.rightIn n m ⟨o, a, b⟩ = false) := by show VM.rightIn n m ⟨o, a, b⟩ = false; unfold VM.rightIn; simp [h1, h2, h3, h4, h5]
    have e1 : (o == 1) = false := by simp [h1]
    have e2 : (o == 2) = false := by simp [h2]
    have e3 : (o == 3) = false := by simp [h3]
    have e4 : (o == 4) = false := by simp [h4]
    have e5 : (o == 5) = false := by simp [h5]
    go_enter Tryd.func32, Tryd.ntmps32
    go_wp2_with fail
    go_ret
    refine ⟨ret_bool ?_, HB.out⟩
    rw [HR.out]

theorem enters29 : Enters 29 := enters_of Tryd.func29 (by kernel_rfl) rfl
theorem enters31 : Enters 31 := enters_of Tryd.func31 (by kernel_rfl) rfl
theorem enters50 : Enters 50 := enters_of Tryd.func50 (by kernel_rfl) rfl
theorem enters51 : Enters 51 := enters_of Tryd.func51 (by kernel_rfl) rfl
theorem enters40 : Enters 40 := enters_of Tryd.func40 (by kernel_rfl) rfl
theorem enters21 : Enters 21 := enters_of Tryd.func21 (by kernel_rfl) rfl

set_option maxHeartbeats 2000000 in
set_option maxRecDepth 100000 in
theorem not_set (g : FuncId) (lb : Array Value) (eg : Enters g) (b : Nat) (u : Value) (q : Bool) (w : World) (hc : w.cell? ⟨b, 0, none⟩ = some (.func (.func g) #[] lb))
    (C : Calls Tryd.prog g (#[u] ++ lb) w fun e W' => e = .returned (.bool q) ∧ Below w.heap.size w W') :
    Calls Tryd.prog 50 (#[u] ++ #[.pointer (some ⟨b, 0, none⟩)]) w fun e w' => e = .returned (.bool (!q)) ∧ Below w.heap.size w w' := by
  have eg' : ∀ args w, (callFunc g args).run Tryd.prog w = .ok (.enter g args) w := eg
  clear eg
  go_enter Tryd.func50, Tryd.ntmps50
  go_wp2_with fail
  refine C.mono ?_
  rintro e w1 ⟨rfl, hb⟩
  have HB : Hid (Below w.heap.size w w1) := hb
  clear C hb
  go_wp2_with fail
  go_ret
  exact ⟨rfl, HB.out⟩

set_option maxHeartbeats 2000000 in
set_option maxRecDepth 100000 in
theorem not_in (g : FuncId) (lb : Array Value) (eg : Enters g) (b : Nat) (o a c : Int) (q : Bool) (w : World) (hc : w.cell? ⟨b, 0, none⟩ = some (.func (.func g) #[] lb)) (hb : b < w.heap.size)
    (C : ∀ W, Below w.heap.size w W → Calls Tryd.prog g (#[.agg #[.int .i64 o, .int .i64 a, .int .i64 c]] ++ lb) W fun e W' => e = .returned (.bool q) ∧ Below W.heap.size W W') :
    Calls Tryd.prog 51 (#[.agg #[.int .i64 o, .int .i64 a, .int .i64 c]] ++ #[.pointer (some ⟨b, 0, none⟩)]) w fun e w' => e = .returned (.bool (!q)) ∧ Below w.heap.size w w' := by
  have eg' : ∀ args w, (callFunc g args).run Tryd.prog w = .ok (.enter g args) w := eg
  have hb0 : Below w.heap.size w (w.alloc (.cells #[.int .i64 o, .int .i64 a, .int .i64 c] 50)) := (Below.refl _ w).alloc (Nat.le_refl _) _
  have C1 := C _ hb0
  have hc1 := (hb0.cell (p := ⟨b, 0, none⟩) (by exact hb)).trans hc
  have HB0 : Hid (Below w.heap.size w (w.alloc (.cells #[.int .i64 o, .int .i64 a, .int .i64 c] 50))) := hb0
  clear eg C hb0
  go_enter Tryd.func51, Tryd.ntmps51
  go_wp2_with fail
  refine C1.mono ?_
  rintro e w1 ⟨rfl, hb⟩
  have HB : Hid (Below w.heap.size w w1) := HB0.out.trans (hb.mono HB0.out.size)
  clear C1 hb
  go_wp2_with fail
  go_ret
  exact ⟨rfl, HB.out⟩

theorem all_not {α : Type} (l : List α) (p : α → Bool) : (!l.any fun x => !p x) = l.all p := by
  induction l with
  | nil => rfl
  | cons x l ih =>
    simp only [List.any_cons, List.all_cons, Bool.not_or, Bool.not_not, ih]

set_option maxHeartbeats 2000000 in
set_option maxRecDepth 100000 in
theorem all_sets (g : FuncId) (lb : Array Value) (eg : Enters g) (v : Value) (ss : List (List RS.Rg)) (p : List RS.Rg → Bool) (w : World) (hS : SetsAt w.heap.size w v ss) (hn : ss.length ≤ 100000)
    (hf : ∀ (k : Nat) (h : k < ss.length) (u : Value) (W : World), Below w.heap.size w W → RgAt W.heap.size W u ss[k] → Calls Tryd.prog g (#[u] ++ lb) W fun e W' => e = .returned (.bool (p ss[k])) ∧ Below W.heap.size W W') :
    Calls Tryd.prog 28 #[v, .func (.func g) #[] lb] w fun e w' => e = .returned (.bool (ss.all p)) ∧ Below w.heap.size w w' := by
  have hb0 : Below w.heap.size w (w.alloc (.cells #[.func (.func g) #[] lb] 68)) := (Below.refl _ w).alloc (Nat.le_refl _) _
  have C := contains_sets 50 #[.pointer (some ⟨w.heap.size, 0, none⟩)] enters50 v ss (fun x => !p x) (w.alloc (.cells #[.func (.func g) #[] lb] 68)) (hS.below hb0 _ hb0.size) hn (fun k hk u W hW hu => by
    have hlt : w.heap.size < (w.alloc (.cells #[.func (.func g) #[] lb] 68)).heap.size := by simp
    exact not_set g lb eg w.heap.size u (p ss[k]) W ((hW.cell (p := ⟨w.heap.size, 0, none⟩) hlt).trans (by simp)) (hf k hk u W (hb0.trans (hW.mono hb0.size)) hu))
  have HA : Hid ((!ss.any fun x => !p x) = ss.all p) := all_not ss p
  generalize (ss.any fun x => !p x) = q at C HA
  have HB0 : Hid (Below w.heap.size w (w.alloc (.cells #[.func (.func g) #[] lb] 68))) := hb0
  clear hf hS hb0
  go_enter Tryd.func28, Tryd.ntmps28
  go_wp2_with fail
  refine C.mono ?_
  rintro e w1 ⟨rfl, hb⟩
  have HB : Hid (Below w.heap.size w w1) := HB0.out.trans (hb.mono HB0.out.size)
  clear C hb
  go_wp2_with fail
  go_ret
  exact ⟨ret_bool HA.out, HB.out⟩

set_option maxHeartbeats 2000000 in
set_option maxRecDepth 100000 in
theorem all_ins (g : FuncId) (lb : Array Value) (eg : Enters g) (v : Value) (ss : List VM.In) (p : VM.In → Bool) (w : World) (hS : InsAt w.heap.size w v ss) (hn : ss.length ≤ 100000)
    (hf : ∀ (k : Nat) (h : k < ss.length) (W : World), Below w.heap.size w W → Calls Tryd.prog g (#[.agg #[.int .i64 ss[k].op, .int .i64 ss[k].a, .int .i64 ss[k].b]] ++ lb) W fun e W' => e = .returned (.bool (p ss[k])) ∧ Below W.heap.size W W') :
    Calls Tryd.prog 30 #[v, .func (.func g) #[] lb] w fun e w' => e = .returned (.bool (ss.all p)) ∧ Below w.heap.size w w' := by
  have hb0 : Below w.heap.size w (w.alloc (.cells #[.func (.func g) #[] lb] 51)) := (Below.refl _ w).alloc (Nat.le_refl _) _
  have C := contains_ins 51 #[.pointer (some ⟨w.heap.size, 0, none⟩)] enters51 v ss (fun x => !p x) (w.alloc (.cells #[.func (.func g) #[] lb] 51)) (hS.below hb0 _ hb0.size) hn (fun k hk W hW => by
    have hlt : w.heap.size < (w.alloc (.cells #[.func (.func g) #[] lb] 51)).heap.size := by simp
    exact not_in g lb eg w.heap.size _ _ _ (p ss[k]) W ((hW.cell (p := ⟨w.heap.size, 0, none⟩) hlt).trans (by simp)) (by have := hW.size; omega) (fun W' hW' => hf k hk W' ((hb0.trans (hW.mono hb0.size)).trans (hW'.mono (by have := hW.size; omega)))))
  have HA : Hid ((!ss.any fun x => !p x) = ss.all p) := all_not ss p
  generalize (ss.any fun x => !p x) = q at C HA
  have HB0 : Hid (Below w.heap.size w (w.alloc (.cells #[.func (.func g) #[] lb] 51))) := hb0
  clear hf hS hb0
  go_enter Tryd.func30, Tryd.ntmps30
  go_wp2_with fail
  refine C.mono ?_
  rintro e w1 ⟨rfl, hb⟩
  have HB : Hid (Below w.heap.size w w1) := HB0.out.trans (hb.mono HB0.out.size)
  clear C hb
  go_wp2_with fail
  go_ret
  exact ⟨ret_bool HA.out, HB.out⟩

set_option maxHeartbeats 2000000 in
set_option maxRecDepth 100000 in
/-- Right's closure: an instruction may be, in code that lies at c. -/
theorem right_in (c : Nat) (sv iv : Value) (sao iao : Option Addr) (n m scap icap : Nat) (x : VM.In) (w : World) (h0 : w.cell? ⟨c, 0, none⟩ = some sv) (h1 : w.cell? ⟨c, 1, none⟩ = some iv) (hs : sv = .slice sao m scap) (hi : iv = .slice iao n icap) (hc : c < w.heap.size) :
    Calls Tryd.prog 31 (#[.agg #[.int .i64 x.op, .int .i64 x.a, .int .i64 x.b]] ++ #[.pointer (some ⟨c, 0, none⟩)]) w fun e w' => e = .returned (.bool (VM.rightIn n m x)) ∧ Below w.heap.size w w' := by
  subst hs hi
  have C := rightInst_any x n m (w.alloc (.cells #[.int .i64 x.op, .int .i64 x.a, .int .i64 x.b] 50))
  have hb0 : Below w.heap.size w (w.alloc (.cells #[.int .i64 x.op, .int .i64 x.a, .int .i64 x.b] 50)) := (Below.refl _ w).alloc (Nat.le_refl _) _
  have h0' := (hb0.cell (p := ⟨c, 0, none⟩) (by exact hc)).trans h0
  have h1' := (hb0.cell (p := ⟨c, 1, none⟩) (by exact hc)).trans h1
  have HB0 : Hid (Below w.heap.size w (w.alloc (.cells #[.int .i64 x.op, .int .i64 x.a, .int .i64 x.b] 50))) := hb0
  clear h0 h1 hb0
  generalize VM.rightIn n m x = q at C ⊢
  obtain ⟨o, a, b⟩ := x
  dsimp only at C h0' h1' HB0 ⊢
  go_enter Tryd.func31, Tryd.ntmps31
  go_wp2_with fail
  refine C.mono ?_
  rintro e w1 ⟨rfl, hb⟩
  have HB : Hid (Below w.heap.size w w1) := HB0.out.trans (hb.mono HB0.out.size)
  clear C hb
  go_wp2_with fail
  go_ret
  exact ⟨rfl, HB.out⟩

end Go.Proofs.YtddjppkpgflbjaaDoor
