/- slices.ContainsFunc and vm.all at sets and at instructions. -/
import Derived.Test.YtddjppkpgflbjaaVmC
namespace Go.Proofs.Ytddjppkpgflbjaa
open Go.RowKit Go.Shelf

/-- g may be entered. -/
abbrev Enters (g : FuncId) : Prop := ∀ args w, (callFunc g args).run Try.prog w = .ok (.enter g args) w

theorem any_of_get {α : Type} {p : α → Bool} {l : List α} {k : Nat} (hk : k < l.length) (h : p l[k] = true) : l.any p = true :=
  List.any_eq_true.2 ⟨_, List.getElem_mem hk, h⟩

theorem any_of_none {α : Type} {p : α → Bool} {l : List α} (h : ∀ k (hk : k < l.length), p l[k] = false) : l.any p = false := by
  rw [List.any_eq_false]
  intro x hx
  obtain ⟨k, hk, rfl⟩ := List.getElem_of_mem hx
  rw [h k hk]
  decide

set_option maxHeartbeats 2000000 in
set_option maxRecDepth 100000 in
theorem index_sets (g : FuncId) (lb : Array Value) (eg : Enters g) (v : Value) (ss : List (List RS.Rg)) (p : List RS.Rg → Bool) (w : World) (hS : SetsAt w.heap.size w v ss) (hn : ss.length ≤ 100000)
    (hf : ∀ (k : Nat) (h : k < ss.length) (u : Value) (W : World), Below w.heap.size w W → RgAt W.heap.size W u ss[k] → Calls Try.prog g (#[u] ++ lb) W fun e W' => e = .returned (.bool (p ss[k])) ∧ Below W.heap.size W W') :
    Calls Try.prog 17 #[v, .func (.func g) #[] lb] w fun e w' => (∃ r : Int, e = .returned (.int .i64 r) ∧ decide (0 ≤ r) = ss.any p) ∧ Below w.heap.size w w' := by
  have eg' : ∀ args w, (callFunc g args).run Try.prog w = .ok (.enter g args) w := eg
  obtain ⟨ao, cap, rfl, hc, hcell⟩ := hS
  have HC : Hid (ss ≠ [] → ∃ b off, ao = some ⟨b, off, none⟩ ∧ b < w.heap.size ∧ ∀ k (h : k < ss.length), ∃ u, w.cell? ⟨b, off + k, none⟩ = some u ∧ RgAt w.heap.size w u ss[k]) := hcell
  have HF : Hid (∀ (k : Nat) (h : k < ss.length) (u : Value) (W : World), Below w.heap.size w W → RgAt W.heap.size W u ss[k] → Calls Try.prog g (#[u] ++ lb) W fun e W' => e = .returned (.bool (p ss[k])) ∧ Below W.heap.size W W') := hf
  obtain ⟨N, hN⟩ : ∃ N, N = ss.length := ⟨_, rfl⟩
  have HN : Hid (N = ss.length) := hN
  rw [← hN] at hn hc ⊢
  clear hcell hf hN eg
  go_enter Try.func17, Try.ntmps17
  go_wp2_with fail
  go_loopw [8] (fun i wr => ∃ k : Nat, i = .int .i64 k ∧ k ≤ N ∧ Below w.heap.size w wr ∧ ∀ j (hj : j < ss.length), j < k → p ss[j] = false) (fun i _ => N - (intOf i).toNat)
  case atStart => exact ⟨0, rfl, Nat.zero_le _, Below.refl _ _, fun j hj h => absurd h (by omega)⟩
  case round =>
    obtain ⟨k, rfl, hk, hb, hnone⟩ := hrel
    have HB : Hid (Below w.heap.size w wr) := hb
    have HNO : Hid (∀ j (hj : j < ss.length), j < k → p ss[j] = false) := hnone
    clear hb hnone
    by_cases hlt : k < N
    · have hks : k < ss.length := by have := HN.out; omega
      obtain ⟨b, off, rfl, hbw, hcs⟩ := HC.out (fun e => by rw [e] at hks; simp at hks)
      obtain ⟨u, hu, hrg⟩ := hcs k hks
      have hu' := (HB.out.cell (p := ⟨b, off + k, none⟩) (by exact hbw)).trans hu
      have C := HF.out k hks u wr HB.out (hrg.below HB.out _ HB.out.size)
      have HP : Hid (∀ q, p ss[k] = q → q = true → ss.any p = true) := fun q h1 h2 => any_of_get hks (h1.trans h2)
      have HP2 : Hid (p ss[k] = false → ∀ j (hj : j < ss.length), j < k + 1 → p ss[j] = false) := fun h j hj hlt => by
        rcases Nat.lt_or_ge j k with h1 | h1
        · exact HNO.out j hj h1
        · obtain rfl : j = k := by omega
          exact h
      obtain ⟨q, hq⟩ : ∃ q, q = p ss[k] := ⟨_, rfl⟩
      have HQ : Hid (q = p ss[k]) := hq
      rw [← hq] at C
      clear hcs hu hrg hq
      have hkz : (k : Int) < (N : Int) := by omega
      go_wp2_with fail
      refine C.mono ?_
      rintro e w1 ⟨rfl, hb1⟩
      have HB1 : Hid (Below w.heap.size w w1) := HB.out.trans (hb1.mono HB.out.size)
      clear C hu' hb1
      cases q with
      | true =>
        go_wp2_with fail
        go_ret
        exact ⟨⟨k, rfl, by rw [HP.out _ HQ.out.symm rfl]; simp⟩, HB1.out⟩
      | false =>
        go_wp2_with fail
        case roundEnd => exact ⟨⟨k + 1, by go_num, by omega, HB1.out, HP2.out HQ.out.symm⟩, by simp [intOf]; omega⟩
    · have hkz : ¬ ((k : Int) < (N : Int)) := by omega
      go_wp2_with fail
      go_ret
      exact ⟨⟨-1, rfl, by rw [any_of_none (fun j hj => HNO.out j hj (by have := HN.out; omega))]; decide⟩, HB.out⟩

set_option maxHeartbeats 2000000 in
set_option maxRecDepth 100000 in
theorem contains_sets (g : FuncId) (lb : Array Value) (eg : Enters g) (v : Value) (ss : List (List RS.Rg)) (p : List RS.Rg → Bool) (w : World) (hS : SetsAt w.heap.size w v ss) (hn : ss.length ≤ 100000)
    (hf : ∀ (k : Nat) (h : k < ss.length) (u : Value) (W : World), Below w.heap.size w W → RgAt W.heap.size W u ss[k] → Calls Try.prog g (#[u] ++ lb) W fun e W' => e = .returned (.bool (p ss[k])) ∧ Below W.heap.size W W') :
    Calls Try.prog 9 #[v, .func (.func g) #[] lb] w fun e w' => e = .returned (.bool (ss.any p)) ∧ Below w.heap.size w w' := by
  have C := index_sets g lb eg v ss p w hS hn hf
  clear hf hS
  go_enter Try.func9, Try.ntmps9
  go_wp2_with fail
  refine C.mono ?_
  rintro e w1 ⟨⟨r, rfl, hr⟩, hb⟩
  have HR : Hid (decide (0 ≤ r) = ss.any p) := hr
  have HB : Hid (Below w.heap.size w w1) := hb
  clear C hr hb
  go_wp2_with fail
  all_goals go_ret
  all_goals refine ⟨ret_bool ?_, HB.out⟩
  all_goals first | exact HR.out | (rw [← HR.out]; simp; omega)

set_option maxHeartbeats 2000000 in
set_option maxRecDepth 100000 in
theorem index_ins (g : FuncId) (lb : Array Value) (eg : Enters g) (v : Value) (ss : List VM.In) (p : VM.In → Bool) (w : World) (hS : InsAt w.heap.size w v ss) (hn : ss.length ≤ 100000)
    (hf : ∀ (k : Nat) (h : k < ss.length) (W : World), Below w.heap.size w W → Calls Try.prog g (#[.agg #[.int .i64 ss[k].op, .int .i64 ss[k].a, .int .i64 ss[k].b]] ++ lb) W fun e W' => e = .returned (.bool (p ss[k])) ∧ Below W.heap.size W W') :
    Calls Try.prog 28 #[v, .func (.func g) #[] lb] w fun e w' => (∃ r : Int, e = .returned (.int .i64 r) ∧ decide (0 ≤ r) = ss.any p) ∧ Below w.heap.size w w' := by
  have eg' : ∀ args w, (callFunc g args).run Try.prog w = .ok (.enter g args) w := eg
  obtain ⟨ao, cap, rfl, hc, hcell⟩ := hS
  have HC : Hid _ := hcell
  have HF : Hid (∀ (k : Nat) (h : k < ss.length) (W : World), Below w.heap.size w W → Calls Try.prog g (#[.agg #[.int .i64 ss[k].op, .int .i64 ss[k].a, .int .i64 ss[k].b]] ++ lb) W fun e W' => e = .returned (.bool (p ss[k])) ∧ Below W.heap.size W W') := hf
  obtain ⟨N, hN⟩ : ∃ N, N = ss.length := ⟨_, rfl⟩
  have HN : Hid (N = ss.length) := hN
  rw [← hN] at hn hc ⊢
  clear hcell hf hN eg
  go_enter Try.func28, Try.ntmps28
  go_wp2_with fail
  go_loopw [8] (fun i wr => ∃ k : Nat, i = .int .i64 k ∧ k ≤ N ∧ Below w.heap.size w wr ∧ ∀ j (hj : j < ss.length), j < k → p ss[j] = false) (fun i _ => N - (intOf i).toNat)
  case atStart => exact ⟨0, rfl, Nat.zero_le _, Below.refl _ _, fun j hj h => absurd h (by omega)⟩
  case round =>
    obtain ⟨k, rfl, hk, hb, hnone⟩ := hrel
    have HB : Hid (Below w.heap.size w wr) := hb
    have HNO : Hid (∀ j (hj : j < ss.length), j < k → p ss[j] = false) := hnone
    clear hb hnone
    by_cases hlt : k < N
    · have hks : k < ss.length := by have := HN.out; omega
      obtain ⟨b, off, rfl, hbw, hcs⟩ := HC.out (fun e => by rw [e] at hks; simp at hks)
      obtain ⟨i0, i1, i2⟩ := hcs k hks
      have j0 := (HB.out.cell (p := ⟨b, off + k * 3, none⟩) (by exact hbw)).trans i0
      have j1 := (HB.out.cell (p := ⟨b, off + k * 3 + 1, none⟩) (by exact hbw)).trans i1
      have j2 := (HB.out.cell (p := ⟨b, off + k * 3 + 2, none⟩) (by exact hbw)).trans i2
      have C := HF.out k hks wr HB.out
      have HP : Hid (∀ q, p ss[k] = q → q = true → ss.any p = true) := fun q h1 h2 => any_of_get hks (h1.trans h2)
      have HP2 : Hid (p ss[k] = false → ∀ j (hj : j < ss.length), j < k + 1 → p ss[j] = false) := fun h j hj hlt => by
        rcases Nat.lt_or_ge j k with h1 | h1
        · exact HNO.out j hj h1
        · obtain rfl : j = k := by omega
          exact h
      obtain ⟨q, hq⟩ : ∃ q, q = p ss[k] := ⟨_, rfl⟩
      have HQ : Hid (q = p ss[k]) := hq
      rw [← hq] at C
      clear hcs i0 i1 i2 hq
      generalize ss[k].op = o at C j0
      generalize ss[k].a = a at C j1
      generalize ss[k].b = b' at C j2
      have hkz : (k : Int) < (N : Int) := by omega
      go_wp2_with fail
      refine C.mono ?_
      rintro e w1 ⟨rfl, hb1⟩
      have HB1 : Hid (Below w.heap.size w w1) := HB.out.trans (hb1.mono HB.out.size)
      clear C j0 j1 j2 hb1
      cases q with
      | true =>
        go_wp2_with fail
        go_ret
        exact ⟨⟨k, rfl, by rw [HP.out _ HQ.out.symm rfl]; simp⟩, HB1.out⟩
      | false =>
        go_wp2_with fail
        case roundEnd => exact ⟨⟨k + 1, by go_num, by omega, HB1.out, HP2.out HQ.out.symm⟩, by simp [intOf]; omega⟩
    · have hkz : ¬ ((k : Int) < (N : Int)) := by omega
      go_wp2_with fail
      go_ret
      exact ⟨⟨-1, rfl, by rw [any_of_none (fun j hj => HNO.out j hj (by have := HN.out; omega))]; decide⟩, HB.out⟩

set_option maxHeartbeats 2000000 in
set_option maxRecDepth 100000 in
theorem contains_ins (g : FuncId) (lb : Array Value) (eg : Enters g) (v : Value) (ss : List VM.In) (p : VM.In → Bool) (w : World) (hS : InsAt w.heap.size w v ss) (hn : ss.length ≤ 100000)
    (hf : ∀ (k : Nat) (h : k < ss.length) (W : World), Below w.heap.size w W → Calls Try.prog g (#[.agg #[.int .i64 ss[k].op, .int .i64 ss[k].a, .int .i64 ss[k].b]] ++ lb) W fun e W' => e = .returned (.bool (p ss[k])) ∧ Below W.heap.size W W') :
    Calls Try.prog 19 #[v, .func (.func g) #[] lb] w fun e w' => e = .returned (.bool (ss.any p)) ∧ Below w.heap.size w w' := by
  have C := index_ins g lb eg v ss p w hS hn hf
  clear hf hS
  go_enter Try.func19, Try.ntmps19
  go_wp2_with fail
  refine C.mono ?_
  rintro e w1 ⟨⟨r, rfl, hr⟩, hb⟩
  have HR : Hid (decide (0 ≤ r) = ss.any p) := hr
  have HB : Hid (Below w.heap.size w w1) := hb
  clear C hr hb
  go_wp2_with fail
  all_goals go_ret
  all_goals refine ⟨ret_bool ?_, HB.out⟩
  all_goals first | exact HR.out | (rw [← HR.out]; simp; omega)

end Go.Proofs.Ytddjppkpgflbjaa
