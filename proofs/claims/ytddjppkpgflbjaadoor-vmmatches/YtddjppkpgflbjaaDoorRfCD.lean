/- The law's own small and smallProgram. -/
import Derived.Test.YtddjppkpgflbjaaDoorRfB
import Derived.Test.YtddjppkpgflbjaaDoorVmL
import Derived.Test.YtddjppkpgflbjaaDoorVmC
import Derived.BigQuiet
import Derived.Deep.QuietTactic
namespace Go.Proofs.YtddjppkpgflbjaaDoor
open Go.RowKit Go.Shelf

theorem small_few {c : VM.Co} (h : 20 < c.sets.length) : isSmall c = false := by
  unfold isSmall
  have : decide (c.sets.length ≤ 20) = false := decide_eq_false (by omega)
  simp [this]

theorem small_ins {c : VM.Co} (h : 60 < c.ins.length) : isSmall c = false := by
  unfold isSmall
  have : decide (c.ins.length ≤ 60) = false := decide_eq_false (by omega)
  simp [this]

theorem small_rest {c : VM.Co} (h1 : c.sets.length ≤ 20) (h2 : c.ins.length ≤ 60) : isSmall c = !c.sets.any fun s => decide (20 < s.length) := by
  unfold isSmall
  simp [h1, h2]

set_option maxHeartbeats 4000000 in
set_option maxRecDepth 100000 in
theorem lawSmall_any (sv iv : Value) (c : VM.Co) (w : World) (F : CoAt w.heap.size w sv iv c) :
    Calls Tryd.prog 5 #[.agg #[sv, iv]] w fun e w' => e = .returned (.bool (isSmall c)) ∧ Below w.heap.size w w' := by
  obtain ⟨sao, scap, hsv, hsc, hcell⟩ := F.1
  obtain ⟨iao, icap, hiv, hic, -⟩ := F.2
  have HC : Hid _ := hcell
  obtain ⟨m, hm⟩ : ∃ m, m = c.sets.length := ⟨_, rfl⟩
  obtain ⟨n, hn⟩ : ∃ n, n = c.ins.length := ⟨_, rfl⟩
  have HM : Hid (m = c.sets.length) := hm
  have HN : Hid (n = c.ins.length) := hn
  rw [← hm] at hsv hsc
  rw [← hn] at hiv hic
  clear F hcell hm hn
  have HB0 : Hid (Below w.heap.size w (w.alloc (.cells #[sv, iv] 25))) := (Below.refl _ w).alloc (Nat.le_refl _) _
  subst hsv hiv
  by_cases h1 : 20 < m
  · have HR : Hid (isSmall c = false) := small_few (by rw [← HM.out]; exact h1)
    have h1' : (20 : Int) < (m : Int) := by omega
    go_enter Tryd.func5, Tryd.ntmps5
    go_wp2_with fail
    go_ret
    exact ⟨ret_bool HR.out.symm, HB0.out⟩
  have h1' : ¬ (20 : Int) < (m : Int) := by omega
  by_cases h2 : 60 < n
  · have HR : Hid (isSmall c = false) := small_ins (by rw [← HN.out]; exact h2)
    have h2' : (60 : Int) < (n : Int) := by omega
    go_enter Tryd.func5, Tryd.ntmps5
    go_wp2_with fail
    go_ret
    exact ⟨ret_bool HR.out.symm, HB0.out⟩
  have h2' : ¬ (60 : Int) < (n : Int) := by omega
  have HR : Hid (isSmall c = !c.sets.any fun s => decide (20 < s.length)) := small_rest (by rw [← HM.out]; omega) (by rw [← HN.out]; omega)
  have c0 : (w.alloc (.cells #[Value.slice sao m scap, Value.slice iao n icap] 25)).cell? ⟨w.heap.size, 0, none⟩ = some (Value.slice sao m scap) := by simp
  go_enter Tryd.func5, Tryd.ntmps5
  go_wp2_with fail
  go_loopw [3] (fun i wr => ∃ k : Nat, i = .int .i64 k ∧ k ≤ m ∧ wr = w.alloc (.cells #[Value.slice sao m scap, Value.slice iao n icap] 25) ∧ (c.sets.any fun s => decide (20 < s.length)) = ((c.sets.drop k).any fun s => decide (20 < s.length))) (fun i _ => m - (intOf i).toNat)
  case atStart => exact ⟨0, rfl, Nat.zero_le _, rfl, rfl⟩
  case round =>
    obtain ⟨k, rfl, hk, rfl, hall⟩ := hrel
    have HA : Hid ((c.sets.any fun s => decide (20 < s.length)) = ((c.sets.drop k).any fun s => decide (20 < s.length))) := hall
    clear hall
    by_cases hlt : k < m
    · have hks : k < c.sets.length := by have := HM.out; omega
      obtain ⟨b, off, rfl, hbw, hcs⟩ := HC.out (fun e => by rw [e] at hks; simp at hks)
      obtain ⟨u, hu, ⟨ua, ucap, rfl, -, -⟩⟩ := hcs k hks
      have HD : Hid (((c.sets.drop k).any fun s => decide (20 < s.length)) = (decide (20 < c.sets[k].length) || ((c.sets.drop (k + 1)).any fun s => decide (20 < s.length)))) := by
        show _ = _
        rw [List.drop_eq_getElem_cons hks, List.any_cons]
      generalize c.sets[k].length = z at hu HD
      have ju := (HB0.out.cell (p := ⟨b, off + k, none⟩) (by exact hbw)).trans hu
      clear hcs hu
      have hkz : (k : Int) < (m : Int) := by omega
      by_cases hz : 20 < z
      · have hz' : (20 : Int) < (z : Int) := by omega
        have HZ : Hid (decide (20 < z) = true) := decide_eq_true hz
        go_wp2_with fail
        go_ret
        exact ⟨ret_bool (by rw [HR.out, HA.out, HD.out, HZ.out]; rfl), HB0.out⟩
      · have hz' : ¬ (20 : Int) < (z : Int) := by omega
        have HZ : Hid (decide (20 < z) = false) := decide_eq_false hz
        go_wp2_with fail
        case roundEnd => exact ⟨⟨k + 1, by go_num, by omega, trivial, by rw [HA.out, HD.out, HZ.out, Bool.false_or]⟩, by simp [intOf]; omega⟩
    · have HS : Hid ((c.sets.any fun s => decide (20 < s.length)) = false) := by
        show _ = _
        rw [HA.out, List.drop_of_length_le (by have := HM.out; omega)]; rfl
      have hkz : ¬ ((k : Int) < (m : Int)) := by omega
      clear HA
      go_wp2_with fail
      go_ret
      exact ⟨ret_bool (by rw [HR.out, HS.out]; rfl), HB0.out⟩

end Go.Proofs.YtddjppkpgflbjaaDoor

namespace Go.Proofs.YtddjppkpgflbjaaDoor
open Go.RowKit Go.Shelf

set_option maxHeartbeats 4000000 in
set_option maxRecDepth 100000 in
theorem sameInts_any (av bv : Value) (la lb : List Int) (w : World) (ha : PtsAt w.heap.size w av la) (hb : PtsAt w.heap.size w bv lb) (hn : la.length ≤ 100000) :
    Calls Tryd.prog 16 #[av, bv] w fun e w' => e = .returned (.bool (decide (la = lb))) ∧ Below w.heap.size w w' := by
  obtain ⟨ao, ac, hav, hac, hca⟩ := ha
  obtain ⟨bo, bc, hbv, hbc, hcb⟩ := hb
  have HCA : Hid _ := hca
  have HCB : Hid _ := hcb
  obtain ⟨n, hN⟩ : ∃ n, n = la.length := ⟨_, rfl⟩
  obtain ⟨m, hM⟩ : ∃ m, m = lb.length := ⟨_, rfl⟩
  have HN : Hid (n = la.length) := hN
  have HM : Hid (m = lb.length) := hM
  rw [← hN] at hav hac hn
  rw [← hM] at hbv hbc
  clear hca hcb hN hM
  subst hav hbv
  by_cases h1 : n = m
  · subst h1
    go_enter Tryd.func16, Tryd.ntmps16
    go_wp2_with fail
    go_loopw [5] (fun i wr => ∃ k : Nat, i = .int .i64 k ∧ k ≤ n ∧ Below w.heap.size w wr ∧ la.take k = lb.take k) (fun i _ => n - (intOf i).toNat)
    case atStart => exact ⟨0, rfl, Nat.zero_le _, Below.refl _ _, rfl⟩
    case round =>
      obtain ⟨k, rfl, hk, hb, hall⟩ := hrel
      have HB : Hid (Below w.heap.size w wr) := hb
      clear hb
      have HA : Hid (la.take k = lb.take k) := hall
      clear hall
      by_cases hlt : k < n
      · have hka : k < la.length := by have := HN.out; omega
        have hkb : k < lb.length := by have := HM.out; omega
        obtain ⟨b, off, rfl, hbw, hcs⟩ := HCA.out (fun e => by rw [e] at hka; simp at hka)
        obtain ⟨b2, off2, rfl, hbw2, hcs2⟩ := HCB.out (fun e => by rw [e] at hkb; simp at hkb)
        have ja := (HB.out.cell (p := ⟨b, off + k, none⟩) (by exact hbw)).trans (hcs k hka)
        have jb := (HB.out.cell (p := ⟨b2, off2 + k, none⟩) (by exact hbw2)).trans (hcs2 k hkb)
        have HD : Hid (la.take (k + 1) = la.take k ++ [la[k]] ∧ lb.take (k + 1) = lb.take k ++ [lb[k]]) := ⟨by simp, by simp⟩
        have HNE : Hid (la[k] ≠ lb[k] → la ≠ lb) := fun h e => h (by subst e; rfl)
        generalize la[k] = x at ja HD HNE
        generalize lb[k] = y at jb HD HNE
        clear hcs hcs2
        have hkz : (k : Int) < (n : Int) := by omega
        by_cases hxy : x = y
        · subst hxy
          go_wp2_with fail
          go_quiet (fail)
          go_wp2_with fail
          case roundEnd => exact ⟨⟨k + 1, by go_num, by omega, below_drewN HB.out _, by rw [HD.out.1, HD.out.2, HA.out]⟩, by simp [intOf]; omega⟩
        · have hz : (x == y) = false := by simpa using hxy
          have HX : Hid (la ≠ lb) := HNE.out hxy
          go_wp2_with fail
          go_quiet (fail)
          go_wp2_with fail
          go_ret
          exact ⟨ret_bool (by simp [HX.out]), below_drewN HB.out _⟩
      · have HS : Hid (la = lb) := by
          show _ = _
          have := HA.out
          rwa [List.take_of_length_le (by have := HN.out; omega), List.take_of_length_le (by have := HM.out; omega)] at this
        have hkz : ¬ ((k : Int) < (n : Int)) := by omega
        clear HA
        go_wp2_with fail
        go_ret
        exact ⟨ret_bool (by simp [HS.out]), HB.out⟩
  · have HX : Hid (la ≠ lb) := fun e => h1 (by rw [HN.out, HM.out, e])
    have hz : ((n : Int) == (m : Int)) = false := by simp; omega
    go_enter Tryd.func16, Tryd.ntmps16
    go_wp2_with fail
    go_ret
    exact ⟨ret_bool (by simp [HX.out]), Below.refl _ _⟩

end Go.Proofs.YtddjppkpgflbjaaDoor
