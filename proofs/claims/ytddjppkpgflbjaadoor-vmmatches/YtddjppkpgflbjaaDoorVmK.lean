/- The contracts of Right, Match and small. -/
import Derived.Test.YtddjppkpgflbjaaDoorVmIJ
import Derived.Test.YtddjppkpgflbjaaDoorVmH
namespace Go.Proofs.YtddjppkpgflbjaaDoor
open Go.RowKit Go.Shelf

/-- Code and points, not too much of both. -/
structure Small (B : Nat) (w : World) (sv iv : Value) (c : VM.Co) : Prop where
  code : CoAt B w sv iv c
  lens : c.ins.length ≤ 100000 ∧ c.sets.length ≤ 100000 ∧ ∀ s ∈ c.sets, s.length ≤ 1000000

theorem Small.below {B : Nat} {w w' : World} {sv iv : Value} {c : VM.Co} (h : Small B w sv iv c) (hb : Below B w w') (B' : Nat) (hB : B ≤ B') : Small B' w' sv iv c := ⟨h.code.below hb _ hB, h.lens⟩

theorem right_few {c : VM.Co} (h : c.ins.length < 1) : VM.right c = false := by
  unfold VM.right
  have : decide (1 ≤ c.ins.length) = false := decide_eq_false (by omega)
  simp [this]

theorem right_many {c : VM.Co} (h : 2000 < c.ins.length) : VM.right c = false := by
  unfold VM.right
  have : decide (c.ins.length ≤ 2000) = false := decide_eq_false (by omega)
  simp [this]

theorem right_sets {c : VM.Co} (h : 2000 < c.sets.length) : VM.right c = false := by
  unfold VM.right
  have : decide (c.sets.length ≤ 2000) = false := decide_eq_false (by omega)
  simp [this]

theorem right_last {c : VM.Co} (h : VM.lastOp c.ins = 1 ∨ VM.lastOp c.ins = 4) : VM.right c = false := by
  unfold VM.right
  have : (decide (VM.lastOp c.ins = 1) || decide (VM.lastOp c.ins = 4)) = true := by
    rw [Bool.or_eq_true, decide_eq_true_eq, decide_eq_true_eq]; exact h
  simp [this]

theorem right_rest {c : VM.Co} (h1 : 1 ≤ c.ins.length) (h2 : c.ins.length ≤ 2000) (h3 : c.sets.length ≤ 2000) (h4 : VM.lastOp c.ins ≠ 1) (h5 : VM.lastOp c.ins ≠ 4) :
    VM.right c = (c.sets.all RS.right && c.ins.all (VM.rightIn c.ins.length c.sets.length)) := by
  unfold VM.right
  simp [h1, h2, h3, h4, h5]

theorem last_get {l : List VM.In} {m : Nat} (h : m + 1 = l.length) : VM.lastOp l = (l[m]'(by omega)).op := by
  unfold VM.lastOp
  rw [List.getLast?_eq_getElem?, show l.length - 1 = m by omega]
  simp [show m < l.length by omega]

set_option maxHeartbeats 4000000 in
set_option maxRecDepth 100000 in
theorem codeRight_any (sv iv : Value) (c : VM.Co) (w : World) (F : Small w.heap.size w sv iv c) :
    Calls Tryd.prog 10 #[.agg #[sv, iv]] w fun e w' => e = .returned (.bool (VM.right c)) ∧ Below w.heap.size w w' := by
  have hl1 := F.lens.1
  have hl2 := F.lens.2.1
  have HF : Hid (Small w.heap.size w sv iv c) := F
  obtain ⟨sao, scap, hsv, hsc, -⟩ := F.code.1
  obtain ⟨iao, icap, hiv, hic, hcell⟩ := F.code.2
  have HSV : Hid (sv = .slice sao c.sets.length scap) := hsv
  have HIV : Hid (iv = .slice iao c.ins.length icap) := hiv
  obtain ⟨n, hn⟩ : ∃ n, n = c.ins.length := ⟨_, rfl⟩
  obtain ⟨m, hm⟩ : ∃ m, m = c.sets.length := ⟨_, rfl⟩
  have HN : Hid (n = c.ins.length) := hn
  have HMM : Hid (m = c.sets.length) := hm
  rw [← hm] at hsv hl2 hsc
  rw [← hn] at hiv hl1 hic
  have hb0 : Below w.heap.size w (w.alloc (.cells #[sv, iv] 25)) := (Below.refl _ w).alloc (Nat.le_refl _) _
  have HB0 : Hid (Below w.heap.size w (w.alloc (.cells #[sv, iv] 25))) := hb0
  by_cases h1 : n < 1
  · have HR : Hid (VM.right c = false) := right_few (by rw [← hn]; exact h1)
    clear F hcell hb0 hn hm
    subst hsv hiv
    have h1' : (n : Int) < 1 := by omega
    go_enter Tryd.func10, Tryd.ntmps10
    go_wp2_with fail
    go_ret
    exact ⟨ret_bool HR.out.symm, HB0.out⟩
  by_cases h2 : 2000 < n
  · have HR : Hid (VM.right c = false) := right_many (by rw [← hn]; exact h2)
    clear F hcell hb0 hn hm
    subst hsv hiv
    have h1' : ¬ ((n : Int) < 1) := by omega
    have h2' : (2000 : Int) < (n : Int) := by omega
    go_enter Tryd.func10, Tryd.ntmps10
    go_wp2_with fail
    go_ret
    exact ⟨ret_bool HR.out.symm, HB0.out⟩
  by_cases h3 : 2000 < m
  · have HR : Hid (VM.right c = false) := right_sets (by rw [← hm]; exact h3)
    clear F hcell hb0 hn hm
    subst hsv hiv
    have h1' : ¬ ((n : Int) < 1) := by omega
    have h2' : ¬ ((2000 : Int) < (n : Int)) := by omega
    have h3' : (2000 : Int) < (m : Int) := by omega
    go_enter Tryd.func10, Tryd.ntmps10
    go_wp2_with fail
    go_ret
    exact ⟨ret_bool HR.out.symm, HB0.out⟩
  obtain ⟨k, rfl⟩ : ∃ k, n = k + 1 := ⟨n - 1, by omega⟩
  obtain ⟨ib, ioff, rfl, hib, hics⟩ := hcell (fun e => by rw [e] at hn; simp at hn)
  have hk : k < c.ins.length := by omega
  obtain ⟨i0, -, -⟩ := hics k hk
  have hlast := last_get hn
  have HL : Hid (VM.lastOp c.ins = c.ins[k].op) := hlast
  have i0' := (hb0.cell (p := ⟨ib, ioff + k * 3, none⟩) (by exact hib)).trans i0
  obtain ⟨o, ho⟩ : ∃ o, o = c.ins[k].op := ⟨_, rfl⟩
  have HO : Hid (o = c.ins[k].op) := ho
  rw [← ho] at i0'
  have hk1 : ¬ ((k : Int) + 1 < 1) := by omega
  have hk2 : ¬ ((2000 : Int) < (k : Int) + 1) := by omega
  have hk3 : ¬ ((2000 : Int) < (m : Int)) := by omega
  by_cases h4 : o = 1
  · have HR : Hid (VM.right c = false) := right_last (.inl (by rw [hlast, ← ho, h4]))
    clear F hics hb0 hn hm i0 hlast ho HO HL
    subst hsv hiv h4
    go_enter Tryd.func10, Tryd.ntmps10
    go_wp2_with fail
    go_ret
    exact ⟨ret_bool HR.out.symm, HB0.out⟩
  by_cases h5 : o = 4
  · have HR : Hid (VM.right c = false) := right_last (.inr (by rw [hlast, ← ho, h5]))
    clear F hics hb0 hn hm i0 hlast ho HO HL
    subst hsv hiv h5
    go_enter Tryd.func10, Tryd.ntmps10
    go_wp2_with fail
    go_ret
    exact ⟨ret_bool HR.out.symm, HB0.out⟩
  have HR : Hid (VM.right c = (c.sets.all RS.right && c.ins.all (VM.rightIn c.ins.length c.sets.length))) := right_rest (by omega) (by omega) (by omega) (by rw [hlast, ← ho]; exact h4) (by rw [hlast, ← ho]; exact h5)
  have C1 := all_sets 29 #[] enters29 sv c.sets RS.right (w.alloc (.cells #[sv, iv] 25)) (F.code.1.below hb0 _ hb0.size) F.lens.2.1 (fun k h u W hW hu => by
    rw [Array.append_empty]
    exact right_any u _ (F.lens.2.2 _ (List.getElem_mem h)) W hu)
  have hc0 : (w.alloc (.cells #[sv, iv] 25)).cell? ⟨w.heap.size, 0, none⟩ = some sv := by simp
  have hc1 : (w.alloc (.cells #[sv, iv] 25)).cell? ⟨w.heap.size, 1, none⟩ = some iv := by simp
  have C2 : ∀ w1, Below (w.alloc (.cells #[sv, iv] 25)).heap.size (w.alloc (.cells #[sv, iv] 25)) w1 → Calls Tryd.prog 30 #[iv, .func (.func 31) #[] #[.pointer (some ⟨w.heap.size, 0, none⟩)]] w1 fun e w' => e = .returned (.bool (c.ins.all (VM.rightIn c.ins.length c.sets.length))) ∧ Below w1.heap.size w1 w' := by
    intro w1 hw1
    have hlt : w.heap.size < (w.alloc (.cells #[sv, iv] 25)).heap.size := by simp
    have hs1 := hw1.size
    refine all_ins 31 #[.pointer (some ⟨w.heap.size, 0, none⟩)] enters31 iv c.ins (VM.rightIn c.ins.length c.sets.length) w1 (F.code.2.below (hb0.trans (hw1.mono hb0.size)) _ (by omega)) F.lens.1 (fun k h W hW => ?_)
    have hs2 := hW.size
    have hWW := hw1.trans (hW.mono hs1)
    exact right_in w.heap.size sv iv _ _ c.ins.length c.sets.length _ _ c.ins[k] W ((hWW.cell (p := ⟨w.heap.size, 0, none⟩) hlt).trans hc0) ((hWW.cell (p := ⟨w.heap.size, 1, none⟩) hlt).trans hc1) HSV.out HIV.out (by omega)
  generalize c.sets.all RS.right = q1 at C1 HR
  generalize c.ins.all (VM.rightIn c.ins.length c.sets.length) = q2 at C2 HR
  have o1 : (o == 1) = false := by simp [h4]
  have o4 : (o == 4) = false := by simp [h5]
  clear F hics hn hm i0 hlast ho HO HL hc0
  subst hsv hiv
  have hc1' : _ := hc1
  clear hc1
  go_enter Tryd.func10, Tryd.ntmps10
  go_wp2_with fail
  refine C1.mono ?_
  rintro e w1 ⟨rfl, hb1⟩
  have D2 := C2 w1 hb1
  have hc2 := (hb1.cell (p := ⟨w.heap.size, 1, none⟩) (by simp)).trans hc1'
  have HB1 : Hid (Below w.heap.size w w1) := HB0.out.trans (hb1.mono HB0.out.size)
  clear C1 C2 hb1 hc1'
  cases q1 with
  | false =>
    clear D2
    go_wp2_with fail
    go_ret
    exact ⟨ret_bool (by rw [HR.out]; rfl), HB1.out⟩
  | true =>
    go_wp2_with fail
    refine D2.mono ?_
    rintro e w2 ⟨rfl, hb2⟩
    have HB2 : Hid (Below w.heap.size w w2) := HB1.out.trans (hb2.mono HB1.out.size)
    clear D2 hb2
    go_wp2_with fail
    go_ret
    exact ⟨ret_bool (by rw [HR.out]; rfl), HB2.out⟩

/-- What Match answers. -/
def answer (c : VM.Co) (l : List Int) : Value :=
  if VM.right c then .tuple #[.bool (VM.run c l [0]).1, .int .i64 ((VM.run c l [0]).2 : Nat), .nilIface] else .tuple #[.bool false, .int .i64 0, .iface 32 (.int .i64 1)]

set_option maxHeartbeats 4000000 in
set_option maxRecDepth 100000 in
theorem match_any (sv iv lv : Value) (c : VM.Co) (l : List Int) (w : World) (F : Small w.heap.size w sv iv c) (hl : PtsAt w.heap.size w lv l) (hll : l.length ≤ 100000) :
    Calls Tryd.prog 8 #[.agg #[sv, iv], lv] w fun e w' => e = .returned (answer c l) ∧ Below w.heap.size w w' := by
  have hb0 : Below w.heap.size w (w.alloc (.cells #[sv, iv] 25)) := (Below.refl _ w).alloc (Nat.le_refl _) _
  have C1 := codeRight_any sv iv c (w.alloc (.cells #[sv, iv] 25)) (F.below hb0 _ hb0.size)
  have hc0 : (w.alloc (.cells #[sv, iv] 25)).cell? ⟨w.heap.size, 0, none⟩ = some sv := by simp
  have hc1 : (w.alloc (.cells #[sv, iv] 25)).cell? ⟨w.heap.size, 1, none⟩ = some iv := by simp
  have C2 : VM.right c = true → ∀ w1, Below (w.alloc (.cells #[sv, iv] 25)).heap.size (w.alloc (.cells #[sv, iv] 25)) w1 → Calls Tryd.prog 25 #[.agg #[sv, iv], lv] w1 fun e w' => e = .returned (.tuple #[.bool (VM.run c l [0]).1, .int .i64 ((VM.run c l [0]).2 : Nat)]) ∧ Below w1.heap.size w1 w' := by
    intro hr w1 hw1
    have hs1 := hw1.size
    have hs0 := hb0.size
    have hb1 := hb0.trans (hw1.mono hs0)
    exact run_any sv iv lv c l w1 ⟨hr, F.code.below hb1 _ (by omega), hl.below hb1 _ (by omega), F.lens.1, F.lens.2.1, hll, F.lens.2.2⟩
  have HA : Hid (answer c l = if VM.right c then .tuple #[.bool (VM.run c l [0]).1, .int .i64 ((VM.run c l [0]).2 : Nat), .nilIface] else .tuple #[.bool false, .int .i64 0, .iface 32 (.int .i64 1)]) := rfl
  have HB0 : Hid (Below w.heap.size w (w.alloc (.cells #[sv, iv] 25))) := hb0
  generalize VM.run c l [0] = R at C2 HA
  generalize answer c l = A at HA ⊢
  generalize VM.right c = q at C1 C2 HA
  clear F hl hb0
  go_enter Tryd.func8, Tryd.ntmps8
  go_wp2_with fail
  refine C1.mono ?_
  rintro e w1 ⟨rfl, hb1⟩
  have D2 := fun h => C2 h w1 hb1
  have k0 := (hb1.cell (p := ⟨w.heap.size, 0, none⟩) (by simp)).trans hc0
  have k1 := (hb1.cell (p := ⟨w.heap.size, 1, none⟩) (by simp)).trans hc1
  have HB1 : Hid (Below w.heap.size w w1) := HB0.out.trans (hb1.mono HB0.out.size)
  clear C1 C2 hb1 hc0 hc1
  cases q with
  | false =>
    clear D2
    go_wp2_with fail
    go_ret3
    exact ⟨by rw [HA.out]; rfl, HB1.out⟩
  | true =>
    have E2 := D2 rfl
    clear D2
    go_wp2_with fail
    refine E2.mono ?_
    rintro e w2 ⟨rfl, hb2⟩
    have HB2 : Hid (Below w.heap.size w w2) := HB1.out.trans (hb2.mono HB1.out.size)
    clear E2 hb2
    go_wp2_with fail
    go_ret3
    exact ⟨by rw [HA.out]; rfl, HB2.out⟩

end Go.Proofs.YtddjppkpgflbjaaDoor
