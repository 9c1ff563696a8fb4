/- The document's own RightCode and RightProgram. -/
import Derived.Test.YtddjppkpgflbjaaDoorRHas
import Derived.Test.YtddjppkpgflbjaaDoorVmY
namespace VM

/-- What the document asks of an instruction at a place. -/
def refIn (n m i : Nat) (x : In) : Bool :=
  if x.op = 1 then decide (0 ≤ x.a) && decide (x.a < m) && decide (x.b = 0) && decide (i + 1 < n)
  else if x.op = 2 then decide (0 ≤ x.a) && decide (x.a < n) && decide (0 ≤ x.b) && decide (x.b < n)
  else if x.op = 3 then decide (0 ≤ x.a) && decide (x.a < n) && decide (x.b = 0)
  else if x.op = 4 then decide (x.a = 0) && decide (x.b = 0) && decide (i + 1 < n)
  else if x.op = 5 then decide (x.a = 0) && decide (x.b = 0)
  else false

theorem refIn_iff (n m i : Nat) (x : In) : refIn n m i x = (rightIn n m x && !((decide (x.op = 1) || decide (x.op = 4)) && decide (n ≤ i + 1))) := by
  unfold refIn rightIn isNum
  have e : decide (i + 1 < n) = !decide (n ≤ i + 1) := by
    rw [Bool.eq_iff_iff]; simp
  rw [e]
  by_cases h1 : x.op = 1
  · simp [h1, Bool.and_assoc]
  by_cases h2 : x.op = 2
  · simp [h2, Bool.and_assoc]
  by_cases h3 : x.op = 3
  · simp [h3]
  by_cases h4 : x.op = 4
  · simp [h4]
  by_cases h5 : x.op = 5
  · simp [h5]
  · simp [h1, h2, h3, h4, h5]

/-- All instructions from a place on keep it. -/
def refFrom (n m : Nat) : Nat → List In → Bool
  | _, [] => true
  | i, x :: l => refIn n m i x && refFrom n m (i + 1) l

theorem refFrom_eq (n m : Nat) (l : List In) : ∀ i, i + l.length = n → refFrom n m i l = (l.all (rightIn n m) && !(decide (lastOp l = 1) || decide (lastOp l = 4))) := by
  induction l with
  | nil => intro i _; simp [refFrom, lastOp]
  | cons x l ih =>
    intro i h
    have hl : i + 1 + l.length = n := by simp at h; omega
    rw [refFrom, ih (i + 1) hl, refIn_iff, List.all_cons]
    cases l with
    | nil =>
      clear ih
      have : decide (n ≤ i + 1) = true := decide_eq_true (by simp at hl; omega)
      rw [this]
      by_cases h1 : x.op = 1 <;> by_cases h4 : x.op = 4 <;> simp [lastOp, h1, h4]
    | cons y l =>
      have : decide (n ≤ i + 1) = false := decide_eq_false (by simp at hl; omega)
      rw [this]
      have : lastOp (x :: y :: l) = lastOp (y :: l) := by simp [lastOp, List.getLast?_cons_cons]
      rw [this]
      simp [Bool.and_assoc]

theorem right_ref {c : Co} : right c = (decide (1 ≤ c.ins.length) && decide (c.ins.length ≤ 2000) && decide (c.sets.length ≤ 2000) && c.sets.all RS.right && refFrom c.ins.length c.sets.length 0 c.ins) := by
  rw [refFrom_eq _ _ _ 0 (by omega)]
  unfold right
  generalize c.sets.all RS.right = a
  generalize c.ins.all (rightIn c.ins.length c.sets.length) = b
  generalize (decide (lastOp c.ins = 1) || decide (lastOp c.ins = 4)) = d
  generalize decide (1 ≤ c.ins.length) = e
  generalize decide (c.ins.length ≤ 2000) = f
  generalize decide (c.sets.length ≤ 2000) = g
  revert a b d e f g
  decide

end VM
namespace Go.Proofs.YtddjppkpgflbjaaDoor
open Go.RowKit Go.Shelf

set_option maxHeartbeats 4000000 in
set_option maxRecDepth 100000 in
theorem refRight_any (sv iv : Value) (c : VM.Co) (w : World) (F : Small w.heap.size w sv iv c) :
    Calls Tryd.prog 11 #[.agg #[sv, iv]] w fun e w' => e = .returned (.bool (VM.right c)) ∧ Below w.heap.size w w' := by
  have hl1 := F.lens.1
  have hl2 := F.lens.2.1
  have HF : Hid (Small w.heap.size w sv iv c) := F
  obtain ⟨sao, scap, hsv, hsc, hscell⟩ := F.code.1
  obtain ⟨iao, icap, hiv, hic, hcell⟩ := F.code.2
  have HSC : Hid _ := hscell
  have HIC : Hid _ := hcell
  obtain ⟨n, hn⟩ : ∃ n, n = c.ins.length := ⟨_, rfl⟩
  obtain ⟨m, hm⟩ : ∃ m, m = c.sets.length := ⟨_, rfl⟩
  have HN : Hid (n = c.ins.length) := hn
  have HMM : Hid (m = c.sets.length) := hm
  rw [← hm] at hsv hl2 hsc
  rw [← hn] at hiv hl1 hic
  have HR : Hid (VM.right c = (decide (1 ≤ n) && decide (n ≤ 2000) && decide (m ≤ 2000) && c.sets.all RS.right && VM.refFrom n m 0 c.ins)) := by
    show _ = _
    rw [hn, hm]; exact VM.right_ref
  clear F hscell hcell hn hm
  have HB0 : Hid (Below w.heap.size w (w.alloc (.cells #[sv, iv] 25))) := (Below.refl _ w).alloc (Nat.le_refl _) _
  have Q := in_any (n : Nat) 1 2000 (w.alloc (.cells #[sv, iv] 25))
  have hq : (decide ((1 : Int) ≤ (n : Nat)) && decide (((n : Nat) : Int) ≤ 2000)) = (decide (1 ≤ n) && decide (n ≤ 2000)) := by rw [Bool.eq_iff_iff]; simp; omega
  rw [hq] at Q
  clear hq
  by_cases h1 : ¬ (1 ≤ n ∧ n ≤ 2000)
  · have e1 : (decide (1 ≤ n) && decide (n ≤ 2000)) = false := by simp; omega
    rw [e1] at Q
    subst hsv hiv
    go_enter Tryd.func11, Tryd.ntmps11
    go_wp2_with fail
    refine Q.mono ?_
    rintro e w' ⟨rfl, rfl⟩
    clear Q
    go_wp2_with fail
    go_ret
    exact ⟨ret_bool (by rw [HR.out, e1]; rfl), HB0.out⟩
  have e1 : (decide (1 ≤ n) && decide (n ≤ 2000)) = true := by simp; omega
  rw [e1] at Q
  have HE : Hid ((decide (1 ≤ n) && decide (n ≤ 2000)) = true) := e1
  clear e1
  by_cases h2 : ¬ m ≤ 2000
  · have h2' : (2000 : Int) < (m : Int) := by omega
    subst hsv hiv
    go_enter Tryd.func11, Tryd.ntmps11
    go_wp2_with fail
    refine Q.mono ?_
    rintro e w' ⟨rfl, rfl⟩
    clear Q
    go_wp2_with fail
    go_ret
    exact ⟨ret_bool (by rw [HR.out, HE.out]; simp [h2]), HB0.out⟩
  have h2' : ¬ (2000 : Int) < (m : Int) := by omega
  subst hsv hiv
  go_enter Tryd.func11, Tryd.ntmps11
  go_wp2_with fail
  refine Q.mono ?_
  rintro e w' ⟨rfl, rfl⟩
  clear Q
  go_wp2_with fail
  have hW1 : (w.alloc (.cells #[Value.slice sao m scap, Value.slice iao n icap] 25)).heap.size = w.heap.size + 1 := by simp
  have c0 : (w.alloc (.cells #[Value.slice sao m scap, Value.slice iao n icap] 25)).cell? ⟨w.heap.size, 0, none⟩ = some (Value.slice sao m scap) := by simp
  have c1 : (w.alloc (.cells #[Value.slice sao m scap, Value.slice iao n icap] 25)).cell? ⟨w.heap.size, 1, none⟩ = some (Value.slice iao n icap) := by simp
  have HB0' := HB0.out
  have HB1 : Hid (∀ wr, Below (w.heap.size + 1) (w.alloc (.cells #[Value.slice sao m scap, Value.slice iao n icap] 25)) wr → Below w.heap.size w wr) := fun wr h => HB0'.trans (h.mono (by omega))
  have HC0 : Hid (∀ wr, Below (w.heap.size + 1) (w.alloc (.cells #[Value.slice sao m scap, Value.slice iao n icap] 25)) wr → wr.cell? ⟨w.heap.size, 0, none⟩ = some (Value.slice sao m scap) ∧ wr.cell? ⟨w.heap.size, 1, none⟩ = some (Value.slice iao n icap)) := fun wr h => ⟨(h.cell (p := ⟨w.heap.size, 0, none⟩) (by simp)).trans c0, (h.cell (p := ⟨w.heap.size, 1, none⟩) (by simp)).trans c1⟩
  have HBR : Hid (Below (w.heap.size + 1) (w.alloc (.cells #[Value.slice sao m scap, Value.slice iao n icap] 25)) (w.alloc (.cells #[Value.slice sao m scap, Value.slice iao n icap] 25))) := Below.refl _ _
  clear c0 c1 HB0'
  generalize w.alloc (.cells #[Value.slice sao m scap, Value.slice iao n icap] 25) = W0 at *
  go_loopw [24] (fun i wr => ∃ k : Nat, i = .int .i64 k ∧ k ≤ m ∧ Below (w.heap.size + 1) W0 wr ∧ c.sets.all RS.right = (c.sets.drop k).all RS.right) (fun i _ => m - (intOf i).toNat)
  case atStart => exact ⟨0, rfl, Nat.zero_le _, HBR.out, rfl⟩
  case round =>
    obtain ⟨k, rfl, hk, hb, hall⟩ := hrel
    obtain ⟨d0, d1⟩ := HC0.out wr hb
    have HBW : Hid (Below (w.heap.size + 1) W0 wr) := hb
    have HA : Hid (c.sets.all RS.right = (c.sets.drop k).all RS.right) := hall
    clear hb hall
    by_cases hlt : k < m
    · have hks : k < c.sets.length := by have := HMM.out; omega
      obtain ⟨b, off, rfl, hbw, hcs⟩ := HSC.out (fun e => by rw [e] at hks; simp at hks)
      obtain ⟨u, hu, hug⟩ := hcs k hks
      have hbel := HB1.out wr HBW.out
      have ju := (hbel.cell (p := ⟨b, off + k, none⟩) (by exact hbw)).trans hu
      have C := rright_any u c.sets[k] (HF.out.lens.2.2 _ (List.getElem_mem hks)) wr (hug.below hbel _ hbel.size)
      have HD : Hid ((c.sets.drop k).all RS.right = (RS.right c.sets[k] && (c.sets.drop (k + 1)).all RS.right)) := by
        show _ = _
        rw [List.drop_eq_getElem_cons hks, List.all_cons]
      obtain ⟨q, hq⟩ : ∃ q, q = RS.right c.sets[k] := ⟨_, rfl⟩
      rw [← hq] at C
      have HQ : Hid (q = RS.right c.sets[k]) := hq
      clear hcs hu hug hbel hq
      have hkz : (k : Int) < (m : Int) := by omega
      go_wp2_with fail
      refine C.mono ?_
      rintro e w1 ⟨rfl, hb1⟩
      have HBW1 : Hid (Below (w.heap.size + 1) W0 w1) := HBW.out.trans (hb1.mono (by have := HBW.out.size; omega))
      clear C ju hb1
      cases q with
      | false =>
        go_wp2_with fail
        go_ret
        exact ⟨ret_bool (by rw [HR.out, HA.out, HD.out, ← HQ.out]; simp), HB1.out _ HBW1.out⟩
      | true =>
        go_wp2_with fail
        case roundEnd => exact ⟨⟨k + 1, by go_num, by omega, HBW1.out, by rw [HA.out, HD.out, ← HQ.out]; simp⟩, by simp [intOf]; omega⟩
    · have HS : Hid (c.sets.all RS.right = true) := by
        show _ = _
        rw [HA.out, List.drop_of_length_le (by have := HMM.out; omega)]; rfl
      have hkz : ¬ ((k : Int) < (m : Int)) := by omega
      clear HA
      have HWR : Hid (Below (w.heap.size + 1) W0 wr) := HBW.out
      clear HBW hlt hk
      go_wp2_with fail
      go_loopw [35] (fun i wr => ∃ j : Nat, i = .int .i64 j ∧ j ≤ n ∧ Below (w.heap.size + 1) W0 wr ∧ VM.refFrom n m 0 c.ins = VM.refFrom n m j (c.ins.drop j)) (fun i _ => n - (intOf i).toNat)
      case atStart => exact ⟨0, rfl, Nat.zero_le _, HWR.out, rfl⟩
      case round =>
        obtain ⟨j, rfl, hj, hb, hall⟩ := hrel
        clear d0 d1
        obtain ⟨d0, d1⟩ := HC0.out _ hb
        have HBW : Hid (Below (w.heap.size + 1) W0 _) := hb
        have HA : Hid (VM.refFrom n m 0 c.ins = VM.refFrom n m j (c.ins.drop j)) := hall
        clear hb hall HWR
        by_cases hlt : j < n
        · have hks : j < c.ins.length := by have := HN.out; omega
          obtain ⟨b, off, rfl, hbw, hcs⟩ := HIC.out (fun e => by rw [e] at hks; simp at hks)
          obtain ⟨i0, i1, i2⟩ := hcs j hks
          have hbel := HB1.out _ HBW.out
          have j0 := (hbel.cell (p := ⟨b, off + j * 3, none⟩) (by exact hbw)).trans i0
          have j1 := (hbel.cell (p := ⟨b, off + j * 3 + 1, none⟩) (by exact hbw)).trans i1
          have j2 := (hbel.cell (p := ⟨b, off + j * 3 + 2, none⟩) (by exact hbw)).trans i2
          have HD : Hid (VM.refFrom n m j (c.ins.drop j) = (VM.refIn n m j c.ins[j] && VM.refFrom n m (j + 1) (c.ins.drop (j + 1)))) := by
            show _ = _
            rw [List.drop_eq_getElem_cons hks]; rfl
          generalize c.ins[j] = x at j0 j1 j2 HD
          obtain ⟨o, a, e⟩ := x
          dsimp only at j0 j1 j2
          obtain ⟨q, hq⟩ : ∃ q, q = VM.refIn n m j ⟨o, a, e⟩ := ⟨_, rfl⟩
          rw [← hq] at HD
          have HAL := HBW.out.alloc (by have := HBW.out.size; omega) (.cells #[.int .i64 o, .int .i64 a, .int .i64 e] 50)
          have HAL' : Hid _ := HAL
          obtain ⟨f0, -⟩ := HC0.out _ HAL
          clear hcs i0 i1 i2 hbel HAL
          have hkz : (j : Int) < (n : Int) := by omega
          by_cases o1 : o = 1
          · subst o1
            have hp : q = true ↔ 0 ≤ a ∧ a < m ∧ e = 0 ∧ (j : Int) + 1 < n := by
              rw [hq]; unfold VM.refIn; simp [and_assoc]; omega
            clear hq
            by_cases p4 : ¬ (0 ≤ a)
            · have HQ : Hid (q = false) := Bool.eq_false_iff.2 fun hq => absurd (hp.1 hq) (by omega)
              clear hp
              go_wp2_with fail
              go_ret
              exact ⟨ret_bool (by rw [HR.out, HE.out, HS.out, HA.out, HD.out, HQ.out]; simp), HB1.out _ HAL'.out⟩
            replace p4 := Decidable.not_not.1 p4
            by_cases p3 : ¬ (a < m)
            · have HQ : Hid (q = false) := Bool.eq_false_iff.2 fun hq => absurd (hp.1 hq) (by omega)
              clear hp
              go_wp2_with fail
              go_ret
              exact ⟨ret_bool (by rw [HR.out, HE.out, HS.out, HA.out, HD.out, HQ.out]; simp), HB1.out _ HAL'.out⟩
            replace p3 := Decidable.not_not.1 p3
            by_cases p2 : ¬ (e = 0)
            · have HQ : Hid (q = false) := Bool.eq_false_iff.2 fun hq => absurd (hp.1 hq) (by omega)
              clear hp
              have z2 : (e == 0) = false := by simpa using p2
              go_wp2_with fail
              go_ret
              exact ⟨ret_bool (by rw [HR.out, HE.out, HS.out, HA.out, HD.out, HQ.out]; simp), HB1.out _ HAL'.out⟩
            replace p2 := Decidable.not_not.1 p2
            subst p2
            by_cases p1 : ¬ ((j : Int) + 1 < n)
            · have HQ : Hid (q = false) := Bool.eq_false_iff.2 fun hq => absurd (hp.1 hq) (by omega)
              clear hp
              go_wp2_with fail
              go_ret
              exact ⟨ret_bool (by rw [HR.out, HE.out, HS.out, HA.out, HD.out, HQ.out]; simp), HB1.out _ HAL'.out⟩
            replace p1 := Decidable.not_not.1 p1
            have HQ : Hid (q = true) := hp.2 (by omega)
            clear hp
            go_wp2_with fail
            case roundEnd => exact ⟨⟨j + 1, by go_num, by omega, HAL'.out, by rw [HA.out, HD.out, HQ.out]; simp⟩, by simp [intOf]; omega⟩
          have z11 : (o == 1) = false := by simpa using o1
          by_cases o2 : o = 2
          · subst o2
            have hp : q = true ↔ 0 ≤ a ∧ a < n ∧ 0 ≤ e ∧ e < n := by
              rw [hq]; unfold VM.refIn; simp [and_assoc]
            clear hq
            by_cases p4 : ¬ (0 ≤ a)
            · have HQ : Hid (q = false) := Bool.eq_false_iff.2 fun hq => absurd (hp.1 hq) (by omega)
              clear hp
              go_wp2_with fail
              go_ret
              exact ⟨ret_bool (by rw [HR.out, HE.out, HS.out, HA.out, HD.out, HQ.out]; simp), HB1.out _ HAL'.out⟩
            replace p4 := Decidable.not_not.1 p4
            by_cases p3 : ¬ (a < n)
            · have HQ : Hid (q = false) := Bool.eq_false_iff.2 fun hq => absurd (hp.1 hq) (by omega)
              clear hp
              go_wp2_with fail
              go_ret
              exact ⟨ret_bool (by rw [HR.out, HE.out, HS.out, HA.out, HD.out, HQ.out]; simp), HB1.out _ HAL'.out⟩
            replace p3 := Decidable.not_not.1 p3
            by_cases p2 : ¬ (0 ≤ e)
            · have HQ : Hid (q = false) := Bool.eq_false_iff.2 fun hq => absurd (hp.1 hq) (by omega)
              clear hp
              go_wp2_with fail
              go_ret
              exact ⟨ret_bool (by rw [HR.out, HE.out, HS.out, HA.out, HD.out, HQ.out]; simp), HB1.out _ HAL'.out⟩
            replace p2 := Decidable.not_not.1 p2
            by_cases p1 : ¬ (e < n)
            · have HQ : Hid (q = false) := Bool.eq_false_iff.2 fun hq => absurd (hp.1 hq) (by omega)
              clear hp
              go_wp2_with fail
              go_ret
              exact ⟨ret_bool (by rw [HR.out, HE.out, HS.out, HA.out, HD.out, HQ.out]; simp), HB1.out _ HAL'.out⟩
            replace p1 := Decidable.not_not.1 p1
            have HQ : Hid (q = true) := hp.2 (by omega)
            clear hp
            go_wp2_with fail
            case roundEnd => exact ⟨⟨j + 1, by go_num, by omega, HAL'.out, by rw [HA.out, HD.out, HQ.out]; simp⟩, by simp [intOf]; omega⟩
          have z12 : (o == 2) = false := by simpa using o2
          by_cases o3 : o = 3
          · subst o3
            have hp : q = true ↔ 0 ≤ a ∧ a < n ∧ e = 0 := by
              rw [hq]; unfold VM.refIn; simp [and_assoc]
            clear hq
            by_cases p3 : ¬ (0 ≤ a)
            · have HQ : Hid (q = false) := Bool.eq_false_iff.2 fun hq => absurd (hp.1 hq) (by omega)
              clear hp
              go_wp2_with fail
              go_ret
              exact ⟨ret_bool (by rw [HR.out, HE.out, HS.out, HA.out, HD.out, HQ.out]; simp), HB1.out _ HAL'.out⟩
            replace p3 := Decidable.not_not.1 p3
            by_cases p2 : ¬ (a < n)
            · have HQ : Hid (q = false) := Bool.eq_false_iff.2 fun hq => absurd (hp.1 hq) (by omega)
              clear hp
              go_wp2_with fail
              go_ret
              exact ⟨ret_bool (by rw [HR.out, HE.out, HS.out, HA.out, HD.out, HQ.out]; simp), HB1.out _ HAL'.out⟩
            replace p2 := Decidable.not_not.1 p2
            by_cases p1 : ¬ (e = 0)
            · have HQ : Hid (q = false) := Bool.eq_false_iff.2 fun hq => absurd (hp.1 hq) (by omega)
              clear hp
              have z1 : (e == 0) = false := by simpa using p1
              go_wp2_with fail
              go_ret
              exact ⟨ret_bool (by rw [HR.out, HE.out, HS.out, HA.out, HD.out, HQ.out]; simp), HB1.out _ HAL'.out⟩
            replace p1 := Decidable.not_not.1 p1
            subst p1
            have HQ : Hid (q = true) := hp.2 (by omega)
            clear hp
            go_wp2_with fail
            case roundEnd => exact ⟨⟨j + 1, by go_num, by omega, HAL'.out, by rw [HA.out, HD.out, HQ.out]; simp⟩, by simp [intOf]; omega⟩
          have z13 : (o == 3) = false := by simpa using o3
          by_cases o4 : o = 4
          · subst o4
            have hp : q = true ↔ a = 0 ∧ e = 0 ∧ (j : Int) + 1 < n := by
              rw [hq]; unfold VM.refIn; simp [and_assoc]; omega
            clear hq
            by_cases p3 : ¬ (a = 0)
            · have HQ : Hid (q = false) := Bool.eq_false_iff.2 fun hq => absurd (hp.1 hq) (by omega)
              clear hp
              have z3 : (a == 0) = false := by simpa using p3
              go_wp2_with fail
              go_ret
              exact ⟨ret_bool (by rw [HR.out, HE.out, HS.out, HA.out, HD.out, HQ.out]; simp), HB1.out _ HAL'.out⟩
            replace p3 := Decidable.not_not.1 p3
            subst p3
            by_cases p2 : ¬ (e = 0)
            · have HQ : Hid (q = false) := Bool.eq_false_iff.2 fun hq => absurd (hp.1 hq) (by omega)
              clear hp
              have z2 : (e == 0) = false := by simpa using p2
              go_wp2_with fail
              go_ret
              exact ⟨ret_bool (by rw [HR.out, HE.out, HS.out, HA.out, HD.out, HQ.out]; simp), HB1.out _ HAL'.out⟩
            replace p2 := Decidable.not_not.1 p2
            subst p2
            by_cases p1 : ¬ ((j : Int) + 1 < n)
            · have HQ : Hid (q = false) := Bool.eq_false_iff.2 fun hq => absurd (hp.1 hq) (by omega)
              clear hp
              go_wp2_with fail
              go_ret
              exact ⟨ret_bool (by rw [HR.out, HE.out, HS.out, HA.out, HD.out, HQ.out]; simp), HB1.out _ HAL'.out⟩
            replace p1 := Decidable.not_not.1 p1
            have HQ : Hid (q = true) := hp.2 (by omega)
            clear hp
            go_wp2_with fail
            case roundEnd => exact ⟨⟨j + 1, by go_num, by omega, HAL'.out, by rw [HA.out, HD.out, HQ.out]; simp⟩, by simp [intOf]; omega⟩
          have z14 : (o == 4) = false := by simpa using o4
          by_cases o5 : o = 5
          · subst o5
            have hp : q = true ↔ a = 0 ∧ e = 0 := by
              rw [hq]; unfold VM.refIn; simp
            clear hq
            by_cases p2 : ¬ (a = 0)
            · have HQ : Hid (q = false) := Bool.eq_false_iff.2 fun hq => absurd (hp.1 hq) (by omega)
              clear hp
              have z2 : (a == 0) = false := by simpa using p2
              go_wp2_with fail
              go_ret
              exact ⟨ret_bool (by rw [HR.out, HE.out, HS.out, HA.out, HD.out, HQ.out]; simp), HB1.out _ HAL'.out⟩
            replace p2 := Decidable.not_not.1 p2
            subst p2
            by_cases p1 : ¬ (e = 0)
            · have HQ : Hid (q = false) := Bool.eq_false_iff.2 fun hq => absurd (hp.1 hq) (by omega)
              clear hp
              have z1 : (e == 0) = false := by simpa using p1
              go_wp2_with fail
              go_ret
              exact ⟨ret_bool (by rw [HR.out, HE.out, HS.out, HA.out, HD.out, HQ.out]; simp), HB1.out _ HAL'.out⟩
            replace p1 := Decidable.not_not.1 p1
            subst p1
            have HQ : Hid (q = true) := hp.2 (by omega)
            clear hp
            go_wp2_with fail
            case roundEnd => exact ⟨⟨j + 1, by go_num, by omega, HAL'.out, by rw [HA.out, HD.out, HQ.out]; simp⟩, by simp [intOf]; omega⟩
          have z15 : (o == 5) = false := by simpa using o5
          have HQ : Hid (q = false) := by show _ = _; rw [hq]; unfold VM.refIn; simp [o1, o2, o3, o4, o5]
          clear hq
          go_wp2_with fail
          go_ret
          exact ⟨ret_bool (by rw [HR.out, HE.out, HS.out, HA.out, HD.out, HQ.out]; simp), HB1.out _ HAL'.out⟩
        · have hkz : ¬ ((j : Int) < (n : Int)) := by omega
          go_wp2_with fail
          go_ret
          exact ⟨ret_bool (by rw [HR.out, HE.out, HS.out, HA.out, List.drop_of_length_le (by have := HN.out; omega)]; simp [VM.refFrom]; omega), HB1.out _ HBW.out⟩

end Go.Proofs.YtddjppkpgflbjaaDoor
